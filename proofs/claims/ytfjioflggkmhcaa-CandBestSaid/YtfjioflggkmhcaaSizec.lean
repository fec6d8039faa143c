/- Which trees are plans, reckoned without a search for primes. -/
import Derived.Test.YtfjioflggkmhcaaSizes
namespace Go.Proofs.Ytfjioflggkmhcaa
open Go.ChangeShapes Go.WideShapes Go.ChangeAt Go.RowKit
set_option linter.unusedVariables false
set_option linter.unusedSimpArgs false
def nodeC (k n : Int) (m : Nat) (a b : Int) : Bool :=
  if k = 1 then decide (m = 0) && decide (n ≤ 64) && hasb n
  else if k = 2 then decide (m = 0) && decide (2 ≤ n) && few n
  else if k = 3 then decide (m = 0) && decide (2 ≤ n) && hasp n
  else if k = 4 then decide (m = 2) && hasb n && prodb n a b
  else if k = 5 then decide (m = 2) && hasb n && prodb n a b && decide (gcdz a b = 1)
  else if k = 6 then decide (m = 1) && decide (3 ≤ n) && hasb n && PS.contains n.toNat && decide (a = n - 1)
  else if k = 7 then decide (m = 1) && decide (2 ≤ n) && hasb n && hasp a && decide (2 * n - 1 ≤ a)
  else false
theorem has_mod {z : Nat} (h : (18446744069414584320 : Int) % (z : Int) = 0) : 18446744069414584320 % z = 0 := by
  obtain ⟨P, h1, h2⟩ : ∃ P : Nat, (P : Int) = 18446744069414584320 ∧ P = 18446744069414584320 := ⟨_, rfl, rfl⟩
  rw [← h1] at h
  rw [← h2]
  clear h1 h2
  exact_mod_cast h
theorem node_C (k n : Int) (m : Nat) (a b : Int) : nodeB k n m a b = nodeC k n m a b := by
  unfold nodeB nodeC
  cases hh : hasb n with
  | false => simp only [Bool.and_false, Bool.false_and]
  | true =>
    obtain ⟨h1, h2, h3⟩ := hasb_dvd hh
    obtain ⟨z, rfl⟩ : ∃ z : Nat, n = z := ⟨n.toNat, by omega⟩
    have h4 : 18446744069414584320 % z = 0 := has_mod h3
    have e := prb_ps (n := z) (by omega) (Nat.dvd_of_mod_eq_zero h4)
    rw [e, show ((z : Nat) : Int).toNat = z by omega]
def Nd.okC (d : Nd) : Bool := nodeC d.k d.n d.ks.len (d.ks.n 0) (d.ks.n 1)
def chkC (k n : Int) (ks : Fo) : Int := if 60 < ks.cnt + 1 ∨ 12 < ks.depth + 1 then 12 else if (Nd.mk k n ks :: ks.pre).all Nd.okC then 0 else 8
theorem chk_C (k n : Int) (ks : Fo) : chkd k n ks = chkC k n ks := by
  unfold chkd chkC
  have : (Nd.ok : Nd → Bool) = Nd.okC := funext fun d => node_C _ _ _ _ _
  rw [this]
def inB (x : Int) : Bool := decide (-9223372036854775808 ≤ x) && decide (x ≤ 9223372036854775807)
def wfB : Fo → Bool
  | .nil => true
  | .cons k n ks r => inB k && inB n && wfB ks && wfB r
def okB (n : Nat) (d : Nd) : Bool := decide (d.n = (n : Int)) && decide (chkC d.k d.n d.ks = 0) && inB d.k && wfB d.ks
def apartB : List Nd → Bool
  | [] => true
  | d :: l => (l.all fun e => decide (cmpN e.k e.n e.ks d.k d.n d.ks ≠ 0)) && apartB l
def rightB (n : Nat) : Bool := decide (1 ≤ (candC n).length) && decide ((candC n).length ≤ 12) && okB n (plC 40 n) && (candC n).all (okB n) && apartB (candC n)
def allR : Bool := (List.range 25).all fun a => (List.range 2).all fun b => (List.range 2).all fun c => (List.range 2).all fun d => (List.range 2).all fun e => (List.range 2).all fun f =>
  let n := 2 ^ a * (3 ^ b * (5 ^ c * (17 ^ d * (257 ^ e * 65537 ^ f))))
  !(decide (n ≤ 16777216)) || rightB n
end Go.Proofs.Ytfjioflggkmhcaa
