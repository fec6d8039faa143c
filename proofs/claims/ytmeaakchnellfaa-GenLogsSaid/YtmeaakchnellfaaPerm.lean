/- Package perm: Right, Inverse, Stride; reference 8's. -/
import Derived.Test.YtmeaakchnellfaaPermc
import Derived.Test.YtmeaakchnellfaaRowb
import Derived.Test.YtmeaakchnellfaaSamei
import Derived.Test.YtmeaakchnellfaaOwni
namespace Go.Proofs.Ytmeaakchnellfaa
open Go.ChangeShapes Go.WideShapes Go.ChangeAt Go.RowKit
set_option linter.unusedVariables false
theorem seen_put (ps : List Int) (n k x : Nat) (h : ps.getD k 0 = x) : (tabb n fun v => sb ps v k).set x true = tabb n fun v => sb ps v (k + 1) := by
  apply tabb_set
  intro j hj
  show sb ps j (k + 1) = _
  rw [sb, h]
  by_cases e : j = x
  · rw [if_pos e, e]; simp
  · rw [if_neg e]
    have : (((x : Nat) : Int) == ((j : Nat) : Int)) = false := by simp; omega
    rw [this, Bool.or_false]
theorem inv_put (ps : List Int) (n k x : Nat) (h : ps.getD k 0 = x) : (tab n fun v => ((invl ps v k : Nat) : Int)).set x k = tab n fun v => ((invl ps v (k + 1) : Nat) : Int) := by
  apply tab_set
  intro j hj
  show ((invl ps j (k + 1) : Nat) : Int) = _
  rw [invl, h]
  by_cases e : j = x
  · rw [if_pos (by rw [e]), if_pos e]
  · rw [if_neg (by omega), if_neg e]
theorem inverl_wf (ps : List Int) (n : Nat) (hn : n ≤ 17592186044415) : ∀ z ∈ inverl ps n, (Lit.int .i64 z).wf = true := by
  have le : ∀ (v : Int) k, invl ps v k ≤ k := by
    intro v k
    induction k with
    | zero => exact Nat.le_refl _
    | succ k ih => rw [invl]; split <;> omega
  intro z hz
  unfold inverl tab at hz
  obtain ⟨k, _, rfl⟩ := List.mem_map.1 hz
  have := le k n
  exact WalkArith.wf_i64 ⟨by omega, by omega⟩
def sidesb (a b : Int) : Bool := decide (1 ≤ a ∧ a ≤ 16777216 ∧ 1 ≤ b ∧ b ≤ 16777216 ∧ a * b ≤ 16777216)
theorem sides_yes {a b : Int} (h : sidesb a b = true) : ∃ m n : Nat, a = m ∧ b = n ∧ 1 ≤ m ∧ m ≤ 16777216 ∧ 1 ≤ n ∧ n ≤ 16777216 ∧ m * n ≤ 16777216 := by
  have := of_decide_eq_true h
  refine ⟨a.toNat, b.toNat, by omega, by omega, by omega, by omega, by omega, by omega, ?_⟩
  have e : ((a.toNat * b.toNat : Nat) : Int) = a * b := by rw [Int.natCast_mul, Int.toNat_of_nonneg (by omega), Int.toNat_of_nonneg (by omega)]
  omega
theorem sides_of {m n : Nat} (h1 : 1 ≤ m) (h2 : 1 ≤ n) (h : m * n ≤ 16777216) : sidesb m n = true := by
  apply decide_eq_true
  have e1 : m ≤ m * n := Nat.le_mul_of_pos_right m (by omega)
  have e2 : n ≤ m * n := Nat.le_mul_of_pos_left n (by omega)
  have e : ((m * n : Nat) : Int) = (m : Int) * n := Int.natCast_mul _ _
  omega
theorem mul_bd {a b : Int} (a1 : 1 ≤ a) (a2 : a ≤ 16777216) (b1 : 1 ≤ b) (b2 : b ≤ 16777216) : 1 ≤ a * b ∧ a * b ≤ 281474976710656 := by
  constructor
  · have := Int.mul_le_mul a1 b1 (by omega) (by omega); omega
  · have := Int.mul_le_mul a2 b2 (by omega) (by omega); omega
theorem tdiv_le {a b : Int} (b1 : 1 ≤ b) : a ≤ (16777216 : Int).tdiv b ↔ a * b ≤ 16777216 := by
  rw [Int.tdiv_eq_ediv_of_nonneg (by omega)]
  exact Int.le_ediv_iff_mul_le (by omega)
end Go.Proofs.Ytmeaakchnellfaa
