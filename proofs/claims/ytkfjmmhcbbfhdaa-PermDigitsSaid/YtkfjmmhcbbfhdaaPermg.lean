/- Numbers of mixed digits read backwards: plain numbers, no Go text. -/
import Derived.Test.YtkfjmmhcbbfhdaaPermr
namespace Go.Proofs.Ytkfjmmhcbbfhdaa
open Go.ChangeShapes Go.WideShapes Go.ChangeAt Go.RowKit
set_option linter.unusedVariables false
/-- What the digits make. -/
def prd : List Nat → Nat
  | [] => 1
  | r :: rs => r * prd rs
theorem prd_app : ∀ (a b : List Nat), prd (a ++ b) = prd a * prd b
  | [], b => by rw [List.nil_append, prd, Nat.one_mul]
  | r :: a, b => by rw [List.cons_append, prd, prd_app a b, prd, Nat.mul_assoc]
theorem prd_rev : ∀ (a : List Nat), prd a.reverse = prd a
  | [] => rfl
  | r :: a => by rw [List.reverse_cons, prd_app, prd_rev a, prd, prd, prd, Nat.mul_one, Nat.mul_comm]
/-- The digits of k backwards. -/
def dg : List Nat → Nat → Nat
  | [], _ => 0
  | r :: rs, k => (k % r) * prd rs + dg rs (k / r)
theorem prd_pos : ∀ (rs : List Nat), (∀ r ∈ rs, 0 < r) → 0 < prd rs
  | [], _ => by simp [prd]
  | r :: rs, h => by rw [prd]; exact Nat.mul_pos (h r (by simp)) (prd_pos rs (fun x hx => h x (by simp [hx])))
theorem dg_lt : ∀ (rs : List Nat), (∀ r ∈ rs, 0 < r) → ∀ k, dg rs k < prd rs
  | [], _, _ => by simp [dg, prd]
  | r :: rs, h, k => by
    have h1 := dg_lt rs (fun x hx => h x (by simp [hx])) (k / r)
    have h2 := Nat.mul_le_mul_right (prd rs) (show k % r + 1 ≤ r from Nat.mod_lt k (h r (by simp)))
    rw [Nat.succ_mul] at h2
    rw [dg, prd]; omega
theorem dg_zero : ∀ (rs : List Nat), dg rs 0 = 0
  | [] => rfl
  | r :: rs => by rw [dg, Nat.zero_mod, Nat.zero_div, dg_zero rs, Nat.zero_mul]
/-- One digit more, as the program counts. -/
theorem dg_step : ∀ (pre : List Nat) (r : Nat) (post : List Nat) (d i : Nat), (∀ x ∈ pre, 0 < x) → d < r → i < prd pre →
    dg (pre ++ r :: post) (d * prd pre + i) = dg (pre ++ r :: post) i + d * prd post
  | [], r, post, d, i, _, hd, hi => by
    have : i = 0 := by simpa [prd] using hi
    subst this
    rw [List.nil_append, prd, Nat.mul_one, Nat.add_zero, dg, dg_zero, Nat.mod_eq_of_lt hd, Nat.div_eq_of_lt hd, dg_zero]; omega
  | p :: pre, r, post, d, i, hp, hd, hi => by
    have p0 := hp p (by simp)
    have e : d * prd (p :: pre) + i = i + p * (d * prd pre) := by rw [prd, ← Nat.mul_assoc, Nat.mul_comm d p, Nat.mul_assoc, Nat.add_comm]
    rw [prd] at hi
    have hq : i / p < prd pre := Nat.div_lt_of_lt_mul hi
    rw [e, List.cons_append, dg, dg, Nat.add_mul_mod_self_left, Nat.add_mul_div_left _ _ p0, Nat.add_comm (i / p), dg_step pre r post d (i / p) (fun x hx => hp x (by simp [hx])) hd hq]
    omega
/-- The last digit by itself. -/
theorem dg_last : ∀ (rs : List Nat) (r q i : Nat), (∀ x ∈ rs, 0 < x) → q < r → i < prd rs → dg (rs ++ [r]) (q * prd rs + i) = r * dg rs i + q
  | [], r, q, i, _, hq, hi => by
    have : i = 0 := by simpa [prd] using hi
    subst this
    simp [dg, prd, Nat.mod_eq_of_lt hq]
  | p :: rs, r, q, i, hp, hq, hi => by
    have p0 := hp p (by simp)
    have e : q * prd (p :: rs) + i = i + p * (q * prd rs) := by rw [prd, ← Nat.mul_assoc, Nat.mul_comm q p, Nat.mul_assoc, Nat.add_comm]
    rw [prd] at hi
    have hq2 : i / p < prd rs := Nat.div_lt_of_lt_mul hi
    rw [e, List.cons_append, dg, dg, Nat.add_mul_mod_self_left, Nat.add_mul_div_left _ _ p0, Nat.add_comm (i / p), dg_last rs r q (i / p) (fun x hx => hp x (by simp [hx])) hq hq2, prd_app, prd, prd, Nat.mul_one, Nat.mul_add, show i % p * (prd rs * r) = r * (i % p * prd rs) by rw [← Nat.mul_assoc, Nat.mul_comm]]
    omega
theorem dg_back : ∀ (rs : List Nat) (k : Nat), (∀ x ∈ rs, 0 < x) → k < prd rs → dg rs.reverse (dg rs k) = k
  | [], k, _, h => by have : k = 0 := by simpa [prd] using h
                      rw [this]; rfl
  | r :: rs, k, hp, h => by
    have hp' : ∀ x ∈ rs, 0 < x := fun x hx => hp x (by simp [hx])
    rw [prd] at h
    have hq : k / r < prd rs := Nat.div_lt_of_lt_mul h
    have := dg_last rs.reverse r (k % r) (dg rs (k / r)) (fun x hx => hp' x (by simpa using hx)) (Nat.mod_lt k (hp r (by simp))) (by rw [prd_rev]; exact dg_lt rs hp' _)
    rw [prd_rev] at this
    rw [List.reverse_cons, dg, this, dg_back rs (k / r) hp' hq]
    have := Nat.div_add_mod k r
    omega
theorem dg_twos : ∀ (t k : Nat), k < 2 ^ t → dg (List.replicate t 2) k = rv t k ∧ prd (List.replicate t 2) = 2 ^ t
  | 0, _, _ => ⟨rfl, rfl⟩
  | t + 1, k, h => by
    rw [Nat.pow_succ] at h
    obtain ⟨h1, h2⟩ := dg_twos t (k / 2) (by omega)
    have := rv_dual t (k / 2) (k % 2) (by omega) (by omega)
    rw [show 2 * (k / 2) + k % 2 = k by omega] at this
    rw [List.replicate_succ, dg, prd, h1, h2, this, Nat.pow_succ]
    omega
end Go.Proofs.Ytkfjmmhcbbfhdaa
