/- Twice transformed: the sums. Plain numbers: no Go text. -/
import Derived.Test.YtkijiljipacfjaaOrd
namespace Go.Proofs.Ytkijiljipacfjaa
open Go.ChangeShapes Go.WideShapes Go.ChangeAt Go.RowKit
set_option linter.unusedVariables false
theorem ps_congr {a b : Int} (h : fm a = fm b) : ∀ xs ys : List Int, xs.map fm = ys.map fm → fm (ps a xs) = fm (ps b ys)
  | [], [], _ => rfl
  | [], _ :: _, e => by simp at e
  | _ :: _, [], e => by simp at e
  | x :: r, y :: s, e => by
    simp only [List.map_cons, List.cons.injEq] at e
    have e1 : ps a (x :: r) = x + a * ps a r := rfl
    have e2 : ps b (y :: s) = y + b * ps b s := rfl
    rw [e1, e2, ← fm_add_fm, ← fm_mul_fm, e.1, h, ps_congr h r s e.2, fm_mul_fm, fm_add_fm]
theorem ps_snoc (st y : Int) : ∀ l : List Int, ps st (l ++ [y]) = ps st l + st ^ l.length * y
  | [] => by simp [ps]
  | x :: r => by
    have e1 : ps st (x :: r ++ [y]) = x + st * ps st (r ++ [y]) := rfl
    have e2 : ps st (x :: r) = x + st * ps st r := rfl
    rw [e1, e2, ps_snoc st y r, List.length_cons, Int.pow_succ]
    grind
theorem ps_range (r st : Int) (xs : List Int) : ∀ n : Nat, ps st ((List.range n).map fun i => ps (r ^ i) xs) = dsum r st xs n
  | 0 => rfl
  | i + 1 => by
    rw [List.range_succ, List.map_append, List.map_cons, List.map_nil, ps_snoc, ps_range r st xs i]
    simp [dsum]
theorem twice_at (r s : Int) (xs : List Int) (n k : Nat) (hk : k < n) : (horl s (horl r xs n) n).getD k 0 = fm (esum r n (s ^ k) xs) := by
  rw [horl_at s _ n k hk, hor_ps, ← dsum_esum, ← ps_range]
  apply ps_congr (fm_fm _)
  unfold horl
  rw [List.map_map, List.map_map]
  apply List.map_congr_left
  intro i _
  show fm (hor (fm (r ^ i)) xs) = fm (ps (r ^ i) xs)
  rw [hor_ps, fm_fm]
  exact ps_congr (fm_fm _) xs xs rfl
theorem shift_pow (t r : Int) (j : Nat) : t * r * r ^ j = t * r ^ (j + 1) := by rw [Int.pow_succ]; grind
theorem esum_none (r : Int) (n : Nat) : ∀ (xs : List Int) (t : Int), (∀ j, j < xs.length → fm ((t * r ^ j) ^ n) = 1 ∧ fm (t * r ^ j) ≠ 1) → fm (esum r n t xs) = 0
  | [], t, _ => rfl
  | x :: rest, t, h => by
    have e : esum r n t (x :: rest) = x * gsum t n + esum r n (t * r) rest := rfl
    have h0 := h 0 (by simp)
    rw [Int.pow_zero, Int.mul_one] at h0
    have g := gsum_zero t n h0.1 h0.2
    have i := esum_none r n rest (t * r) (fun j hj => by rw [shift_pow]; exact h (j + 1) (by simp; omega))
    rw [e, ← fm_add_fm, i, ← fm_mul_r, g, Int.mul_zero]
    rfl
theorem esum_at (r : Int) (n : Nat) : ∀ (xs : List Int) (t : Int) (k : Nat), k < xs.length → (∀ j, j < xs.length → fm ((t * r ^ j) ^ n) = 1) → (∀ j, j < xs.length → j ≠ k → fm (t * r ^ j) ≠ 1) → fm (t * r ^ k) = 1 → fm (esum r n t xs) = fm (n * xs.getD k 0)
  | [], _, _, h, _, _, _ => by simp at h
  | x :: rest, t, 0, h, h1, h2, h3 => by
    have e : esum r n t (x :: rest) = x * gsum t n + esum r n (t * r) rest := rfl
    rw [Int.pow_zero, Int.mul_one] at h3
    have i := esum_none r n rest (t * r) (fun j hj => by rw [shift_pow]; exact ⟨h1 (j + 1) (by simp; omega), h2 (j + 1) (by simp; omega) (by omega)⟩)
    rw [e, ← fm_add_fm, i, ← fm_mul_r, gsum_one t h3 n, fm_mul_r, Int.add_zero, fm_fm, Int.mul_comm]
    rfl
  | x :: rest, t, k + 1, h, h1, h2, h3 => by
    have e : esum r n t (x :: rest) = x * gsum t n + esum r n (t * r) rest := rfl
    have z1 := h1 0 (by simp)
    have z2 := h2 0 (by simp) (by omega)
    rw [Int.pow_zero, Int.mul_one] at z1 z2
    have g := gsum_zero t n z1 z2
    have i := esum_at r n rest (t * r) k (by simpa using h) (fun j hj => by rw [shift_pow]; exact h1 (j + 1) (by simp; omega)) (fun j hj hne => by rw [shift_pow]; exact h2 (j + 1) (by simp; omega) (by omega)) (by rw [shift_pow]; exact h3)
    rw [e, ← fm_add_fm, i, ← fm_mul_r, g, Int.mul_zero]
    have e0 : fm 0 = 0 := rfl
    rw [e0, Int.zero_add, fm_fm]
    rfl
end Go.Proofs.Ytkijiljipacfjaa
