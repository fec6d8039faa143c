/- Bluestein's way: plain numbers, no Go text. -/
import Derived.Test.YtkijiljipacfjaaChirp3
import Derived.Test.YtkijiljipacfjaaConvm
namespace Go.Proofs.Ytkijiljipacfjaa
open Go.ChangeShapes Go.WideShapes Go.ChangeAt Go.RowKit
set_option linter.unusedVariables false
theorem tri_add (q : Nat) : ∀ j, tri (q + j) = tri q + tri j + q * j
  | 0 => by simp [tri]
  | j + 1 => by
    rw [show q + (j + 1) = (q + j) + 1 by omega, tri, tri_add q j, tri, Nat.mul_add]
    omega
theorem pow_trin {r : Int} {n : Nat} (h : fm (r ^ n) = 1) (i : Nat) : fm (r ^ trin n i) = fm (r ^ tri i) := pow_mod h (tri i)
theorem chirp_term {r s : Int} {n : Nat} (hr : fm (r ^ n) = 1) (hs : fm (s ^ n) = 1) (hi : ∀ k : Nat, fm (s ^ k * r ^ k) = 1) (x : Int) (j q : Nat) :
    fm (fm (x * fm (s ^ trin n j)) * fm (r ^ trin n (q + j)) * s ^ tri q) = fm (x * (r ^ q) ^ j) := by
  rw [pow_trin hs, pow_trin hr, fm_mul_r x, ← fm_mul_l _ (s ^ tri q), fm_mul_fm, fm_mul_l, tri_add, Int.pow_add, Int.pow_add, ← Int.pow_mul]
  have e : x * s ^ tri j * (r ^ tri q * r ^ tri j * r ^ (q * j)) * s ^ tri q = (s ^ tri j * r ^ tri j) * ((s ^ tri q * r ^ tri q) * (x * r ^ (q * j))) := by grind
  rw [e, ← fm_mul_l, hi, Int.one_mul, ← fm_mul_l, hi, Int.one_mul]
/-- The rows as they stand, noughts behind. -/
theorem pad_at (ys : List Int) (z i : Nat) : (ys ++ List.replicate z 0).getD i 0 = ys.getD i 0 := by
  by_cases h : i < ys.length
  · simp only [List.getD]
    rw [List.getElem?_append_left h]
  · rw [getD_out ys i (by omega)]
    simp only [List.getD]
    rw [List.getElem?_append_right (by omega), List.getElem?_replicate]
    split <;> rfl
theorem chirp_part {r s : Int} {n : Nat} (hr : fm (r ^ n) = 1) (hs : fm (s ^ n) = 1) (hi : ∀ k : Nat, fm (s ^ k * r ^ k) = 1) (xs : List Int) (hx : xs.length = n) (m : Nat) (hm : 2 * n - 1 ≤ m) (q : Nat) (hq : q < n) (zf zk : Nat) :
    ∀ i, i ≤ n → fm (csn (forel s xs n ++ List.replicate zf 0) (rowc r n (2 * n - 1) ++ List.replicate zk 0) m i (n - 1 + q) * s ^ tri q) = fm ((r ^ q) ^ (n - i) * ps (r ^ q) (xs.drop (n - i)))
  | 0, _ => by
    rw [csn, Int.zero_mul, Nat.sub_zero, List.drop_of_length_le (by omega)]
    show fm 0 = fm (_ * 0)
    rw [Int.mul_zero]
  | i + 1, h => by
    have ih := chirp_part hr hs hi xs hx m hm q hq zf zk i (by omega)
    have hj : n - 1 - i < n := by omega
    rw [csn, pad_at, pad_at, forel_at _ _ _ _ (by omega)]
    have e1 : (n - 1 + q + m - i) % m = q + (n - 1 - i) := by
      rw [show n - 1 + q + m - i = (q + (n - 1 - i)) + m by omega, Nat.add_mod_right, Nat.mod_eq_of_lt (by omega)]
    rw [e1, rowc_at _ _ _ _ (by omega), fm_add_r, fm_mul_l, Int.add_mul, ← fm_add_fm, ih, chirp_term hr hs hi, fm_add_fm]
    have e2 : n - (i + 1) = n - 1 - i := by omega
    have e3 : n - i = n - 1 - i + 1 := by omega
    rw [e2, e3]
    generalize n - 1 - i = j at *
    have e4 : xs.drop j = xs.getD j 0 :: xs.drop (j + 1) := by
      have e : xs.getD j 0 = xs[j]'(by omega) := by simp [List.getD, show j < xs.length by omega]
      rw [e]
      exact List.drop_eq_getElem_cons (by omega)
    rw [e4]
    congr 1
    show _ = (r ^ q) ^ j * (xs.getD j 0 + r ^ q * ps (r ^ q) (xs.drop (j + 1)))
    rw [Int.pow_succ]
    grind
theorem csn_still (xs ys : List Int) (m k n : Nat) (h0 : ∀ i, n ≤ i → xs.getD i 0 = 0) : ∀ i, n ≤ i → csn xs ys m i k = csn xs ys m n k
  | 0, h => by rw [show n = 0 by omega]
  | i + 1, h => by
    by_cases e : n = i + 1
    · rw [e]
    · have := csn_b xs ys m i k
      rw [csn, h0 i (by omega), Int.zero_mul, fm_zero, Int.add_zero, fm_small _ this.1 this.2]
      exact csn_still xs ys m k n h0 i (by omega)
/-- The product around, turned, is the transform. -/
theorem chirp_all {r s : Int} {n : Nat} (hr : fm (r ^ n) = 1) (hs : fm (s ^ n) = 1) (hi : ∀ k : Nat, fm (s ^ k * r ^ k) = 1) (xs : List Int) (hx : xs.length = n) (m : Nat) (h0 : 0 < n) (hm : 2 * n - 1 ≤ m) :
    aftl s (cycl (forel s xs n ++ List.replicate (m - n) 0) (rowc r n (2 * n - 1) ++ List.replicate (m - (2 * n - 1)) 0)) n = horl r xs n := by
  have hl : (forel s xs n ++ List.replicate (m - n) (0 : Int)).length = m := by rw [List.length_append, forel_len, List.length_replicate]; omega
  apply getD_ext (by rw [aftl_len, horl_len])
  intro q hq
  rw [aftl_len] at hq
  rw [aftl_at _ _ _ _ hq, horl_at _ _ _ _ hq, hor_fm, hor_ps]
  unfold cycl
  rw [hl, tab_at _ _ _ (by omega), csn_still _ _ m _ n (fun i h => by rw [pad_at, getD_out _ _ (by rw [forel_len]; exact h)]) m (by omega), pow_trin hs, fm_mul_r, chirp_part hr hs hi xs hx m hm q hq _ _ n (Nat.le_refl _), Nat.sub_self, Int.pow_zero, Int.one_mul, List.drop_zero]
end Go.Proofs.Ytkijiljipacfjaa
