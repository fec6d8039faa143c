/- Put together by program (merge.py): Gold Goldp. -/
import Derived.Shelf.Spec.BitsCarry
import Derived.Test.YtcfmiflhhjoofaaM1
/- The contracts of package gold (and of what it calls in wide and math/bits): each call returns the field's number that the exact one leaves. -/
namespace Go.Proofs.Ytcfmiflhhjoofaa
open Go.ChangeShapes Go.WideShapes Go.ChangeAt Go.RowKit
set_option linter.unusedVariables false

theorem add64_run (x y c : Int) (hx : 0 ≤ x) (hy : 0 ≤ y) (hc0 : 0 ≤ c) (hc : c ≤ 1) (w : World) :
    (callFunc 91 #[.int .u64 x, .int .u64 y, .int .u64 c]).run Try.prog w =
      .ok (.value (.tuple #[.int .u64 ((x + y + c) % 18446744073709551616), .int .u64 ((x + y + c) / 18446744073709551616)])) w := by
  rw [run_callFunc_extern Try.func91 (by kernel_rfl) (by kernel_rfl) (by kernel_rfl) (e := add64Entry) (by kernel_rfl), run_add64 x y c hx hy hc0 hc]
  rfl

theorem sub64_run (x y b : Int) (hx : 0 ≤ x) (hx1 : x ≤ 18446744073709551615) (hy : 0 ≤ y) (hy1 : y ≤ 18446744073709551615) (hc0 : 0 ≤ b) (hc : b ≤ 1) (w : World) :
    (callFunc 90 #[.int .u64 x, .int .u64 y, .int .u64 b]).run Try.prog w =
      .ok (.value (.tuple #[.int .u64 ((x - y - b) % 18446744073709551616), .int .u64 (if x < y + b then 1 else 0)])) w := by
  obtain ⟨X, rfl⟩ := Int.eq_ofNat_of_zero_le hx
  obtain ⟨Y, rfl⟩ := Int.eq_ofNat_of_zero_le hy
  obtain ⟨B, rfl⟩ := Int.eq_ofNat_of_zero_le hc0
  rw [run_callFunc_extern Try.func90 (by kernel_rfl) (by kernel_rfl) (by kernel_rfl) (e := sub64Entry) (by kernel_rfl), run_sub64 X Y B (by omega)]
  have e1 : (((X + 18446744073709551616 - Y - B) % 18446744073709551616 : Nat) : Int) = ((X : Int) - Y - B) % 18446744073709551616 := by omega
  have e2 : ((if X < Y + B then 1 else 0 : Nat) : Int) = if (X : Int) < (Y : Int) + (B : Int) then 1 else 0 := by
    by_cases h : X < Y + B
    · rw [if_pos h, if_pos (by omega)]; rfl
    · rw [if_neg h, if_neg (by omega)]; rfl
  rw [e1, e2]
  rfl

theorem gold_red (a : Int) (w : World) (h0 : 0 ≤ a) (h1 : a ≤ 18446744073709551615) :
    Calls Try.prog 92 #[.int .u64 a] w fun e w' => e = .returned (.int .u64 (fm a)) ∧ w = w' := by
  go_enter Try.func92, Try.ntmps92
  go_wp2
  all_goals go_ret
  all_goals (refine ⟨ret_u64 ?_, rfl⟩; unfold fm; omega)

theorem gold_add (a b : Int) (w : World) (h0 : 0 ≤ a) (h1 : a ≤ 18446744073709551615) (h2 : 0 ≤ b) (h3 : b ≤ 18446744073709551615) :
    Calls Try.prog 87 #[.int .u64 a, .int .u64 b] w fun e w' => e = .returned (.int .u64 (fm (a + b))) ∧ w = w' := by
  have a0 := fm_lo a
  have a1 := fm_hi a
  have b0 := fm_lo b
  have b1 := fm_hi b
  have ha := fm_add_fm a b
  have HA := Lib.hid ha
  clear ha
  go_enter Try.func87, Try.ntmps87
  go_wp2_with (first | (go_at_call 92; (with_reducible refine (gold_red _ _ (by omega) (by omega)).mono ?_); rintro e w' ⟨rfl, rfl⟩) | (rw [add64_run _ _ _ (by omega) (by omega) (by omega) (by omega)]))
  all_goals go_ret
  all_goals (refine ⟨ret_u64 ?_, rfl⟩; rw [← HA.out]; simp only [bne_iff_ne, ne_eq, bne_eq_false_iff_eq, IntKind.wrap_u64] at *; unfold fm at *; omega)

theorem gold_sub (a b : Int) (w : World) (h0 : 0 ≤ a) (h1 : a ≤ 18446744073709551615) (h2 : 0 ≤ b) (h3 : b ≤ 18446744073709551615) :
    Calls Try.prog 88 #[.int .u64 a, .int .u64 b] w fun e w' => e = .returned (.int .u64 (fm (a - b))) ∧ w = w' := by
  have a0 := fm_lo a
  have a1 := fm_hi a
  have b0 := fm_lo b
  have b1 := fm_hi b
  have ha := fm_sub_fm a b
  have HA := Lib.hid ha
  clear ha
  by_cases hlt : fm a < fm b + 0
  · go_enter Try.func88, Try.ntmps88
    go_wp2_with (first | (go_at_call 92; (with_reducible refine (gold_red _ _ (by omega) (by omega)).mono ?_); rintro e w' ⟨rfl, rfl⟩) | (rw [sub64_run _ _ _ (by omega) (by omega) (by omega) (by omega) (by omega) (by omega), if_pos (by omega)]))
    all_goals go_ret
    all_goals (refine ⟨ret_u64 ?_, rfl⟩; rw [← HA.out]; simp only [IntKind.wrap_u64] at *; unfold fm at *; omega)
  · go_enter Try.func88, Try.ntmps88
    go_wp2_with (first | (go_at_call 92; (with_reducible refine (gold_red _ _ (by omega) (by omega)).mono ?_); rintro e w' ⟨rfl, rfl⟩) | (rw [sub64_run _ _ _ (by omega) (by omega) (by omega) (by omega) (by omega) (by omega), if_neg (by omega)]))
    all_goals go_ret
    all_goals (refine ⟨ret_u64 ?_, rfl⟩; rw [← HA.out]; unfold fm at *; omega)

theorem ret_uu {a b c d : Int} (h : a = b) (h' : c = d) : Ending.returned (.tuple #[.int .u64 a, .int .u64 c]) = .returned (.tuple #[.int .u64 b, .int .u64 d]) := by rw [h, h']
theorem and_low_mod (z : Int) : bits .and .u64 (z % 18446744073709551616) 4294967295 = z % 18446744073709551616 % 4294967296 := and_low32 _ (by omega) (by omega)

theorem bits_mul64 (x y : Int) (w : World) (hx : 0 ≤ x) (hx1 : x ≤ 18446744073709551615) (hy : 0 ≤ y) (hy1 : y ≤ 18446744073709551615) :
    Calls Try.prog 93 #[.int .u64 x, .int .u64 y] w fun e w' => e = .returned (.tuple #[.int .u64 (x * y / 18446744073709551616), .int .u64 (x * y % 18446744073709551616)]) ∧ w = w' := by
  go_enter Try.func93, Try.ntmps93
  go_wp2
  go_ret2
  refine ⟨ret_uu ?_ ?_, rfl⟩
  · rw [and_low32 x hx (by omega), and_low32 y hy (by omega)]
    simp only [IntKind.wrap_u64, and_low_mod]
    exact mul64_arith x y hx (by omega) hy (by omega)
  · rw [IntKind.wrap_u64]

theorem wide_mul (x y : Int) (w : World) (hx : 0 ≤ x) (hx1 : x ≤ 18446744073709551615) (hy : 0 ≤ y) (hy1 : y ≤ 18446744073709551615) :
    Calls Try.prog 81 #[.int .u64 x, .int .u64 y] w fun e w' => e = .returned (.agg #[.int .u64 (x * y / 18446744073709551616), .int .u64 (x * y % 18446744073709551616)]) ∧ Below w.heap.size w w' := by
  go_enter Try.func81, Try.ntmps81
  go_wp2_with (go_at_call 93; (with_reducible refine (bits_mul64 _ _ _ (by omega) (by omega) (by omega) (by omega)).mono ?_); rintro e w' ⟨rfl, rfl⟩)
  go_returns
  refine ⟨rfl, ?_⟩
  go_grown

/-- What is folded: 2^64 leaves 2^32 - 1, 2^96 leaves -1. -/
theorem wide_fold (h l : Int) : fm (h * 18446744073709551616 + l) = fm (l - h / 4294967296 + h % 4294967296 * 4294967295) := by unfold fm; omega

theorem gold_wide (h l : Int) (w : World) (hx : 0 ≤ h) (hx1 : h ≤ 18446744073709551615) (hy : 0 ≤ l) (hy1 : l ≤ 18446744073709551615) :
    Calls Try.prog 80 #[.agg #[.int .u64 h, .int .u64 l]] w fun e w' => e = .returned (.int .u64 (fm (h * 18446744073709551616 + l))) ∧ Below w.heap.size w w' := by
  have hA : fm (h * 18446744073709551616 + l) = fm (l - h / 4294967296 + h % 4294967296 * 4294967295) := wide_fold h l
  have HA := Lib.hid hA
  clear hA
  have hand : bits .and .u64 h 4294967295 = h % 4294967296 := and_low32 h hx (by omega)
  by_cases hlt : l < h / 4294967296 + 0
  · go_enter Try.func80, Try.ntmps80
    go_wp2_with (first | (go_at_call 92; (with_reducible refine (gold_red _ _ (by first | omega | (simp only [IntKind.wrap_u64]; omega) | (simp only [IntKind.wrap_i64]; omega)) (by first | omega | (simp only [IntKind.wrap_u64]; omega) | (simp only [IntKind.wrap_i64]; omega))).mono ?_); rintro e w' ⟨rfl, rfl⟩) | (rw [add64_run _ _ _ (by omega) (by omega) (by omega) (by omega)]) | (rw [sub64_run _ _ _ (by omega) (by omega) (by omega) (by omega) (by omega) (by omega), if_pos (by omega)]))
    all_goals go_ret
    all_goals (refine ⟨ret_u64 ?_, by go_grown⟩; rw [HA.out]; clear HA hand; simp only [bne_iff_ne, ne_eq, bne_eq_false_iff_eq, IntKind.wrap_u64] at *; first | (refine fm_eq _ _ 0 ?_; omega) | (refine fm_eq _ _ 1 ?_; omega) | (refine fm_eq _ _ (-1) ?_; omega))
  · go_enter Try.func80, Try.ntmps80
    go_wp2_with (first | (go_at_call 92; (with_reducible refine (gold_red _ _ (by first | omega | (simp only [IntKind.wrap_u64]; omega) | (simp only [IntKind.wrap_i64]; omega)) (by first | omega | (simp only [IntKind.wrap_u64]; omega) | (simp only [IntKind.wrap_i64]; omega))).mono ?_); rintro e w' ⟨rfl, rfl⟩) | (rw [add64_run _ _ _ (by omega) (by omega) (by omega) (by omega)]) | (rw [sub64_run _ _ _ (by omega) (by omega) (by omega) (by omega) (by omega) (by omega), if_neg (by omega)]))
    all_goals go_ret
    all_goals (refine ⟨ret_u64 ?_, by go_grown⟩; rw [HA.out]; clear HA hand; simp only [bne_iff_ne, ne_eq, bne_eq_false_iff_eq, IntKind.wrap_u64] at *; first | (refine fm_eq _ _ 0 ?_; omega) | (refine fm_eq _ _ 1 ?_; omega) | (refine fm_eq _ _ (-1) ?_; omega))

theorem mul_parts (x y : Int) (hx : 0 ≤ x) (hx1 : x ≤ 18446744073709551615) (hy : 0 ≤ y) (hy1 : y ≤ 18446744073709551615) : 0 ≤ x * y / 18446744073709551616 ∧ x * y / 18446744073709551616 ≤ 18446744073709551615 := by
  have h0 := Int.mul_nonneg hx hy
  have h1 := Int.mul_le_mul hx1 hy1 hy (by omega : (0 : Int) ≤ 18446744073709551615)
  generalize x * y = z at *
  omega

theorem gold_mul (a b : Int) (w : World) (h0 : 0 ≤ a) (h1 : a ≤ 18446744073709551615) (h2 : 0 ≤ b) (h3 : b ≤ 18446744073709551615) :
    Calls Try.prog 72 #[.int .u64 a, .int .u64 b] w fun e w' => e = .returned (.int .u64 (fm (a * b))) ∧ Below w.heap.size w w' := by
  obtain ⟨p0, p1⟩ := mul_parts a b h0 h1 h2 h3
  have hA : fm (a * b / 18446744073709551616 * 18446744073709551616 + a * b % 18446744073709551616) = fm (a * b) := by
    generalize a * b = z; unfold fm; omega
  have HA := Lib.hid hA
  clear hA
  go_enter Try.func72, Try.ntmps72
  go_wp2_with (first | (go_at_call 81; (with_reducible refine (wide_mul _ _ _ h0 h1 h2 h3).mono ?_); rintro e w' ⟨rfl, hb⟩) | (go_at_call 80; refine (gold_wide _ _ _ p0 p1 (by omega) (by omega)).mono ?_; rintro e w' ⟨rfl, hb2⟩))
  go_ret
  exact ⟨ret_u64 HA.out, hb.trans (hb2.mono hb.size)⟩

theorem half_fm (a h : Int) (h0 : 0 ≤ h) (h1 : h ≤ 18446744069414584320) (k : Int) (e : h + h = fm a + k * 18446744069414584321) : fm (h + h) = fm a := by unfold fm at *; omega

theorem and_one (k : Int) (h0 : 0 ≤ k) (h1 : k ≤ 18446744073709551615) : bits .and .u64 k 1 = k % 2 := by go_bits2

/-- Half of a number: h with h + h = a. -/
def hlf (a : Int) : Int := if a % 2 = 0 then a / 2 else a / 2 + 9223372034707292161
theorem hlf_ok (a : Int) (h0 : 0 ≤ a) (h1 : a ≤ 18446744069414584320) : 0 ≤ hlf a ∧ hlf a ≤ 18446744069414584320 ∧ fm (hlf a + hlf a) = a := by
  unfold hlf fm; split <;> omega

end Go.Proofs.Ytcfmiflhhjoofaa
/- gold.Pow, gold.Inv, gold.Sum. -/
namespace Go.Proofs.Ytcfmiflhhjoofaa
open Go.ChangeShapes Go.WideShapes Go.ChangeAt Go.RowKit
set_option linter.unusedVariables false
set_option linter.unusedVariables false

theorem fm_pow (x : Int) (y : Int) (k : Nat) : fm (x * fm y ^ k) = fm (x * y ^ k) := by
  induction k generalizing x with
  | zero => simp
  | succ k ih =>
    have e1 : x * fm y ^ (k + 1) = (x * fm y) * fm y ^ k := by rw [Int.pow_succ, Int.mul_assoc, Int.mul_comm (fm y ^ k)]
    have e2 : x * y ^ (k + 1) = (x * y) * y ^ k := by rw [Int.pow_succ, Int.mul_assoc, Int.mul_comm (y ^ k)]
    rw [e1, e2, ih, ← fm_mul_l (x * fm y), fm_mul_r, fm_mul_l]

theorem pow_sq (a : Int) (k : Nat) : (a * a) ^ k = a ^ (2 * k) := by
  induction k with
  | zero => simp
  | succ k ih => rw [Int.pow_succ, ih, show 2 * (k + 1) = 2 * k + 1 + 1 from by omega, Int.pow_succ, Int.pow_succ, Int.mul_assoc]

theorem pow_even (p a : Int) (k : Nat) (h : k % 2 = 0) : fm (p * fm (a * a) ^ (k / 2)) = fm (p * a ^ k) := by
  rw [fm_pow, pow_sq, show 2 * (k / 2) = k from by omega]
theorem pow_odd (p a : Int) (k : Nat) (h : k % 2 = 1) : fm (fm (p * a) * fm (a * a) ^ (k / 2)) = fm (p * a ^ k) := by
  rw [fm_mul_l, fm_pow, pow_sq]
  have e := Int.pow_succ a (2 * (k / 2))
  rw [show (2 * (k / 2)).succ = k from by omega] at e
  rw [e, Int.mul_assoc, Int.mul_comm a]

theorem gold_pow (a : Int) (n : Nat) (w : World) (h0 : 0 ≤ a) (h1 : a ≤ 18446744073709551615) (h3 : n ≤ 18446744073709551615) :
    Calls Try.prog 77 #[.int .u64 a, .int .u64 n] w fun e w' => e = .returned (.int .u64 (fm (a ^ n))) ∧ Below w.heap.size w w' := by
  go_enter Try.func77, Try.ntmps77
  go_wp2_with fail
  go_loopw [5, 0, 1] (fun p a' n' wr => ∃ (k : Nat) (pv av : Int), n' = .int .u64 k ∧ p = .int .u64 pv ∧ a' = .int .u64 av ∧ 0 ≤ pv ∧ pv ≤ 18446744069414584320 ∧ 0 ≤ av ∧ av ≤ 18446744073709551615 ∧ k ≤ 18446744073709551615 ∧ Hid (fm (pv * av ^ k) = fm (a ^ n)) ∧ Below w.heap.size w wr)
    (fun _ _ n' _ => (intOf n').toNat)
  case atStart => exact ⟨n, 1, a, rfl, rfl, rfl, by omega, by omega, h0, h1, h3, Lib.hid (by rw [Int.one_mul]), Below.refl _ _⟩
  case round =>
    obtain ⟨k, pv, av, rfl, rfl, rfl, p0, p1, a0, a1, hk, HP, hb0⟩ := hrel
    have hand := and_one (k : Int) (by omega) (by omega)
    by_cases hz : k = 0
    · subst hz
      go_wp2_with fail
      go_ret
      exact ⟨ret_u64 (by have := HP.out; rw [Int.pow_zero, Int.mul_one, fm_small pv p0 p1] at this; exact this), hb0⟩
    · have hpos : (0 : Int) < (k : Int) := by omega
      by_cases hodd : k % 2 = 1
      · have hq : ((k : Int) % 2 == 1) = true := by simp; omega
        have HO := Lib.hid (pow_odd pv av k hodd)
        clear hodd
        go_wp2_with fail
        refine (gold_mul _ _ _ p0 (by omega) a0 a1).mono ?_
        rintro e w1 ⟨rfl, hb1⟩
        go_wp2_with fail
        refine (gold_mul _ _ _ a0 a1 a0 a1).mono ?_
        rintro e w2 ⟨rfl, hb2⟩
        go_wp2_with fail
        go_roundw
        case rel => exact ⟨k / 2, fm (pv * av), fm (av * av), by rfl, rfl, rfl, fm_lo _, fm_hi _, fm_lo _, by have := fm_hi (av * av); omega, by omega, Lib.hid (by rw [HO.out, HP.out]), (hb0.trans (hb1.mono hb0.size)).trans (hb2.mono (by have := hb0.size; have := hb1.size; omega))⟩
        case measure => simp [intOf]; omega
      · have hq : ((k : Int) % 2 == 1) = false := by simp; omega
        have HO := Lib.hid (pow_even pv av k (by omega))
        clear hodd
        go_wp2_with fail
        refine (gold_mul _ _ _ a0 a1 a0 a1).mono ?_
        rintro e w2 ⟨rfl, hb2⟩
        go_wp2_with fail
        go_roundw
        case rel => exact ⟨k / 2, pv, fm (av * av), by rfl, rfl, rfl, p0, p1, fm_lo _, by have := fm_hi (av * av); omega, by omega, Lib.hid (by rw [HO.out, HP.out]), hb0.trans (hb2.mono hb0.size)⟩
        case measure => simp [intOf]; omega

/-- The exponent of the inverse: P - 2. -/
def p2 : Nat := 18446744069414584319
def finv (a : Int) : Int := fm (a ^ p2)

theorem gold_inv (a : Int) (w : World) (h0 : 0 ≤ a) (h1 : a ≤ 18446744073709551615) :
    Calls Try.prog 69 #[.int .u64 a] w fun e w' => e = .returned (.int .u64 (finv a)) ∧ Below w.heap.size w w' := by
  have c : Calls Try.prog 77 #[.int .u64 a, .int .u64 18446744069414584319] w fun e w' => e = .returned (.int .u64 (finv a)) ∧ Below w.heap.size w w' := gold_pow a p2 w h0 h1 (by unfold p2; omega)
  go_enter Try.func69, Try.ntmps69
  go_wp2_with fail
  refine c.mono ?_
  rintro e w1 ⟨rfl, hb1⟩
  go_wp2_with fail
  go_ret
  exact ⟨rfl, hb1⟩

end Go.Proofs.Ytcfmiflhhjoofaa
