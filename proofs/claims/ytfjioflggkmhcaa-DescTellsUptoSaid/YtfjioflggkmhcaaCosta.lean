/- Package cost: sums and products that are held; math/bits' Len of a power of two; reference 18's sums and products. -/
import Derived.Test.YtfjioflggkmhcaaEst
namespace Go.Proofs.Ytfjioflggkmhcaa
open Go.ChangeShapes Go.WideShapes Go.ChangeAt Go.RowKit
set_option linter.unusedVariables false
theorem cost_plus (a b : Int) (w : World) (ha : 0 ≤ a ∧ a ≤ 1152921504606846976) (hb : 0 ≤ b ∧ b ≤ 1152921504606846976) :
    Calls Try.prog 91 #[.int .i64 a, .int .i64 b] w fun e w' => e = .returned (.int .i64 (capm (a + b))) ∧ w = w' := by
  have hw : IntKind.i64.wrap (a + b) = a + b := IntWalk.i64_in _ (by omega)
  by_cases h : a + b ≤ 1152921504606846976
  · have E := Lib.hid (show capm (a + b) = a + b from if_pos h)
    generalize hs : a + b = s at *
    go_enter Try.func91, Try.ntmps91
    go_wp2_with fail
    go_ret
    exact ⟨ret_i64 E.out.symm, rfl⟩
  · have E := Lib.hid (show capm (a + b) = 1152921504606846976 from if_neg h)
    generalize hs : a + b = s at *
    go_enter Try.func91, Try.ntmps91
    go_wp2_with fail
    go_ret
    exact ⟨ret_i64 E.out.symm, rfl⟩
theorem r18_add (a b : Int) (w : World) (ha : 0 ≤ a ∧ a ≤ 1152921504606846976) (hb : 0 ≤ b ∧ b ≤ 1152921504606846976) :
    Calls Try.prog 58 #[.int .i64 a, .int .i64 b] w fun e w' => e = .returned (.int .i64 (capm (a + b))) ∧ w = w' := by
  have hw : IntKind.i64.wrap (a + b) = a + b := IntWalk.i64_in _ (by omega)
  have hw2 : IntKind.i64.wrap (1152921504606846976 - b) = 1152921504606846976 - b := IntWalk.i64_in _ (by omega)
  by_cases h : a + b ≤ 1152921504606846976
  · have E := Lib.hid (show capm (a + b) = a + b from if_pos h)
    have d : decide (1152921504606846976 - b < a) = false := decide_eq_false (by omega)
    go_enter Try.func58, Try.ntmps58
    go_wp2_with fail
    go_ret
    exact ⟨ret_i64 E.out.symm, rfl⟩
  · have E := Lib.hid (show capm (a + b) = 1152921504606846976 from if_neg h)
    have d : decide (1152921504606846976 - b < a) = true := decide_eq_true (by omega)
    go_enter Try.func58, Try.ntmps58
    go_wp2_with fail
    go_ret
    exact ⟨ret_i64 E.out.symm, rfl⟩
theorem cost_times (a b : Int) (w : World) (ha : 0 ≤ a ∧ a ≤ 9223372036854775807) (hb : 0 ≤ b ∧ b ≤ 9223372036854775807) :
    Calls Try.prog 89 #[.int .i64 a, .int .i64 b] w fun e w' => e = .returned (.int .i64 (capm (a * b))) ∧ w = w' := by
  have hwa : IntKind.u64.wrap a = a := IntWalk.u64_in _ (by omega)
  have hwb : IntKind.u64.wrap b = b := IntWalk.u64_in _ (by omega)
  have BM := Lib.hid (fun w => bits_mul64 a b w (by omega) (by omega) (by omega) (by omega))
  have hp : 0 ≤ a * b := Int.mul_nonneg ha.1 hb.1
  generalize a * b = p at *
  by_cases h : p ≤ 1152921504606846976
  · have E := Lib.hid (show capm p = p from if_pos h)
    have hwp : IntKind.i64.wrap p = p := IntWalk.i64_in _ (by omega)
    rw [show p / 18446744073709551616 = 0 by omega, show p % 18446744073709551616 = p by omega] at BM
    have d : decide (1152921504606846976 < p) = false := decide_eq_false (by omega)
    go_enter Try.func89, Try.ntmps89
    go_wp2_with (go_at_call 97; (with_reducible refine (BM.out _).mono ?_); rintro e w' ⟨rfl, rfl⟩)
    go_ret
    exact ⟨ret_i64 E.out.symm, rfl⟩
  · have E := Lib.hid (show capm p = 1152921504606846976 from if_neg h)
    by_cases hq : p / 18446744073709551616 = 0
    · rw [hq, show p % 18446744073709551616 = p by omega] at BM
      have d : decide (1152921504606846976 < p) = true := decide_eq_true (by omega)
      go_enter Try.func89, Try.ntmps89
      go_wp2_with (go_at_call 97; (with_reducible refine (BM.out _).mono ?_); rintro e w' ⟨rfl, rfl⟩)
      go_ret
      exact ⟨ret_i64 E.out.symm, rfl⟩
    · generalize p % 18446744073709551616 = r at *
      generalize p / 18446744073709551616 = q at *
      have d : (q != 0) = true := by simp [hq]
      go_enter Try.func89, Try.ntmps89
      go_wp2_with (go_at_call 97; (with_reducible refine (BM.out _).mono ?_); rintro e w' ⟨rfl, rfl⟩)
      go_ret
      exact ⟨ret_i64 E.out.symm, rfl⟩
/-- What is done of a, above place k. -/
def hiq (a k : Int) : Int := a / 2 ^ (k + 1).toNat
theorem hiq_last (a : Int) : hiq a (-1) = a := by unfold hiq; simp
theorem hiq_first (a : Int) (h : 0 ≤ a ∧ a < 67108864) : hiq a 25 = 0 := by unfold hiq; simp; omega
theorem hiq_step (a k : Int) (hk : 0 ≤ k) (ha : 0 ≤ a) : a / 2 ^ k.toNat = 2 * hiq a k + a / 2 ^ k.toNat % 2 ∧ hiq a (k - 1) = a / 2 ^ k.toNat := by
  unfold hiq
  have e1 : (k + 1).toNat = k.toNat + 1 := by omega
  have e2 : (k - 1 + 1).toNat = k.toNat := by omega
  rw [e1, e2]
  have : a / (2 : Int) ^ (k.toNat + 1) = a / 2 ^ k.toNat / 2 := by rw [Int.pow_succ, Int.ediv_ediv_of_nonneg (Int.pow_nonneg (by omega))]
  rw [this]
  exact ⟨by omega, rfl⟩
theorem hiq_nn (a k : Int) (ha : 0 ≤ a) : 0 ≤ hiq a k := Int.ediv_nonneg ha (Int.pow_nonneg (by omega))
theorem capm_dbl {q b : Int} (hq : 0 ≤ q) (hb : 0 ≤ b) : capm (capm (q * b) + capm (q * b)) = capm (2 * q * b) := by
  rw [capm_add (Int.mul_nonneg hq hb) (Int.mul_nonneg hq hb), Int.mul_assoc, Int.two_mul]
set_option maxRecDepth 100000 in
theorem r18_times (a b : Int) (w : World) (ha : 0 ≤ a ∧ a < 67108864) (hb : 0 ≤ b ∧ b ≤ 1152921504606846976) :
    Calls Try.prog 59 #[.int .i64 a, .int .i64 b] w fun e w' => e = .returned (.int .i64 (capm (a * b))) ∧ w = w' := by
  have AD := Lib.hid (fun x y w hx hy => r18_add x y w hx hy)
  have H0 := Lib.hid (show (0 : Int) = capm (hiq a 25 * b) by rw [hiq_first a ha, Int.zero_mul]; rfl)
  have HE := Lib.hid (show capm (hiq a (-1) * b) = capm (a * b) by rw [hiq_last])
  have ST := Lib.hid (fun k hk => hiq_step a k hk ha.1)
  have S1 := Lib.hid (fun k (hk : 0 ≤ k) => (show capm (capm (hiq a k * b) + capm (hiq a k * b)) = capm (2 * hiq a k * b) from capm_dbl (hiq_nn a k ha.1) hb.1))
  have S2 := Lib.hid (fun k (hk : 0 ≤ k) => (show capm (capm (2 * hiq a k * b) + b) = capm ((2 * hiq a k + 1) * b) from by
    rw [capm_add_left (Int.mul_nonneg (by have := hiq_nn a k ha.1; omega) hb.1) hb.1, Int.add_mul, Int.one_mul]))
  have CN := Lib.hid (fun x (h : 0 ≤ x) => (show 0 ≤ capm x ∧ capm x ≤ 1152921504606846976 from ⟨capm_nn h, capm_le x⟩))
  have QN := Lib.hid (fun k => (show 0 ≤ 2 * hiq a k * b from Int.mul_nonneg (by have := hiq_nn a k ha.1; omega) hb.1))
  have ha0 := ha.1
  generalize hz : capm (a * b) = Z at *
  clear hz
  go_enter Try.func59, Try.ntmps59
  go_wp2_with fail
  go_loopw [5, 6] (fun s i wr => ∃ z k : Int, -1 ≤ k ∧ k ≤ 25 ∧ s = .int .i64 z ∧ i = .int .i64 k ∧ (0 ≤ z ∧ z ≤ 1152921504606846976) ∧ Hid (z = capm (hiq a k * b)) ∧ w = wr) (fun _ i _ => (intOf i + 1).toNat)
  case atStart => exact ⟨0, 25, by omega, by omega, rfl, rfl, by omega, H0, rfl⟩
  case round =>
    obtain ⟨z, k, hk1, hk2, rfl, rfl, hz, HZ, rfl⟩ := hrel
    by_cases hlt : 0 ≤ k
    · have dd : decide (0 ≤ k) = true := decide_eq_true hlt
      have A1 := Lib.hid (AD.out z z w hz hz)
      rw [HZ.out, S1.out k hlt] at A1
      have hz1 := CN.out _ (QN.out k)
      have A2 := Lib.hid (AD.out _ b w hz1 hb)
      rw [S2.out k hlt] at A2
      obtain ⟨e1, e2⟩ := ST.out k hlt
      have hwk : IntKind.u64.wrap k = k := IntWalk.u64_in _ (by omega)
      have hwk2 : IntKind.i64.wrap (k - 1) = k - 1 := IntWalk.i64_in _ (by omega)
      have R1 := Lib.hid (show a / 2 ^ k.toNat % 2 = 1 → capm ((2 * hiq a k + 1) * b) = capm (hiq a (k - 1) * b) by intro h; rw [e2, e1, h])
      have R0 := Lib.hid (show a / 2 ^ k.toNat % 2 = 0 → capm (2 * hiq a k * b) = capm (hiq a (k - 1) * b) by intro h; rw [e2, e1, h, Int.add_zero])
      rw [← HZ.out] at A1
      have hz2 := CN.out ((2 * hiq a k + 1) * b) (Int.mul_nonneg (by have := hiq_nn a k ha0; omega) hb.1)
      have hq : 0 ≤ a / 2 ^ k.toNat := Int.ediv_nonneg ha0 (Int.pow_nonneg (by omega))
      generalize capm (2 * hiq a k * b) = z1 at *
      generalize capm ((2 * hiq a k + 1) * b) = z2 at *
      clear e1 e2 HZ
      by_cases hbit : a / 2 ^ k.toNat % 2 = 1
      · have db : (a / 2 ^ k.toNat % 2 == 1) = true := by simp [hbit]
        have R1 := Lib.hid (R1.out hbit)
        go_wp2_with fail
        refine A1.out.mono ?_
        rintro e w1 ⟨rfl, rfl⟩
        go_wp2_with fail
        refine A2.out.mono ?_
        rintro e w1 ⟨rfl, rfl⟩
        go_wp2_with fail
        go_roundw
        case rel => exact ⟨z2, k - 1, by omega, by omega, rfl, rfl, hz2, R1, trivial⟩
        case measure => (first | (simp [intOf]; done) | (simp [intOf]; omega) | (simp only [intOf]; omega))
      · have db : (a / 2 ^ k.toNat % 2 == 1) = false := by simp [hbit]
        have R0 := Lib.hid (R0.out (by omega))
        go_wp2_with fail
        refine A1.out.mono ?_
        rintro e w1 ⟨rfl, rfl⟩
        go_wp2_with fail
        go_roundw
        case rel => exact ⟨z1, k - 1, by omega, by omega, rfl, rfl, hz1, R0, trivial⟩
        case measure => (first | (simp [intOf]; done) | (simp [intOf]; omega) | (simp only [intOf]; omega))
    · obtain rfl : k = -1 := by omega
      have dd : decide ((0 : Int) ≤ -1) = false := decide_eq_false (by omega)
      go_wp2_with fail
      go_ret
      exact ⟨ret_i64 (by rw [HZ.out, HE.out]), rfl⟩
end Go.Proofs.Ytfjioflggkmhcaa
