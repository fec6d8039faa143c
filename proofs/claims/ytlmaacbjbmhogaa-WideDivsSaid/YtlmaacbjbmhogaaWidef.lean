/- math/bits' Div64, whole; package wide's Div. -/
import Derived.Test.YtlmaacbjbmhogaaWided
namespace Go.Proofs.Ytlmaacbjbmhogaa
open Go.ChangeShapes Go.WideShapes Go.ChangeAt Go.RowKit
set_option linter.unusedVariables false
theorem two_digs (hi lo y M B : Nat) (hM : M = 2 ^ 64) (hB : M = B * B) (hB2 : B = 2 ^ 32) (hlt : hi < y) (hy : y < M) (hlo : lo < M) :
    ∃ s Y a c U L v x q1 q0 R1 R0 : Nat, s < 64 ∧ Lib.bitLen y + s = 64 ∧ Y < M ∧ U < M ∧ v < B ∧ x < B ∧ c < B ∧ 0 < a ∧ y * 2 ^ s = Y ∧ Y / B = a ∧ Y % B = c ∧ (hi * 2 ^ s % M) ||| (lo / 2 ^ (64 - s)) = U ∧ lo / 2 ^ (64 - s) < M ∧ lo * 2 ^ s % M = L ∧ L / B = v ∧ L % B = x ∧ Dg B Y a c U v ∧ Dg B Y a c R1 x ∧ (U * B + v) / Y = q1 ∧ (U * B + v) % Y = R1 ∧ (R1 * B + x) / Y = q0 ∧ (R1 * B + x) % Y = R0 ∧ q1 * B + q0 = (hi * M + lo) / y ∧ R0 / 2 ^ s = (hi * M + lo) % y := by
  have y0 : y ≠ 0 := by omega
  have a1 := Nat.log2_self_le y0
  have a2 := Nat.lt_log2_self (n := y)
  have hk : y.log2 < 64 := (Nat.pow_lt_pow_iff_right (a := 2) (by omega)).1 (Nat.lt_of_le_of_lt a1 (by rw [← hM]; exact hy))
  have hbl := bitLen_log y y.log2 a1 a2 (by rw [hM] at hy; exact Nat.lt_of_lt_of_le hy (by decide))
  generalize y.log2 = k at *
  obtain ⟨s, hs⟩ : ∃ s, k + s = 63 := ⟨63 - k, by omega⟩
  have sp : 0 < 2 ^ s := Nat.pow_pos (by omega)
  have B0 : 0 < B := by rw [hB2]; exact Nat.pow_pos (by omega)
  obtain ⟨H, hH⟩ : ∃ H, B = 2 * H := ⟨2 ^ 31, by rw [hB2]⟩
  have M0 : 0 < M := by omega
  have hpM : 2 ^ (k + 1) * 2 ^ s = M := by rw [hM, ← Nat.pow_add, show k + 1 + s = 64 by omega]
  have hYM : y * 2 ^ s < M := by rw [← hpM]; exact (Nat.mul_lt_mul_right sp).2 a2
  have hYH : H * B ≤ y * 2 ^ s := by
    have h1 := Nat.mul_le_mul_right (2 ^ s) a1
    have h2 : 2 * (2 ^ k * 2 ^ s) = M := by rw [← hpM, Nat.pow_succ, Nat.mul_comm (2 ^ k) 2, Nat.mul_assoc]
    have h3 : 2 * (H * B) = M := by rw [← Nat.mul_assoc, ← hH, hB]
    omega
  have sl := shr_lt lo s _ hM (by omega) hlo
  have lw := left_low hi lo s _ hM (by omega) hlo
  have sm := shl_mod hi s _ hM (by omega)
  have hor : (hi * 2 ^ s % M) ||| (lo / 2 ^ (64 - s)) = hi * 2 ^ s % M + lo / 2 ^ (64 - s) := by rw [sm]; exact or_parts s _ _ sl
  have hll : lo / 2 ^ (64 - s) < M := Nat.lt_of_le_of_lt (Nat.div_le_self _ _) hlo
  have hT : (hi * M + lo) * 2 ^ s < y * 2 ^ s * M := by
    rw [Nat.mul_right_comm]
    refine (Nat.mul_lt_mul_right sp).2 ?_
    have := Nat.mul_le_mul_right M (show hi + 1 ≤ y from hlt)
    rw [Nat.add_mul, Nat.one_mul] at this
    omega
  rw [Nat.mod_eq_of_lt (show (hi * M + lo) * 2 ^ s < M * M from Nat.lt_of_lt_of_le hT (Nat.mul_le_mul_right M (Nat.le_of_lt hYM)))] at lw
  rw [← hor] at lw
  have hL : lo * 2 ^ s % M < M := Nat.mod_lt _ M0
  obtain ⟨U, hU⟩ : ∃ U, (hi * 2 ^ s % M) ||| (lo / 2 ^ (64 - s)) = U := ⟨_, rfl⟩
  obtain ⟨L, hLe⟩ : ∃ L, lo * 2 ^ s % M = L := ⟨_, rfl⟩
  obtain ⟨Y, hYe⟩ : ∃ Y, y * 2 ^ s = Y := ⟨_, rfl⟩
  rw [hU, hLe] at lw
  rw [hLe] at hL
  rw [hYe] at hYM hYH
  have hUY : U < Y := by
    rw [hYe] at hT
    refine Nat.lt_of_mul_lt_mul_right (a := M) ?_
    omega
  have hY0 : 0 < Y := by omega
  have dY := Nat.div_add_mod Y B
  have mY := Nat.mod_lt Y B0
  have dL := Nat.div_add_mod L B
  have mL := Nat.mod_lt L B0
  have hYB : Y / B < B := (Nat.div_lt_iff_lt_mul B0).2 (by rw [← hB]; exact hYM)
  have hLB : L / B < B := (Nat.div_lt_iff_lt_mul B0).2 (by rw [← hB]; exact hL)
  have hHa : H ≤ Y / B := (Nat.le_div_iff_mul_le B0).2 hYH
  have D1 : Dg B Y (Y / B) (Y % B) U (L / B) := ⟨by rw [Nat.mul_comm]; exact dY.symm, mY, hYB, by omega, hUY, hLB⟩
  have D0 : Dg B Y (Y / B) (Y % B) ((U * B + L / B) % Y) (L % B) := ⟨by rw [Nat.mul_comm]; exact dY.symm, mY, hYB, by omega, Nat.mod_lt _ hY0, mL⟩
  have td := two_digits (B := B) (y := Y) (U := U) (v := L / B) (w := L % B) (q1 := (U * B + L / B) / Y) (q0 := ((U * B + L / B) % Y * B + L % B) / Y) (r1 := (U * B + L / B) % Y) (r0 := ((U * B + L / B) % Y * B + L % B) % Y) (by rw [Nat.mul_comm ((U * B + L / B) / Y)]; exact (Nat.div_add_mod _ _).symm) (by rw [Nat.mul_comm (((U * B + L / B) % Y * B + L % B) / Y)]; exact (Nat.div_add_mod _ _).symm) (Nat.mod_lt _ hY0)
  rw [← hB, show L / B * B + L % B = L by rw [Nat.mul_comm]; exact dL, lw, ← hYe, Nat.mul_div_mul_right _ _ sp, Nat.mul_mod_mul_right, hYe] at td
  refine ⟨s, Y, Y / B, Y % B, U, L, L / B, L % B, _, _, _, _, by omega, by omega, hYM, Nat.lt_trans hUY hYM, hLB, mL, mY, by omega, hYe, rfl, rfl, hU, hll, hLe, rfl, rfl, D1, D0, rfl, rfl, rfl, rfl, td.1.symm, ?_⟩
  rw [← td.2, Nat.mul_div_cancel _ sp]
set_option maxRecDepth 100000 in
set_option maxHeartbeats 4000000 in
theorem div_a (lo y : Nat) (w : World) (h0 : 0 < y) (hy : y < 18446744073709551616) (hlo : lo < 18446744073709551616) :
    Calls Try.prog 28 #[.int .u64 0, .int .u64 lo, .int .u64 y] w fun e w' => e = .returned (.tuple #[.int .u64 ((lo / y : Nat) : Int), .int .u64 ((lo % y : Nat) : Int)]) ∧ Below w.heap.size w w' := by
  have c1 : ((y : Int) == 0) = false := by simp; omega
  have c2 : decide ((y : Int) ≤ 0) = false := decide_eq_false (by omega)
  have y0 : ¬ ((y : Int) = 0) := by omega
  have c3 : ((0 : Int) == 0) = true := rfl
  have hlq : lo / y < 18446744073709551616 := Nat.lt_of_le_of_lt (Nat.div_le_self _ _) hlo
  obtain ⟨A, hA⟩ : ∃ n, lo / y = n := ⟨_, rfl⟩
  obtain ⟨C, hC⟩ : ∃ n, lo % y = n := ⟨_, rfl⟩
  have W1 : IntKind.u64.wrap ((lo : Int) / (y : Int)) = (A : Int) := by
    rw [← Int.natCast_ediv, hA]
    exact IntWalk.u64_in _ (by omega)
  have W2 : (lo : Int) % (y : Int) = (C : Int) := by rw [← hC]; exact (Int.natCast_emod lo y).symm
  rw [hA, hC]
  have V1 := Lib.hid W1
  have V2 := Lib.hid W2
  clear W1 W2 hA hC hlq
  go_enter Try.func28, Try.ntmps28
  go_wp2_with fail
  go_region
  go_wp2_with fail
  go_ret2
  refine ⟨?_, by go_grown⟩
  show Ending.returned (.tuple #[.int .u64 (IntKind.u64.wrap ((lo : Int) / (y : Int))), .int .u64 ((lo : Int) % (y : Int))]) = _
  rw [V1.out, V2.out]
theorem bits_div64 (hi lo y : Nat) (w : World) (hlt : hi < y) (hy : y < 18446744073709551616) (hlo : lo < 18446744073709551616) :
    Calls Try.prog 28 #[.int .u64 hi, .int .u64 lo, .int .u64 y] w fun e w' => e = .returned (.tuple #[.int .u64 (((hi * 18446744073709551616 + lo) / y : Nat) : Int), .int .u64 (((hi * 18446744073709551616 + lo) % y : Nat) : Int)]) ∧ Below w.heap.size w w' := by
  by_cases h0 : hi = 0
  · subst h0
    rw [Nat.zero_mul, Nat.zero_add]
    exact (div_a lo y w hlt hy hlo)
  · obtain ⟨s, Y, a, c, U, L, v, x, q1, q0, R1, R0, hs, hbl, hY, hU, hv, hx, hc, a0, e1, e2, e3, e4, hll, e5, e6, e7, D1, D0, hq1, hr1, hq0, hr0, hq, hr⟩ := two_digs hi lo y 18446744073709551616 4294967296 m64 (by decide) (by decide) hlt hy hlo
    have B := div_b hi lo y s Y a c U L v x q1 q0 R1 R0 w hs (by omega) hlt hy hY hU hv hx hc a0 (by omega)
      (by rw [shl_cast, e1, Nat.mod_eq_of_lt hY]) (by rw [← e2]; omega)
      (by rw [and_low32 _ (by omega) (by omega), ← e3]; omega)
      (by rw [shl_cast, shr_cast, u64_or_nat _ _ (Nat.mod_lt _ (by omega)) hll, e4]) (by rw [shl_cast, e5]) (by rw [← e6]; omega)
      (by rw [and_low32 _ (by omega) (by rw [← e5]; have := Nat.mod_lt (lo * 2 ^ s) (show 18446744073709551616 > 0 by omega); omega), ← e7]; omega) D1 D0 hq1 hr1 hq0 hr0
    refine B.mono ?_
    rintro e w' ⟨rfl, rfl⟩
    rw [hq, hr]
    exact ⟨rfl, Below.refl _ _⟩
end Go.Proofs.Ytlmaacbjbmhogaa
