/- FactPhi: how many numbers are coprime to any one, counted one by one, and the least power of two that is not below it; or why there are none. -/
import Derived.Test.YtmeaakchnellfaaPhip
import Derived.Test.YtmeaakchnellfaaAbv
namespace Go.Proofs.Ytmeaakchnellfaa
open Go.ChangeShapes Go.WideShapes Go.ChangeAt Go.RowKit
set_option linter.unusedVariables false
namespace factPhi
set_option maxRecDepth 100000 in
set_option maxHeartbeats 4000000 in
theorem main (W : World) (N : Nat) (h1 : 1 ≤ N) (h2 : N ≤ 16777216) :
    Calls Try.prog 5 #[.int .i64 (N : Int)] W fun e W' => e = .returned (.bool true) ∧ Below W.heap.size W W' := by
  have FP := Lib.hid (fun w => fact_phi N w h1 h2)
  have FA := Lib.hid (fun w => fact_aboveb N w h1 h2)
  have RA := Lib.hid (fun w => r3_aboveb N w h1 h2)
  have RI := fun w => r3_is (N : Int) w
  rw [decide_eq_true (by omega)] at RI
  have RI := Lib.hid RI
  have GC := Lib.hid (fun (i : Nat) w (hi : i ≤ N) => (show Calls Try.prog 25 #[.int .i64 (i : Int), .int .i64 (N : Int)] w fun e w' => e = .returned (.int .i64 ((Nat.gcd i N : Nat) : Int)) ∧ Below w.heap.size w w' by
    have := r3_gcd (i : Int) (N : Int) w (by omega) (by omega)
    rw [gcdz_nat] at this
    exact this))
  have BD := Lib.hid (fun (h : 1 < N) => cop_bd h)
  have HZ := Lib.hid (show cf (cop N) N = cf (cop N) N from rfl)
  obtain ⟨z, hz⟩ : ∃ z, cf (cop N) N = z := ⟨_, rfl⟩
  rw [hz] at FP BD
  have HZ := Lib.hid hz
  have hzN : z ≤ N := by rw [← hz]; exact cf_le _ _
  have CY := Lib.hid (fun i (h : Nat.gcd (i + 1) N = 1) => (show cf (cop N) (i + 1) = cf (cop N) i + 1 by rw [cf]; unfold cop; rw [decide_eq_true h]; rfl))
  have CN := Lib.hid (fun i (h : ¬ Nat.gcd (i + 1) N = 1) => (show cf (cop N) (i + 1) = cf (cop N) i by rw [cf]; unfold cop; rw [decide_eq_false h]; rfl))
  have C0 := Lib.hid (show cf (cop N) 0 = 0 from rfl)
  have CL := Lib.hid (fun i => cf_le (cop N) i)
  clear hz
  have hB : Below W.heap.size W W := Below.refl _ _
  go_enter Try.func5, Try.ntmps5
  go_wp2_with fail
  refine (FP.out _).mono ?_
  rintro e w1 ⟨rfl, b1⟩
  have hB := hB.trans (b1.mono hB.size); clear b1
  go_wp2_with fail
  refine (FA.out _).mono ?_
  rintro e w1 ⟨m, rfl, HM, rfl⟩
  have HM := Lib.hid HM
  go_wp2_with fail
  refine (RI.out _).mono ?_
  rintro e w1 ⟨rfl, rfl⟩
  go_wp2_with fail
  refine (RA.out _).mono ?_
  rintro e w1 ⟨m', rfl, HM', rfl⟩
  obtain rfl := isAbv_uniqb HM.out HM'
  clear HM'
  by_cases hbig : 5000 < N
  · have dd : decide (5000 < (N : Int)) = true := decide_eq_true (by omega)
    have dd' : decide (5000 < N) = true := decide_eq_true hbig
    obtain ⟨b1, b2⟩ := BD.out (by omega)
    have d3 : decide (1 ≤ (z : Int)) = true := decide_eq_true (by omega)
    have d4 : decide ((z : Int) < (N : Int)) = true := decide_eq_true (by omega)
    go_wp2_with fail
    refine (live3 _).mono ?_
    rintro e w1 ⟨rfl, b1⟩
    have hB := hB.trans (b1.mono hB.size); clear b1
    go_wp2_with fail
    go_ret
    exact ⟨rfl, hB⟩
  · have dd : decide (5000 < (N : Int)) = false := decide_eq_false (by omega)
    have dd' : decide (5000 < N) = false := decide_eq_false hbig
    go_wp2_with fail
    go_loopw [7, 8] (fun x y wr => ∃ i c : Nat, i ≤ N ∧ y = .int .i64 ((i : Int) + 1) ∧ x = .int .i64 c ∧ Hid (cf (cop N) i = c) ∧ c ≤ i ∧ Below W.heap.size W wr) (fun _ y _ => N + 1 - (intOf y).toNat)
    case atStart => exact ⟨0, 0, Nat.zero_le _, rfl, rfl, C0, Nat.le_refl _, hB⟩
    case round =>
      clear hB
      obtain ⟨i, c, hi, rfl, rfl, HC, hc, hB⟩ := hrel
      by_cases hlt : i < N
      · have d1 : decide ((i : Int) + 1 ≤ (N : Int)) = true := decide_eq_true (by omega)
        have G1 := Lib.hid (fun w => GC.out (i + 1) w (by omega))
        have CY1 := Lib.hid (CY.out i)
        have CN1 := Lib.hid (CN.out i)
        have e0 : (((i + 1 : Nat) : Int)) = (i : Int) + 1 := by omega
        have CL1 := CL.out (i + 1)
        rw [e0] at G1
        generalize Nat.gcd (i + 1) N = g at *
        go_wp2_with fail
        refine (G1.out _).mono ?_
        rintro e w1 ⟨rfl, b1⟩
        have hB := hB.trans (b1.mono hB.size); clear b1
        by_cases hg : g = 1
        · have E := CY1.out hg
          subst hg
          rw [HC.out] at E
          have E := Lib.hid E
          go_wp2_with fail
          go_roundw
          case rel => exact ⟨i + 1, c + 1, by omega, by go_num, by go_num, E, by omega, hB⟩
          case measure => (first | (simp [intOf]; done) | (simp [intOf]; omega) | (simp only [intOf]; omega))
        · have E := CN1.out hg
          rw [HC.out] at E
          have E := Lib.hid E
          have hz1 : ((g : Int) == 1) = false := by simp; omega
          have hz2 : (g == 1) = false := by simp; omega
          go_wp2_with fail
          go_roundw
          case rel => exact ⟨i + 1, c, by omega, by go_num, rfl, E, by omega, hB⟩
          case measure => (first | (simp [intOf]; done) | (simp [intOf]; omega) | (simp only [intOf]; omega))
      · obtain rfl : i = N := by omega
        have d1 : decide ((i : Int) + 1 ≤ (i : Int)) = false := decide_eq_false (by omega)
        have E : c = z := by rw [← HC.out, HZ.out]
        subst E
        go_wp2_with fail
        refine (live3 _).mono ?_
        rintro e w1 ⟨rfl, b1⟩
        have hB := hB.trans (b1.mono hB.size); clear b1
        go_wp2_with fail
        go_ret
        exact ⟨rfl, hB⟩
theorem outside (W : World) (n : Int) (h : ¬ (1 ≤ n ∧ n ≤ 16777216)) :
    Calls Try.prog 5 #[.int .i64 n] W fun e W' => e = .returned (.bool true) ∧ Below W.heap.size W W' := by
  have FP := Lib.hid (fun w => fact_phino n w h)
  have FA := Lib.hid (fun w => fact_abovenob n w h)
  have RI := fun w => r3_is n w
  rw [decide_eq_false h] at RI
  have RI := Lib.hid RI
  have hB : Below W.heap.size W W := Below.refl _ _
  go_enter Try.func5, Try.ntmps5
  go_wp2_with fail
  refine (FP.out _).mono ?_
  rintro e w1 ⟨rfl, rfl⟩
  go_wp2_with fail
  refine (FA.out _).mono ?_
  rintro e w1 ⟨rfl, rfl⟩
  go_wp2_with fail
  refine (RI.out _).mono ?_
  rintro e w1 ⟨rfl, rfl⟩
  go_wp2_with fail
  refine (live3 _).mono ?_
  rintro e w1 ⟨rfl, b1⟩
  have hB := hB.trans (b1.mono hB.size); clear b1
  go_wp2_with fail
  go_ret
  exact ⟨rfl, hB⟩
theorem walk (W : World) (a0 : Int) (w0 : -9223372036854775808 ≤ a0 ∧ a0 ≤ 9223372036854775807) :
    Calls Try.prog 5 #[.int .i64 a0] W fun e W' => e = .returned (.bool true) ∧ Below W.heap.size W W' := by
  by_cases h : 1 ≤ a0 ∧ a0 ≤ 16777216
  · obtain ⟨N, rfl⟩ : ∃ N : Nat, a0 = N := ⟨a0.toNat, by omega⟩
    exact main W N (by omega) (by omega)
  · exact outside W a0 h
end factPhi
end Go.Proofs.Ytmeaakchnellfaa
