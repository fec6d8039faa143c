/- ConvWraps: for every row of words and every number of places: the row with noughts behind, and around the places, or why that can't be. -/
import Derived.Test.YtkijiljipacfjaaLive7
import Derived.Test.YtkijiljipacfjaaZeros
namespace Go.Proofs.Ytkijiljipacfjaa
open Go.ChangeShapes Go.WideShapes Go.ChangeAt Go.RowKit
set_option linter.unusedVariables false
namespace convWraps
open Go.Lib
theorem far (W : World) (a0 : Option Addr) (n c0 : Nat) (m : Int) (h : 200 < n ∨ (n ≤ 200 ∧ 500 < m ∧ m ≤ 16777216)) :
    Calls Try.prog 4 #[.slice a0 n c0, .int .i64 m] W fun e W' => e = .returned (.bool true) ∧ Below W.heap.size W W' := by
  rcases h with h | ⟨h, h1, h2⟩
  · have g1 : decide (200 < (n : Int)) = true := decide_eq_true (by omega)
    go_enter Try.func4, Try.ntmps4
    go_wp2_with fail
    refine (live7 _).mono ?_
    rintro e w1 ⟨rfl, b1⟩
    go_wp2_with fail
    go_ret
    exact ⟨rfl, b1⟩
  · have g1 : decide (200 < (n : Int)) = false := decide_eq_false (by omega)
    have g2 : decide (500 < m) = true := decide_eq_true h1
    have g3 : decide (m ≤ 16777216) = true := decide_eq_true h2
    go_enter Try.func4, Try.ntmps4
    go_wp2_with fail
    refine (live7 _).mono ?_
    rintro e w1 ⟨rfl, b1⟩
    go_wp2_with fail
    go_ret
    exact ⟨rfl, b1⟩
/-- No places, or too many. -/
theorem none1 (W : World) (a0 : Option Addr) (n c0 : Nat) (m : Int) (hn : n ≤ 200) (h : m < 0 ∨ 16777216 < m) :
    Calls Try.prog 4 #[.slice a0 n c0, .int .i64 m] W fun e W' => e = .returned (.bool true) ∧ Below W.heap.size W W' := by
  have P := Lib.hid (fun w => conv_padno a0 n c0 m w h)
  have R := Lib.hid (fun w => conv_wrapno a0 n c0 m w (by omega))
  have g1 : decide (200 < (n : Int)) = false := decide_eq_false (by omega)
  have g5 : (m == 0) = false := by simp; omega
  have g6 : (m != 0) = true := by simp; omega
  rcases h with h | h
  · have g2 : decide (500 < m) = false := decide_eq_false (by omega)
    have g4 : decide (m < 1) = true := decide_eq_true (by omega)
    go_enter Try.func4, Try.ntmps4
    go_wp2_with fail
    refine (P.out _).mono ?_
    rintro e w1 ⟨rfl, rfl⟩
    go_wp2_with fail
    refine (R.out _).mono ?_
    rintro e w1 ⟨rfl, rfl⟩
    go_wp2_with fail
    refine (live7 _).mono ?_
    rintro e w1 ⟨rfl, b1⟩
    go_wp2_with fail
    go_ret
    exact ⟨rfl, b1⟩
  · have g2 : decide (500 < m) = true := decide_eq_true (by omega)
    have g3 : decide (m ≤ 16777216) = false := decide_eq_false (by omega)
    have g4 : decide (m < 1) = false := decide_eq_false (by omega)
    have g7 : decide (16777216 < m) = true := decide_eq_true h
    go_enter Try.func4, Try.ntmps4
    go_wp2_with fail
    refine (P.out _).mono ?_
    rintro e w1 ⟨rfl, rfl⟩
    go_wp2_with fail
    refine (R.out _).mono ?_
    rintro e w1 ⟨rfl, rfl⟩
    go_wp2_with fail
    refine (live7 _).mono ?_
    rintro e w1 ⟨rfl, b1⟩
    go_wp2_with fail
    go_ret
    exact ⟨rfl, b1⟩
theorem none0 (W : World) (a0 : Option Addr) (n c0 : Nat) (xs : List Int) (hx : Row W a0 n xs) (hn : n ≤ 200) :
    Calls Try.prog 4 #[.slice a0 n c0, .int .i64 0] W fun e W' => e = .returned (.bool true) ∧ Below W.heap.size W W' := by
  have R := Lib.hid (fun w => conv_wrapno a0 n c0 0 w (by omega))
  have g1 : decide (200 < (n : Int)) = false := decide_eq_false (by omega)
  by_cases h0 : n = 0
  · subst h0
    have P := Lib.hid (fun w h => conv_pad a0 0 c0 0 xs w h (Nat.le_refl _) (by omega))
    have HX := Lib.hid hx
    clear hx
    go_enter Try.func4, Try.ntmps4
    go_wp2_with fail
    refine (P.out _ HX.out).mono ?_
    rintro e w1 ⟨p1, d1, rfl, _, b1⟩
    go_wp2_with fail
    refine (R.out _).mono ?_
    rintro e w2 ⟨rfl, rfl⟩
    go_wp2_with fail
    refine (live7 _).mono ?_
    rintro e w2 ⟨rfl, b2⟩
    go_wp2_with fail
    go_ret
    exact ⟨rfl, b1.trans (b2.mono b1.size)⟩
  · have P := Lib.hid (fun w => conv_padlen a0 n c0 0 w (by omega) (by omega) (by omega))
    have g2 : decide ((0 : Int) < (n : Int)) = true := decide_eq_true (by omega)
    have g3 : decide (0 < n) = true := decide_eq_true (by omega)
    clear hx
    go_enter Try.func4, Try.ntmps4
    go_wp2_with fail
    refine (P.out _).mono ?_
    rintro e w1 ⟨rfl, rfl⟩
    go_wp2_with fail
    refine (R.out _).mono ?_
    rintro e w1 ⟨rfl, rfl⟩
    go_wp2_with fail
    refine (live7 _).mono ?_
    rintro e w1 ⟨rfl, b1⟩
    go_wp2_with fail
    go_ret
    exact ⟨rfl, b1⟩
set_option maxRecDepth 100000 in
theorem main (W : World) (a0 : Option Addr) (n c0 m : Nat) (xs : List Int) (hx : Row W a0 n xs) (hn : n ≤ 200) (h1 : 1 ≤ m) (h2 : m ≤ 500) :
    Calls Try.prog 4 #[.slice a0 n c0, .int .i64 m] W fun e W' => e = .returned (.bool true) ∧ Below W.heap.size W W' := by
  have CW := Lib.hid (fun w h => conv_wrap a0 n c0 m xs w h h1 (by omega))
  have RW_ := Lib.hid (fun w h => r7_wrap a0 n c0 m xs w h h1 (by omega))
  have g1 : decide (200 < (n : Int)) = false := decide_eq_false (by omega)
  have g2 : decide (500 < (m : Int)) = false := decide_eq_false (by omega)
  have g4 : decide ((m : Int) < 1) = false := decide_eq_false (by omega)
  have g7 : decide (16777216 < (m : Int)) = false := decide_eq_false (by omega)
  have HX := Lib.hid hx
  have hB : Below W.heap.size W W := Below.refl _ _
  by_cases h : m < n
  · have P := Lib.hid (fun w => conv_padlen a0 n c0 m w (by omega) (by omega) (by omega))
    have g8 : decide ((m : Int) < (n : Int)) = true := decide_eq_true (by omega)
    clear hx
    generalize wrapl xs m = ws at *
    go_enter Try.func4, Try.ntmps4
    go_wp2_with fail
    refine (P.out _).mono ?_
    rintro e w1 ⟨rfl, rfl⟩
    go_wp2_with fail
    refine (CW.out _ HX.out).mono ?_
    rintro e w1 ⟨p1, d1, rfl, hr, b1⟩
    have R1 := Lib.hid hr; clear hr; have HX := Lib.hid (HX.out.below b1); have hB := hB.trans (b1.mono hB.size); clear b1
    go_wp2_with fail
    refine (RW_.out _ HX.out).mono ?_
    rintro e w1 ⟨p2, d2, rfl, hr, b1⟩
    have R2 := Lib.hid hr; clear hr; have R1 := Lib.hid (R1.out.below b1); have hB := hB.trans (b1.mono hB.size); clear b1
    go_wp2_with fail
    refine (c_same R1.out R2.out).mono ?_
    rintro e w1 ⟨rfl, b1⟩
    have hB := hB.trans (b1.mono hB.size); clear b1
    go_wp2_with fail
    refine (live7 _).mono ?_
    rintro e w1 ⟨rfl, b1⟩
    have hB := hB.trans (b1.mono hB.size); clear b1
    go_wp2_with fail
    go_ret
    exact ⟨rfl, hB⟩
  · have P := Lib.hid (fun w h' => conv_pad a0 n c0 m xs w h' (by omega) (by omega))
    have RD := Lib.hid (fun w (h' : Row w a0 n xs) => (r5_red a0 c0 xs w h'.reads h'.wf (by rw [h'.len]; exact h'.small)))
    have HL := Lib.hid hx.len
    rw [HL.out] at RD
    have g8 : decide ((m : Int) < (n : Int)) = false := decide_eq_false (by omega)
    have hw1 : IntKind.i64.wrap ((m : Int) - (n : Int)) = ((m - n : Nat) : Int) := by rw [IntWalk.i64_in _ (by omega)]; omega
    have PL := Lib.hid (show (redl xs ++ List.replicate (m - n) (0 : Int)).length = m by rw [List.length_append, redl_len, HL.out, List.length_replicate]; omega)
    have ZL := Lib.hid (show (redl xs).length + (m - n) ≤ 17592186044415 by rw [redl_len, HL.out]; omega)
    clear hx
    generalize wrapl xs m = ws at *
    generalize redl xs = rs at *
    generalize m - n = q at *
    go_enter Try.func4, Try.ntmps4
    go_wp2_with fail
    refine (P.out _ HX.out).mono ?_
    rintro e w1 ⟨p0, d0, rfl, hr, b1⟩
    have R0 := Lib.hid hr; clear hr; have HX := Lib.hid (HX.out.below b1); have hB := hB.trans (b1.mono hB.size); clear b1
    go_wp2_with fail
    refine (CW.out _ HX.out).mono ?_
    rintro e w1 ⟨p1, d1, rfl, hr, b1⟩
    have R1 := Lib.hid hr; clear hr; have HX := Lib.hid (HX.out.below b1); have R0 := Lib.hid (R0.out.below b1); have hB := hB.trans (b1.mono hB.size); clear b1
    go_wp2_with fail
    refine (RW_.out _ HX.out).mono ?_
    rintro e w1 ⟨p2, d2, rfl, hr, b1⟩
    have R2 := Lib.hid hr; clear hr; have HX := Lib.hid (HX.out.below b1); have R0 := Lib.hid (R0.out.below b1); have R1 := Lib.hid (R1.out.below b1); have hB := hB.trans (b1.mono hB.size); clear b1
    go_wp2_with fail
    refine (c_same R1.out R2.out).mono ?_
    rintro e w1 ⟨rfl, b1⟩
    have HX := Lib.hid (HX.out.below b1); have R0 := Lib.hid (R0.out.below b1); have hB := hB.trans (b1.mono hB.size); clear b1
    go_wp2_with fail
    refine (RD.out _ HX.out).mono ?_
    rintro e w2 ⟨v, rfl, hO, b2⟩
    obtain ⟨v', w3, hrun, hO2, b3⟩ := append_zeros_run (m := q) 22 hO b2.size ZL.out
    have R3 := Lib.hid (R0.out.below (b2.trans b3))
    have hB2 := hB.trans ((b2.trans b3).mono hB.size)
    have HO := Lib.hid hO2
    clear hO hO2 b2 b3 R1 R2 R0 hB
    obtain ⟨a, c, rfl, hrd, hc1, _⟩ := HO.out.shape
    have R4 := Lib.hid (show Row w3 a m (rs ++ List.replicate q 0) from ⟨PL.out, hrd, R3.out.wf, by omega⟩)
    rw [PL.out] at hrun
    clear HO hrd
    go_wp2_with (at_builtin; refine append_run_guarded _ (by first | rfl | simp [Region.wanted, yielded, go_sem]) _ _ 22 3 rfl _ _ rfl rfl _ _ hrun ?_)
    refine (c_same R3.out R4.out).mono ?_
    rintro e w4 ⟨rfl, b1⟩
    have hB3 := hB2.trans (b1.mono hB2.size)
    clear b1
    go_wp2_with fail
    refine (live7 _).mono ?_
    rintro e w5 ⟨rfl, b1⟩
    have hB4 := hB3.trans (b1.mono hB3.size)
    go_wp2_with fail
    go_ret
    exact ⟨rfl, hB4⟩
theorem walk (W : World) (a0 : Option Addr) (n0 c0 : Nat) (w0 : IsRow .u64 W a0 n0 c0) (a1 : Int) (w1 : -9223372036854775808 ≤ a1 ∧ a1 ≤ 9223372036854775807) :
    Calls Try.prog 4 #[.slice a0 n0 c0, .int .i64 a1] W fun e W' => e = .returned (.bool true) ∧ Below W.heap.size W W' := by
  by_cases h : 200 < n0 ∨ (n0 ≤ 200 ∧ 500 < a1 ∧ a1 ≤ 16777216)
  · exact far W a0 n0 c0 a1 h
  · by_cases h1 : a1 < 0 ∨ 16777216 < a1
    · exact none1 W a0 n0 c0 a1 (by omega) h1
    · obtain ⟨xs, hx⟩ := Row.of_isRow w0 (by omega)
      by_cases h2 : a1 = 0
      · subst h2
        exact none0 W a0 n0 c0 xs hx (by omega)
      · obtain ⟨m, rfl⟩ : ∃ m : Nat, a1 = m := ⟨a1.toNat, by omega⟩
        exact main W a0 n0 c0 m xs hx (by omega) (by omega) (by omega)
end convWraps
end Go.Proofs.Ytkijiljipacfjaa
