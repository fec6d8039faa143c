/- ConvTells: for every two rows of words: their plain product, and the one around, or why there is none. -/
import Derived.Test.YtkijiljipacfjaaLive7
namespace Go.Proofs.Ytkijiljipacfjaa
open Go.ChangeShapes Go.WideShapes Go.ChangeAt Go.RowKit
set_option linter.unusedVariables false
namespace convTells
theorem far (W : World) (a0 a1 : Option Addr) (n m c0 c1 : Nat) (h : 60 < n ∨ 60 < m) :
    Calls Try.prog 3 #[.slice a0 n c0, .slice a1 m c1] W fun e W' => e = .returned (.bool true) ∧ Below W.heap.size W W' := by
  by_cases h1 : 60 < n
  · have g1 : decide (60 < (n : Int)) = true := decide_eq_true (by omega)
    go_enter Try.func3, Try.ntmps3
    go_wp2_with fail
    refine (live7 _).mono ?_
    rintro e w1 ⟨rfl, b1⟩
    go_wp2_with fail
    go_ret
    exact ⟨rfl, b1⟩
  · have g1 : decide (60 < (n : Int)) = false := decide_eq_false (by omega)
    have g2 : decide (60 < (m : Int)) = true := decide_eq_true (by omega)
    go_enter Try.func3, Try.ntmps3
    go_wp2_with fail
    refine (live7 _).mono ?_
    rintro e w1 ⟨rfl, b1⟩
    go_wp2_with fail
    go_ret
    exact ⟨rfl, b1⟩
set_option maxRecDepth 100000 in
theorem main (W : World) (a0 a1 : Option Addr) (n m c0 c1 : Nat) (xs ys : List Int) (hx : Row W a0 n xs) (hy : Row W a1 m ys) (hn : n ≤ 60) (hm : m ≤ 60) :
    Calls Try.prog 3 #[.slice a0 n c0, .slice a1 m c1] W fun e W' => e = .returned (.bool true) ∧ Below W.heap.size W W' := by
  have g1 : decide (60 < (n : Int)) = false := decide_eq_false (by omega)
  have g2 : decide (60 < (m : Int)) = false := decide_eq_false (by omega)
  have LI := Lib.hid (fun w h1 h2 => conv_linear a0 a1 n m c0 c1 xs ys w h1 h2 (by omega) (by omega))
  have RL := Lib.hid (fun w h1 h2 => r7_linear a0 a1 n m c0 c1 xs ys w h1 h2 (by omega) (by omega))
  have HX := Lib.hid hx
  have HY := Lib.hid hy
  have hB : Below W.heap.size W W := Below.refl _ _
  by_cases hne : n = m
  · subst hne
    have g3 : ((n : Int) != (n : Int)) = false := by simp
    have CY := Lib.hid (fun w h1 h2 => conv_cyclic a0 a1 n c0 c1 xs ys w h1 h2 (by omega))
    have RC := Lib.hid (fun w h1 h2 => r7_cyclic a0 a1 n c0 c1 xs ys w h1 h2 (by omega))
    by_cases h0 : n = 0
    · subst h0
      clear hx hy
      generalize linl xs ys = ls at *
      generalize cycl xs ys = cs at *
      go_enter Try.func3, Try.ntmps3
      go_wp2_with fail
      refine (LI.out _ HX.out HY.out).mono ?_
      rintro e w1 ⟨p1, d1, rfl, hr, b1⟩
      have R1 := Lib.hid hr; clear hr; have HX := Lib.hid (HX.out.below b1); have HY := Lib.hid (HY.out.below b1); have hB := hB.trans (b1.mono hB.size); clear b1
      go_wp2_with fail
      refine (RL.out _ HX.out HY.out).mono ?_
      rintro e w1 ⟨p2, d2, rfl, hr, b1⟩
      have R2 := Lib.hid hr; clear hr; have HX := Lib.hid (HX.out.below b1); have HY := Lib.hid (HY.out.below b1); have R1 := Lib.hid (R1.out.below b1); have hB := hB.trans (b1.mono hB.size); clear b1
      go_wp2_with fail
      refine (c_same R1.out R2.out).mono ?_
      rintro e w1 ⟨rfl, b1⟩
      have HX := Lib.hid (HX.out.below b1); have HY := Lib.hid (HY.out.below b1); have hB := hB.trans (b1.mono hB.size); clear b1
      go_wp2_with fail
      refine (CY.out _ HX.out HY.out).mono ?_
      rintro e w1 ⟨p3, d3, rfl, hr, b1⟩
      have R3 := Lib.hid hr; clear hr; have HX := Lib.hid (HX.out.below b1); have HY := Lib.hid (HY.out.below b1); have hB := hB.trans (b1.mono hB.size); clear b1
      go_wp2_with fail
      refine (RC.out _ HX.out HY.out).mono ?_
      rintro e w1 ⟨p4, d4, rfl, hr, b1⟩
      have R4 := Lib.hid hr; clear hr; have R3 := Lib.hid (R3.out.below b1); have hB := hB.trans (b1.mono hB.size); clear b1
      go_wp2_with fail
      refine (c_same R3.out R4.out).mono ?_
      rintro e w1 ⟨rfl, b1⟩
      have hB := hB.trans (b1.mono hB.size); clear b1
      go_wp2_with fail
      refine (live7 _).mono ?_
      rintro e w1 ⟨rfl, b1⟩
      have hB := hB.trans (b1.mono hB.size); clear b1
      go_wp2_with fail
      go_ret
      exact ⟨rfl, hB⟩
    · have d0 : ((n : Int) == 0) = false := by simp; omega
      have WL := Lib.hid (wrap_lin xs ys n hx.len hy.len (by omega))
      have WR := Lib.hid (fun p N c w (h : Row w p N (linl xs ys)) => r7_wrap p N c n (linl xs ys) w h (by omega) (by omega))
      clear hx hy
      rw [WL.out] at WR
      clear WL
      generalize linl xs ys = ls at *
      generalize cycl xs ys = cs at *
      go_enter Try.func3, Try.ntmps3
      go_wp2_with fail
      refine (LI.out _ HX.out HY.out).mono ?_
      rintro e w1 ⟨p1, d1, rfl, hr, b1⟩
      have R1 := Lib.hid hr; clear hr; have HX := Lib.hid (HX.out.below b1); have HY := Lib.hid (HY.out.below b1); have hB := hB.trans (b1.mono hB.size); clear b1
      go_wp2_with fail
      refine (RL.out _ HX.out HY.out).mono ?_
      rintro e w1 ⟨p2, d2, rfl, hr, b1⟩
      have R2 := Lib.hid hr; clear hr; have HX := Lib.hid (HX.out.below b1); have HY := Lib.hid (HY.out.below b1); have R1 := Lib.hid (R1.out.below b1); have hB := hB.trans (b1.mono hB.size); clear b1
      go_wp2_with fail
      refine (c_same R1.out R2.out).mono ?_
      rintro e w1 ⟨rfl, b1⟩
      have HX := Lib.hid (HX.out.below b1); have HY := Lib.hid (HY.out.below b1); have R1 := Lib.hid (R1.out.below b1); have hB := hB.trans (b1.mono hB.size); clear b1
      go_wp2_with fail
      refine (CY.out _ HX.out HY.out).mono ?_
      rintro e w1 ⟨p3, d3, rfl, hr, b1⟩
      have R3 := Lib.hid hr; clear hr; have HX := Lib.hid (HX.out.below b1); have HY := Lib.hid (HY.out.below b1); have R1 := Lib.hid (R1.out.below b1); have hB := hB.trans (b1.mono hB.size); clear b1
      go_wp2_with fail
      refine (RC.out _ HX.out HY.out).mono ?_
      rintro e w1 ⟨p4, d4, rfl, hr, b1⟩
      have R4 := Lib.hid hr; clear hr; have R1 := Lib.hid (R1.out.below b1); have R3 := Lib.hid (R3.out.below b1); have hB := hB.trans (b1.mono hB.size); clear b1
      go_wp2_with fail
      refine (c_same R3.out R4.out).mono ?_
      rintro e w1 ⟨rfl, b1⟩
      have R1 := Lib.hid (R1.out.below b1); have R3 := Lib.hid (R3.out.below b1); have hB := hB.trans (b1.mono hB.size); clear b1
      go_wp2_with fail
      refine (WR.out _ _ _ _ R1.out).mono ?_
      rintro e w1 ⟨p5, d5, rfl, hr, b1⟩
      have R5 := Lib.hid hr; clear hr; have R3 := Lib.hid (R3.out.below b1); have hB := hB.trans (b1.mono hB.size); clear b1
      go_wp2_with fail
      refine (c_same R5.out R3.out).mono ?_
      rintro e w1 ⟨rfl, b1⟩
      have hB := hB.trans (b1.mono hB.size); clear b1
      go_wp2_with fail
      refine (live7 _).mono ?_
      rintro e w1 ⟨rfl, b1⟩
      have hB := hB.trans (b1.mono hB.size); clear b1
      go_wp2_with fail
      go_ret
      exact ⟨rfl, hB⟩
  · have g3 : ((n : Int) != (m : Int)) = true := by simp; omega
    have CY := Lib.hid (fun w => conv_cyclicno a0 a1 n m c0 c1 w hne)
    clear hx hy
    generalize linl xs ys = ls at *
    go_enter Try.func3, Try.ntmps3
    go_wp2_with fail
    refine (LI.out _ HX.out HY.out).mono ?_
    rintro e w1 ⟨p1, d1, rfl, hr, b1⟩
    have R1 := Lib.hid hr; clear hr; have HX := Lib.hid (HX.out.below b1); have HY := Lib.hid (HY.out.below b1); have hB := hB.trans (b1.mono hB.size); clear b1
    go_wp2_with fail
    refine (RL.out _ HX.out HY.out).mono ?_
    rintro e w1 ⟨p2, d2, rfl, hr, b1⟩
    have R2 := Lib.hid hr; clear hr; have R1 := Lib.hid (R1.out.below b1); have hB := hB.trans (b1.mono hB.size); clear b1
    go_wp2_with fail
    refine (c_same R1.out R2.out).mono ?_
    rintro e w1 ⟨rfl, b1⟩
    have hB := hB.trans (b1.mono hB.size); clear b1
    go_wp2_with fail
    refine (CY.out _).mono ?_
    rintro e w1 ⟨rfl, rfl⟩
    go_wp2_with fail
    refine (live7 _).mono ?_
    rintro e w1 ⟨rfl, b1⟩
    have hB := hB.trans (b1.mono hB.size); clear b1
    go_wp2_with fail
    go_ret
    exact ⟨rfl, hB⟩
theorem walk (W : World) (a0 : Option Addr) (n0 c0 : Nat) (w0 : IsRow .u64 W a0 n0 c0) (a1 : Option Addr) (n1 c1 : Nat) (w1 : IsRow .u64 W a1 n1 c1) :
    Calls Try.prog 3 #[.slice a0 n0 c0, .slice a1 n1 c1] W fun e W' => e = .returned (.bool true) ∧ Below W.heap.size W W' := by
  by_cases h : 60 < n0 ∨ 60 < n1
  · exact far W a0 a1 n0 n1 c0 c1 h
  · obtain ⟨xs, hx⟩ := Row.of_isRow w0 (by omega)
    obtain ⟨ys, hy⟩ := Row.of_isRow w1 (by omega)
    exact main W a0 a1 n0 n1 c0 c1 xs ys hx hy (by omega) (by omega)
end convTells
end Go.Proofs.Ytkijiljipacfjaa
