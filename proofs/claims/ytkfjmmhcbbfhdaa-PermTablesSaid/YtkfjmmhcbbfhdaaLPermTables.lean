/- PermTables: for every two sides: the order of a table that is read by columns, and that the other one is its inverse, or why there is none. -/
import Derived.Test.YtkfjmmhcbbfhdaaPerm4
namespace Go.Proofs.Ytkfjmmhcbbfhdaa
open Go.ChangeShapes Go.WideShapes Go.ChangeAt Go.RowKit
set_option linter.unusedVariables false
namespace permTables
theorem noside (W : World) (a b : Int) (hs : sidesb a b = false) :
    Calls Try.prog 10 #[.int .i64 a, .int .i64 b] W fun e W' => e = .returned (.bool true) ∧ Below W.heap.size W W' := by
  have H := fun w => r8_sides a b w
  rw [hs] at H
  have H := Lib.hid H
  have S := Lib.hid (fun w => perm_strideno a b w hs)
  clear hs
  go_enter Try.func10, Try.ntmps10
  go_wp2_with fail
  refine (H.out _).mono ?_
  rintro e w1 ⟨rfl, rfl⟩
  go_wp2_with fail
  refine (S.out _).mono ?_
  rintro e w1 ⟨rfl, rfl⟩
  go_wp2_with fail
  refine (H.out _).mono ?_
  rintro e w1 ⟨rfl, rfl⟩
  go_wp2_with fail
  refine (live8 _).mono ?_
  rintro e w1 ⟨rfl, b1⟩
  go_wp2_with fail
  go_ret
  exact ⟨rfl, b1⟩
theorem great (W : World) (a b : Nat) (hs : sidesb a b = true) (hN : 400 < a * b) (h : a * b ≤ 16777216) :
    Calls Try.prog 10 #[.int .i64 a, .int .i64 b] W fun e W' => e = .returned (.bool true) ∧ Below W.heap.size W W' := by
  have H := fun w => r8_sides a b w
  rw [hs] at H
  have H := Lib.hid H
  obtain ⟨N, hN2⟩ : ∃ N, a * b = N := ⟨_, rfl⟩
  rw [hN2] at hN h
  have hw : IntKind.i64.wrap ((a : Int) * (b : Int)) = (N : Int) := by rw [mul_cast, hN2]; exact IntWalk.i64_in _ (by omega)
  have d : decide (400 < (N : Int)) = true := decide_eq_true (by omega)
  have d' : decide (400 < N) = true := decide_eq_true (by omega)
  clear hN2 hs
  go_enter Try.func10, Try.ntmps10
  go_wp2_with fail
  refine (H.out _).mono ?_
  rintro e w1 ⟨rfl, rfl⟩
  go_wp2_with fail
  refine (live8 _).mono ?_
  rintro e w1 ⟨rfl, b1⟩
  go_wp2_with fail
  go_ret
  exact ⟨rfl, b1⟩
set_option maxRecDepth 100000 in
theorem main (W : World) (a b : Nat) (hs : sidesb a b = true) (ha : 1 ≤ a) (hb : 1 ≤ b) (hN : a * b ≤ 400) :
    Calls Try.prog 10 #[.int .i64 a, .int .i64 b] W fun e W' => e = .returned (.bool true) ∧ Below W.heap.size W W' := by
  have H := fun w => r8_sides a b w
  rw [hs] at H
  have H := Lib.hid H
  have S1 := Lib.hid (fun w => perm_stride a b w ha hb (by omega))
  have S2 := fun w => perm_stride b a w hb ha (by rw [Nat.mul_comm]; omega)
  rw [Nat.mul_comm b a] at S2
  have S2 := Lib.hid S2
  have RS := Lib.hid (fun w => r8_stride a b w ha hb (by omega))
  have IV := fun p c w h => perm_inverse p (a * b) c (strl a b) w h (strl_right a b)
  rw [strl_inv] at IV
  have IV := Lib.hid IV
  have hB : Below W.heap.size W W := Below.refl _ _
  generalize strl a b = xs at *
  generalize strl b a = ys at *
  obtain ⟨N, hN2⟩ : ∃ N, a * b = N := ⟨_, rfl⟩
  rw [hN2] at hN S1 S2 RS IV
  have hw : IntKind.i64.wrap ((a : Int) * (b : Int)) = (N : Int) := by rw [mul_cast, hN2]; exact IntWalk.i64_in _ (by omega)
  have d : decide (400 < (N : Int)) = false := decide_eq_false (by omega)
  have d' : decide (400 < N) = false := decide_eq_false (by omega)
  clear hN2 hs ha hb
  go_enter Try.func10, Try.ntmps10
  go_wp2_with fail
  refine (H.out _).mono ?_
  rintro e w1 ⟨rfl, rfl⟩
  go_wp2_with fail
  refine (S1.out _).mono ?_
  rintro e w1 ⟨p1, k1, rfl, h, b1⟩
  have R1 := Lib.hid h; clear h; have hB := hB.trans (b1.mono hB.size); clear b1
  go_wp2_with fail
  refine (H.out _).mono ?_
  rintro e w2 ⟨rfl, rfl⟩
  go_wp2_with fail
  refine (S2.out _).mono ?_
  rintro e w1 ⟨p2, k2, rfl, h, b1⟩
  have R2 := Lib.hid h; clear h; have R1 := Lib.hid (R1.out.below b1); have hB := hB.trans (b1.mono hB.size); clear b1
  go_wp2_with fail
  refine (IV.out _ _ _ R1.out).mono ?_
  rintro e w1 ⟨p3, k3, rfl, h, b1⟩
  have R3 := Lib.hid h; clear h; have R1 := Lib.hid (R1.out.below b1); have R2 := Lib.hid (R2.out.below b1); have hB := hB.trans (b1.mono hB.size); clear b1
  go_wp2_with fail
  refine (RS.out _).mono ?_
  rintro e w1 ⟨p4, k4, rfl, h, b1⟩
  have R4 := Lib.hid h; clear h; have R1 := Lib.hid (R1.out.below b1); have R2 := Lib.hid (R2.out.below b1); have R3 := Lib.hid (R3.out.below b1); have hB := hB.trans (b1.mono hB.size); clear b1
  go_wp2_with fail
  refine (c_samei R1.out R4.out).mono ?_
  rintro e w1 ⟨rfl, b1⟩
  have R2 := Lib.hid (R2.out.below b1); have R3 := Lib.hid (R3.out.below b1); have hB := hB.trans (b1.mono hB.size); clear b1
  go_wp2_with fail
  refine (c_samei R2.out R3.out).mono ?_
  rintro e w1 ⟨rfl, b1⟩
  have hB := hB.trans (b1.mono hB.size); clear b1
  go_wp2_with fail
  refine (live8 _).mono ?_
  rintro e w1 ⟨rfl, b1⟩
  have hB := hB.trans (b1.mono hB.size); clear b1
  go_wp2_with fail
  go_ret
  exact ⟨rfl, hB⟩
theorem walk (W : World) (a0 : Int) (w0 : -9223372036854775808 ≤ a0 ∧ a0 ≤ 9223372036854775807) (a1 : Int) (w1 : -9223372036854775808 ≤ a1 ∧ a1 ≤ 9223372036854775807) :
    Calls Try.prog 10 #[.int .i64 a0, .int .i64 a1] W fun e W' => e = .returned (.bool true) ∧ Below W.heap.size W W' := by
  cases hs : sidesb a0 a1 with
  | false => exact noside W a0 a1 hs
  | true =>
    obtain ⟨m, n, rfl, rfl, h1, _, h2, _, h3⟩ := sides_yes hs
    by_cases h : 400 < m * n
    · exact great W m n hs h h3
    · exact main W m n hs h1 h2 (by omega)
end permTables
end Go.Proofs.Ytkfjmmhcbbfhdaa
