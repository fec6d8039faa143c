/- Package small: transform of one, three, five. -/
import Derived.Test.YtjiedfncamdojaaSmall4
namespace Go.Proofs.Ytjiedfncamdojaa
open Go.ChangeShapes Go.WideShapes Go.ChangeAt Go.RowKit
set_option linter.unusedVariables false
set_option maxRecDepth 100000 in
theorem small_one (B o c : Nat) (dir : Int) (zs : List Int) (W : World) (hr : RowAt W B 24 zs) (hd : dir = 0 ∨ dir = 1) :
    Calls Try.prog 70 #[.slice (some ⟨B, o, none⟩) 1 c, .int .i64 dir] W fun e w' => e = .returned (.tuple #[]) ∧ InRow W w' B zs := by
  have R := Lib.hid (show ∀ w, Calls Try.prog 83 #[.int .i64 1, .int .i64 dir] w fun e w' => e = .returned (.int .u64 (rdir (1 : Nat) dir)) ∧ Below w.heap.size w w' from fun w => small_base 1 dir w (by omega) (by omega) hd)
  have I0 := Lib.hid (show InRow W W B zs from ⟨hr, But.refl _ _⟩)
  generalize rdir (1 : Nat) dir = r at *
  clear hd hr
  go_enter Try.func70, Try.ntmps70
  refine scope_two rfl rfl ?_
  go_wp2_with fail
  refine (R.out _).mono ?_
  rintro e w1 ⟨rfl, b1⟩
  have I1 := Lib.hid (I0.out.below b1)
  clear I0 b1
  go_wp2_with fail
  apply wp_goto
  go_wp2_with fail
  refine jumps_zero1 ?_
  go_wp2_with fail
  refine jumps_normal ?_
  go_wp2_with fail
  go_end0
  exact ⟨rfl, I1.out⟩
set_option maxRecDepth 100000 in
theorem via_three (B o c : Nat) (dir r : Int) (hrr : r = rdir (3 : Nat) dir) (zs : List Int) (W : World) (Z : List Int) (hr : RowAt W B 24 zs) (hd : dir = 0 ∨ dir = 1) (h3 : ∀ w, InRow W w B zs → Calls Try.prog 84 #[.slice (some ⟨B, o, none⟩) 3 c, .int .u64 r] w fun e w' => e = .returned (.tuple #[]) ∧ InRow W w' B Z) :
    Calls Try.prog 70 #[.slice (some ⟨B, o, none⟩) 3 c, .int .i64 dir] W fun e w' => e = .returned (.tuple #[]) ∧ InRow W w' B Z := by
  have R := Lib.hid (show ∀ w, Calls Try.prog 83 #[.int .i64 3, .int .i64 dir] w fun e w' => e = .returned (.int .u64 r) ∧ Below w.heap.size w w' from fun w => by rw [hrr]; exact small_base 3 dir w (by omega) (by omega) hd)
  have I0 := Lib.hid (show InRow W W B zs from ⟨hr, But.refl _ _⟩)
  have H3 := Lib.hid h3
  clear hd hr hrr h3
  go_enter Try.func70, Try.ntmps70
  refine scope_two rfl rfl ?_
  go_wp2_with fail
  refine (R.out _).mono ?_
  rintro e w1 ⟨rfl, b1⟩
  have I1 := Lib.hid (I0.out.below b1)
  clear I0 b1
  go_wp2_with fail
  refine (H3.out _ I1.out).mono ?_
  rintro e w2 ⟨rfl, i2⟩
  have I2 := Lib.hid i2
  clear i2
  go_wp2_with fail
  apply wp_goto
  go_wp2_with fail
  refine jumps_zero1 ?_
  go_wp2_with fail
  refine jumps_normal ?_
  go_wp2_with fail
  go_end0
  exact ⟨rfl, I2.out⟩
set_option maxRecDepth 100000 in
theorem via_five (B o c : Nat) (dir r : Int) (hrr : r = rdir (5 : Nat) dir) (zs : List Int) (W : World) (Z : List Int) (hr : RowAt W B 24 zs) (hd : dir = 0 ∨ dir = 1) (h3 : ∀ w, InRow W w B zs → Calls Try.prog 86 #[.slice (some ⟨B, o, none⟩) 5 c, .int .u64 r] w fun e w' => e = .returned (.tuple #[]) ∧ InRow W w' B Z) :
    Calls Try.prog 70 #[.slice (some ⟨B, o, none⟩) 5 c, .int .i64 dir] W fun e w' => e = .returned (.tuple #[]) ∧ InRow W w' B Z := by
  have R := Lib.hid (show ∀ w, Calls Try.prog 83 #[.int .i64 5, .int .i64 dir] w fun e w' => e = .returned (.int .u64 r) ∧ Below w.heap.size w w' from fun w => by rw [hrr]; exact small_base 5 dir w (by omega) (by omega) hd)
  have I0 := Lib.hid (show InRow W W B zs from ⟨hr, But.refl _ _⟩)
  have H3 := Lib.hid h3
  clear hd hr hrr h3
  go_enter Try.func70, Try.ntmps70
  refine scope_two rfl rfl ?_
  go_wp2_with fail
  refine (R.out _).mono ?_
  rintro e w1 ⟨rfl, b1⟩
  have I1 := Lib.hid (I0.out.below b1)
  clear I0 b1
  go_wp2_with fail
  refine (H3.out _ I1.out).mono ?_
  rintro e w2 ⟨rfl, i2⟩
  have I2 := Lib.hid i2
  clear i2
  go_wp2_with fail
  apply wp_goto
  go_wp2_with fail
  refine jumps_zero1 ?_
  go_wp2_with fail
  refine jumps_normal ?_
  go_wp2_with fail
  go_end0
  exact ⟨rfl, I2.out⟩
end Go.Proofs.Ytjiedfncamdojaa
