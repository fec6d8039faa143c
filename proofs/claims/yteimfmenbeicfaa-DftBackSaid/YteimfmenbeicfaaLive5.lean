/- The page's example of layer 5. -/
import Derived.Test.YteimfmenbeicfaaVec3
import Derived.Test.YteimfmenbeicfaaSame
namespace Go.Proofs.Yteimfmenbeicfaa
open Go.ChangeShapes Go.WideShapes Go.ChangeAt Go.RowKit
set_option linter.unusedVariables false

theorem wf123 : ∀ x ∈ [(1 : Int), 2, 3], (Lit.int .u64 x).wf = true := by decide
theorem rev123 (w : World) (B : Nat) (h : RowAt w B 22 [1, 2, 3]) :
    Calls Try.prog 44 #[.slice (some ⟨B, 0, none⟩) 3 3] w fun e w' => e = .returned (.slice (some ⟨w.heap.size, 0, none⟩) 3 3) ∧ RowAt w' w.heap.size 22 [1, 3, 2] ∧ Below w.heap.size w w' := by
  have := vec_rev (some ⟨B, 0, none⟩) 3 [1, 2, 3] w h.reads wf123 (by decide)
  rwa [show revl [1, 2, 3] = [1, 3, 2] from by decide] at this
theorem turn123 (w : World) (B : Nat) (h : RowAt w B 22 [1, 2, 3]) :
    Calls Try.prog 43 #[.slice (some ⟨B, 0, none⟩) 3 3, .int .i64 1] w fun e w' => e = .returned (.slice (some ⟨w.heap.size, 0, none⟩) 3 3) ∧ RowAt w' w.heap.size 22 [2, 3, 1] ∧ Below w.heap.size w w' := by
  have := vec_turn (some ⟨B, 0, none⟩) 3 1 [1, 2, 3] w (by decide) h.reads wf123 (by decide) (by decide) (by decide)
  rwa [show turnl [1, 2, 3] (tpos 1 [(1 : Int), 2, 3].length) = [2, 3, 1] from by decide] at this
theorem same3 (w : World) (B C : Nat) (x y z : Int) (h : RowAt w B 22 [x, y, z]) (k : RowAt w C 22 [x, y, z]) :
    Calls Try.prog 27 #[.slice (some ⟨B, 0, none⟩) 3 3, .slice (some ⟨C, 0, none⟩) 3 3] w fun e w' => e = .returned (.bool true) ∧ Below w.heap.size w w' := by
  have := r2_same (some ⟨B, 0, none⟩) (some ⟨C, 0, none⟩) 3 3 [x, y, z] [x, y, z] w h.reads k.reads (by simp)
  rwa [decide_eq_true rfl] at this
theorem rowat3 (w : World) (x y z : Int) : RowAt (w.alloc (.cells #[.int .u64 x, .int .u64 y, .int .u64 z] 22)) w.heap.size 22 [x, y, z] := by
  unfold RowAt; rw [heap_alloc_new]; rfl

theorem live5 (w : World) : Calls Try.prog 31 #[] w fun e w' => e = .returned (.bool true) ∧ Below w.heap.size w w' := by
  have r1 := rowat3 w 1 2 3
  have b1 : Below w.heap.size w (w.alloc (.cells #[.int .u64 1, .int .u64 2, .int .u64 3] 22)) := (Below.refl _ _).alloc (Nat.le_refl _) _
  go_enter Try.func31, Try.ntmps31
  go_wp2_with fail
  generalize w.alloc (.cells #[.int .u64 1, .int .u64 2, .int .u64 3] 22) = W1 at *
  refine (rev123 W1 _ r1).mono ?_
  rintro e w2 ⟨rfl, r2, b2⟩
  have r3 := rowat3 w2 1 3 2
  have r2' := r2.alloc (.cells #[.int .u64 1, .int .u64 3, .int .u64 2] 22)
  have b3 : Below w.heap.size w (w2.alloc (.cells #[.int .u64 1, .int .u64 3, .int .u64 2] 22)) := (b1.trans (b2.mono b1.size)).alloc (by have := b1.size; have := b2.size; omega) _
  have R3 := Lib.hid r3
  have R2 := Lib.hid r2'
  clear r1 r2 r3 r2'
  go_wp2_with fail
  generalize w2.alloc (.cells #[.int .u64 1, .int .u64 3, .int .u64 2] 22) = W3 at *
  refine (same3 W3 _ _ 1 3 2 R2.out R3.out).mono ?_
  rintro e w4 ⟨rfl, b4⟩
  have r5 := Lib.hid (rowat3 w4 1 2 3)
  have b5 : Below w.heap.size w (w4.alloc (.cells #[.int .u64 1, .int .u64 2, .int .u64 3] 22)) := (b3.trans (b4.mono b3.size)).alloc (by have := b3.size; have := b4.size; omega) _
  clear R2 R3
  go_wp2_with fail
  generalize w4.alloc (.cells #[.int .u64 1, .int .u64 2, .int .u64 3] 22) = W5 at *
  refine (turn123 W5 _ r5.out).mono ?_
  rintro e w6 ⟨rfl, r6, b6⟩
  have r7 := Lib.hid (rowat3 w6 2 3 1)
  have r6' := Lib.hid (r6.alloc (.cells #[.int .u64 2, .int .u64 3, .int .u64 1] 22))
  have b7 : Below w.heap.size w (w6.alloc (.cells #[.int .u64 2, .int .u64 3, .int .u64 1] 22)) := (b5.trans (b6.mono b5.size)).alloc (by have := b5.size; have := b6.size; omega) _
  clear r5 r6
  go_wp2_with fail
  generalize w6.alloc (.cells #[.int .u64 2, .int .u64 3, .int .u64 1] 22) = W7 at *
  refine (same3 W7 _ _ 2 3 1 r6'.out r7.out).mono ?_
  rintro e w8 ⟨rfl, b8⟩
  go_wp2_with fail
  go_ret
  exact ⟨rfl, b7.trans (b8.mono b7.size)⟩

end Go.Proofs.Yteimfmenbeicfaa
