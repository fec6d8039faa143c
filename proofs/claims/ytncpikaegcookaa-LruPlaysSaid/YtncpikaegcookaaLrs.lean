/- lru: of no list; law 32's live. -/
import Derived.Test.YtncpikaegcookaaLrq
namespace Go.Proofs.Ytncpikaegcookaa
open Go.ChangeShapes Go.WideShapes Go.ChangeAt Go.RowKit
set_option linter.unusedVariables false
set_option linter.unusedSimpArgs false
theorem n_find (k : Int) (W : World) : Calls Try.prog 21 #[.pointer none, .int .i64 k] W fun e w' => e = .returned (.pointer none) ∧ Below W.heap.size W w' := by
  go_enter Try.func21, Try.ntmps21
  go_wp2_with fail
  go_ret
  exact ⟨rfl, Below.refl _ _⟩
theorem n_get (k : Int) (W : World) : Calls Try.prog 10 #[.pointer none, .int .i64 k] W fun e w' => e = .returned (.tuple #[.int .i64 0, .bool false]) ∧ Below W.heap.size W w' := by
  have CF := Lib.hid (n_find k W)
  go_enter Try.func10, Try.ntmps10
  go_wp2_with fail
  refine (CF.out).mono ?_
  rintro e w1 ⟨rfl, hb1⟩
  have HB := Lib.hid hb1
  clear hb1
  go_wp2_with fail
  refine (l_nothing _).mono ?_
  rintro e w2 ⟨rfl, rfl⟩
  go_wp2_with fail
  go_ret2
  exact ⟨rfl, HB.out⟩
theorem n_peek (k : Int) (W : World) : Calls Try.prog 12 #[.pointer none, .int .i64 k] W fun e w' => e = .returned (.tuple #[.int .i64 0, .bool false]) ∧ Below W.heap.size W w' := by
  have CF := Lib.hid (n_find k W)
  go_enter Try.func12, Try.ntmps12
  go_wp2_with fail
  refine (CF.out).mono ?_
  rintro e w1 ⟨rfl, hb1⟩
  have HB := Lib.hid hb1
  clear hb1
  go_wp2_with fail
  refine (l_nothing _).mono ?_
  rintro e w2 ⟨rfl, rfl⟩
  go_wp2_with fail
  go_ret2
  exact ⟨rfl, HB.out⟩
theorem n_del (k : Int) (W : World) : Calls Try.prog 16 #[.pointer none, .int .i64 k] W fun e w' => e = .returned (.tuple #[.int .i64 0, .bool false]) ∧ Below W.heap.size W w' := by
  have CF := Lib.hid (n_find k W)
  go_enter Try.func16, Try.ntmps16
  go_wp2_with fail
  refine (CF.out).mono ?_
  rintro e w1 ⟨rfl, hb1⟩
  have HB := Lib.hid hb1
  clear hb1
  go_wp2_with fail
  refine (l_nothing _).mono ?_
  rintro e w2 ⟨rfl, rfl⟩
  go_wp2_with fail
  go_ret2
  exact ⟨rfl, HB.out⟩
theorem n_put (k a : Int) (W : World) : Calls Try.prog 14 #[.pointer none, .int .i64 k, .int .i64 a] W fun e w' => e = .returned (.tuple #[.int .i64 0, .bool false]) ∧ w' = W := by
  go_enter Try.func14, Try.ntmps14
  go_wp2_with fail
  refine (l_nothing _).mono ?_
  rintro e w2 ⟨rfl, rfl⟩
  go_wp2_with fail
  go_ret2
  exact ⟨rfl, rfl⟩
theorem n_keys (W : World) : Calls Try.prog 19 #[.pointer none] W fun e w' => e = .returned (.slice none 0 0) ∧ w' = W := by
  go_enter Try.func19, Try.ntmps19
  go_wp2_with fail
  go_ret
  exact ⟨rfl, rfl⟩
theorem n_len (W : World) : Calls Try.prog 20 #[.pointer none] W fun e w' => e = .returned (.int .i64 0) ∧ w' = W := by
  go_enter Try.func20, Try.ntmps20
  go_wp2_with fail
  go_ret
  exact ⟨rfl, rfl⟩
theorem n_room (W : World) : Calls Try.prog 9 #[.pointer none] W fun e w' => e = .returned (.int .i64 0) ∧ w' = W := by
  go_enter Try.func9, Try.ntmps9
  go_wp2_with fail
  go_ret
  exact ⟨rfl, rfl⟩
set_option maxRecDepth 100000 in
set_option maxHeartbeats 8000000 in
theorem live32 (W : World) : Calls Try.prog 6 #[] W fun e w' => e = .returned (.bool true) ∧ Below W.heap.size W w' := by
  have CN := Lib.hid (l_new 2 (by omega) W)
  go_enter Try.func6, Try.ntmps6
  go_wp2_with fail
  refine (CN.out).mono ?_
  rintro e w1 ⟨Lb, rfl, h1, hb1⟩
  have HB1 := Lib.hid hb1
  have C1 := Lib.hid (l_put W.heap.size Lb 2 [] 1 10 w1 h1 (by omega) (by simp))
  clear h1 hb1
  go_wp2_with fail
  refine (C1.out).mono ?_
  rintro e w2 ⟨rfl, h2, hb2⟩
  have HB2 := Lib.hid (HB1.out.trans hb2)
  have C2 := Lib.hid (l_put W.heap.size Lb 2 [(1, 10)] 2 20 w2 h2 (by omega) (by simp))
  clear h2 hb2
  go_wp2_with fail
  refine (C2.out).mono ?_
  rintro e w3 ⟨rfl, h3, hb3⟩
  have HB3 := Lib.hid (HB2.out.trans hb3)
  have C3 := Lib.hid (l_get W.heap.size Lb 2 [(2, 20), (1, 10)] 1 w3 h3 (by omega))
  clear h3 hb3
  go_wp2_with fail
  refine (C3.out).mono ?_
  rintro e w4 ⟨rfl, h4, hb4⟩
  have HB4 := Lib.hid (HB3.out.trans hb4)
  have C4 := Lib.hid (show Calls Try.prog 14 #[.pointer (some ⟨Lb, 0, none⟩), .int .i64 3, .int .i64 30] w4 fun e w' => e = .returned (.tuple #[.int .i64 20, .bool true]) ∧ Lru w' W.heap.size Lb 2 [(3, 30), (1, 10)] ∧ Below W.heap.size w4 w' from
    l_put W.heap.size Lb 2 [(1, 10), (2, 20)] 3 30 w4 h4 (by omega) (by simp))
  clear h4 hb4
  go_wp2_with fail
  refine (C4.out).mono ?_
  rintro e w5 ⟨rfl, h5, hb5⟩
  have HB5 := Lib.hid (HB4.out.trans hb5)
  have C5 := Lib.hid (show Calls Try.prog 19 #[.pointer (some ⟨Lb, 0, none⟩)] w5 (GivesI w5 2 [3, 1]) from l_keys W.heap.size Lb 2 [(3, 30), (1, 10)] w5 h5)
  clear h5 hb5
  go_wp2_with fail
  refine (C5.out).mono ?_
  rintro e w6 ⟨a, c, rfl, h6, hb6⟩
  have HB6 := Lib.hid (HB5.out.trans (hb6.mono HB5.out.size))
  obtain ⟨w7, hw7⟩ : ∃ w7, w6.alloc (.cells #[.int .i64 3, .int .i64 1] 3) = w7 := ⟨_, rfl⟩
  have b7 : Below w6.heap.size w6 w7 := by rw [← hw7]; exact (Below.refl _ _).alloc (Nat.le_refl _) _
  have hn := heap_alloc_new w6 (.cells #[.int .i64 3, .int .i64 1] 3)
  rw [hw7] at hn
  have C6 := Lib.hid (r3_samei a (some ⟨w6.heap.size, 0, none⟩) c 2 [3, 1] [3, 1] w7 (readsI_below h6.reads b7) (.inr ⟨w6.heap.size, 0, rfl, by rw [← hw7]; simp, fun i hi => by
    have hi' : i = 0 ∨ i = 1 := by simp at hi; omega
    rcases hi' with rfl | rfl <;> (rw [cell_of_row _ _ _ _ _ _ hn]; rfl)⟩) (by simp))
  have HW7 := Lib.hid hw7
  have HB7 := Lib.hid (HB6.out.trans (b7.mono HB6.out.size))
  clear h6 hb6 hw7 b7 hn
  go_wp2_with fail
  rw [HW7.out]
  refine (show Calls Try.prog 18 #[.slice a 2 c, .slice (some ⟨w6.heap.size, 0, none⟩) 2 2] w7 fun e w' => e = .returned (.bool true) ∧ Below w7.heap.size w7 w' from C6.out).mono ?_
  rintro e w8 ⟨rfl, hb8⟩
  have HB8 := Lib.hid (HB7.out.trans (hb8.mono HB7.out.size))
  clear hb8
  go_wp2_with fail
  go_ret
  exact ⟨rfl, HB8.out⟩
end Go.Proofs.Ytncpikaegcookaa
