/- Reference 1's Len and Div. -/
import Derived.Test.YtlmaacbjbmhogaaWide5
import Derived.Test.YtlmaacbjbmhogaaWiden
namespace Go.Proofs.Ytlmaacbjbmhogaa
open Go.ChangeShapes Go.WideShapes Go.ChangeAt Go.RowKit
set_option linter.unusedVariables false
theorem lenTo_one {a j : Nat} (h : a / 2 ^ j % 2 = 1) : lenTo a (j + 1) = j + 1 := by rw [lenTo, if_pos h]
theorem lenTo_not {a j : Nat} (h : ¬ a / 2 ^ j % 2 = 1) : lenTo a (j + 1) = lenTo a j := by rw [lenTo, if_neg h]
set_option maxRecDepth 100000 in
theorem r1_len (a : Nat) (w : World) : Calls Try.prog 23 #[.agg (D a)] w fun e w' => e = .returned (.int .i64 (lenTo a 128 : Nat)) ∧ Below w.heap.size w w' := by
  have hA : Box (w.alloc (.cells (D a) 27)) w.heap.size a := heap_alloc_new _ _
  have hB := (Below.refl w.heap.size w).alloc (Nat.le_refl _) (.cells (D a) 27)
  have L1 := Lib.hid (fun j h => lenTo_one (a := a) (j := j) h)
  have L0 := Lib.hid (fun j h => lenTo_not (a := a) (j := j) h)
  have LE := Lib.hid (fun j => lenTo_le a j)
  have HA := Lib.hid hA
  have HB := Lib.hid hB
  clear hA hB
  go_enter Try.func23, Try.ntmps23
  go_wp2_with fail
  generalize w.alloc (.cells (D a) 27) = w0 at *
  go_loopw [3, 4] (fun x y wr => ∃ m j : Nat, j ≤ 128 ∧ x = .int .i64 m ∧ y = .int .i64 j ∧ Hid (lenTo a j = m) ∧ Hid (Box wr w.heap.size a) ∧ Hid (Below w.heap.size w wr)) (fun _ y _ => 128 - (intOf y).toNat)
  case atStart => exact ⟨0, 0, by omega, rfl, rfl, Lib.hid rfl, HA, HB⟩
  case round =>
    clear HA HB
    obtain ⟨m, j, hj, rfl, rfl, HM, HA, HB⟩ := hrel
    by_cases hlt : j < 128
    case neg =>
      obtain rfl : j = 128 := by omega
      have dd : decide (((128 : Nat) : Int) < 128) = false := decide_eq_false (by omega)
      go_wp2_with fail
      go_ret
      exact ⟨ret_i64 (by rw [HM.out]), HB.out⟩
    have dd : decide ((j : Int) < 128) = true := decide_eq_true (by omega)
    have BT := Lib.hid (fun w => r1_bit a j w (by omega))
    have hbt : a / 2 ^ j % 2 = 0 ∨ a / 2 ^ j % 2 = 1 := by omega
    have hsz := HB.out.size
    rcases hbt with h | h
    · have E := Lib.hid ((L0.out j (by omega)).trans HM.out)
      rw [show bitI a j = 0 by unfold bitI; rw [h]; rfl] at BT
      clear h
      go_wp2_with (refine wpList_load_row rfl 27 _ rfl (w.heap.size) rfl 27 (D (a)) (0, 0) _ HA.out Try.underlying27 rfl (by kernel_rfl) ?_)
      refine (BT.out _).mono ?_
      rintro e w1 ⟨rfl, b1⟩
      go_wp2_with fail
      go_roundw
      case rel => exact ⟨m, j + 1, by omega, rfl, by go_num, E, Lib.hid (HA.out.kept b1), Lib.hid (HB.out.trans (b1.mono hsz))⟩
      case measure => (first | (simp [intOf]; done) | (simp [intOf]; omega) | (simp only [intOf]; omega))
    · have E := Lib.hid (L1.out j h)
      rw [show bitI a j = 1 by unfold bitI; rw [h]; rfl] at BT
      clear h
      go_wp2_with (refine wpList_load_row rfl 27 _ rfl (w.heap.size) rfl 27 (D (a)) (0, 0) _ HA.out Try.underlying27 rfl (by kernel_rfl) ?_)
      refine (BT.out _).mono ?_
      rintro e w1 ⟨rfl, b1⟩
      go_wp2_with fail
      go_roundw
      case rel => exact ⟨j + 1, j + 1, by omega, by go_num, by go_num, E, Lib.hid (HA.out.kept b1), Lib.hid (HB.out.trans (b1.mono hsz))⟩
      case measure => (first | (simp [intOf]; done) | (simp [intOf]; omega) | (simp only [intOf]; omega))
end Go.Proofs.Ytlmaacbjbmhogaa
