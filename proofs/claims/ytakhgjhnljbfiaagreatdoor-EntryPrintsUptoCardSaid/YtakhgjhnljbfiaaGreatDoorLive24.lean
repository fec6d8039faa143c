/- The page's example of layer 24. -/
import Derived.Test.YtakhgjhnljbfiaaGreatDoorEntp
namespace Go.Proofs.YtakhgjhnljbfiaaGreatDoor
open Go.ChangeShapes Go.WideShapes Go.ChangeAt Go.RowKit
set_option linter.unusedVariables false
set_option linter.unusedSimpArgs false
theorem fo24 : fori 8 0 8 (chkd 3 8 .nil) = 0 := by decide +kernel
theorem ln24 : lnB 8 0 3 8 .nil = [56, 32, 48, 32, 115, 116, 111, 99, 107, 56] := by
  have h8 : Lib.decDigits 8 = [56] := by rw [dec_small (by decide)]; rfl
  have h0 : Lib.decDigits 0 = [48] := by rw [dec_small (by decide)]; rfl
  unfold lnB
  rw [ndB_eq]
  unfold hdB
  rw [show (8 : Int).toNat = 8 from rfl, show (0 : Int).toNat = 0 from rfl, h8, h0]
  rfl
set_option maxRecDepth 100000 in
set_option maxHeartbeats 8000000 in
theorem live24 (W : World) (hT : Lib.TabIs Tryz.prog W "internal/strconv.uint64pow10" .u64 Lib.pow10Tab) : Calls Tryz.prog 8 #[] W fun e w' => e = .returned (.bool true) ∧ Below W.heap.size W w' := by
  have PR := e_print .nil (.slice none 0 0) 8 0 3 8 0 W (by decide) (Kids.nought _ _) (Nat.zero_le _) (by decide) (by decide) (by decide) trivial hT
  go_enter Tryz.func8, Tryz.ntmps8
  go_wp2_with fail
  refine PR.mono ?_
  rintro e w1 ⟨hb1, hcase⟩
  rcases hcase with ⟨h, -⟩ | ⟨-, s, hs', rfl⟩
  · exact absurd fo24 h
  · have hbl : (s.toList == [56, 32, 48, 32, 115, 116, 111, 99, 107, 56]) = true := by
      rw [Lib.toList_data, hs', ln24]; rfl
    clear hs' PR
    go_wp2_with fail
    go_ret
    refine ⟨?_, hb1⟩
    first | rfl | (simp; done) | (simp [hbl])
end Go.Proofs.YtakhgjhnljbfiaaGreatDoor
