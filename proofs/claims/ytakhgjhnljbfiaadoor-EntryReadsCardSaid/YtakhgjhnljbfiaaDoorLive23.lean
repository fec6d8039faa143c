/- The live example of layer 23; the table of powers of ten. -/
import Derived.Test.YtakhgjhnljbfiaaDoorRtp
import Derived.Test.YtakhgjhnljbfiaaDoorCmpr
import Derived.Lib.LaidTab
import Derived.Stop.LaidErr
namespace Go.Proofs.YtakhgjhnljbfiaaDoor
open Go.ChangeShapes Go.WideShapes Go.ChangeAt Go.RowKit
set_option linter.unusedVariables false
set_option linter.unusedSimpArgs false
theorem pow10_data : (Rows.laid_internal_strconv_uint64pow10 : DataW Unit) = Lib.tabData .u64 Lib.pow10Tab := by kernel_rfl
theorem pow10_head {W : World} {l : List (String × DataW Unit)} (hL : laidMet Tryd.prog (("internal/strconv.uint64pow10", Rows.laid_internal_strconv_uint64pow10) :: l) W) : Lib.TabIs Tryd.prog W "internal/strconv.uint64pow10" .u64 Lib.pow10Tab := by
  rw [pow10_data] at hL
  exact Lib.tabIs_of_head (g := 1) (t := 146) (e := 119) (n := 20) (by kernel_rfl) (by kernel_rfl) Tryd.underlying146 Tryd.underlying119 (by kernel_rfl) (by kernel_rfl) hL
def f23 : Fo := .cons 2 2 .nil (.cons 1 3 .nil .nil)
def b23 : ByteArray := ⟨#[115, 112, 108, 105, 116, 54, 40, 115, 109, 97, 108, 108, 50, 44, 110, 97, 105, 118, 101, 51, 41]⟩
theorem big23 : ¬ bigT f23 := by decide
theorem ok23 : (Fo.cons 4 6 f23 .nil).okT := by simp [Fo.okT, f23, okT1]
theorem tx23 : ndB 4 6 f23 = b23.data.toList := by
  have h6 : Lib.decDigits 6 = [54] := by rw [dec_small (by decide)]; rfl
  have h2 : Lib.decDigits 2 = [50] := by rw [dec_small (by decide)]; rfl
  have h3 : Lib.decDigits 3 = [51] := by rw [dec_small (by decide)]; rfl
  rw [ndB_eq]
  simp only [f23, Fo.len, txB, Gr.tx, hdB]
  rw [show (6 : Int).toNat = 6 from rfl, show (2 : Int).toNat = 2 from rfl, show (3 : Int).toNat = 3 from rfl, h6, h2, h3]
  rfl
set_option maxRecDepth 100000 in
set_option maxHeartbeats 8000000 in
theorem live23 (W : World) (hT : Lib.TabIs Tryd.prog W "internal/strconv.uint64pow10" .u64 Lib.pow10Tab) : Calls Tryd.prog 8 #[] W fun e w' => e = .returned (.bool true) ∧ Below W.heap.size W w' := by
  have hn := heap_alloc_new W (.cells #[.int .i64 2, .int .i64 2, .slice none 0 0, .int .i64 1, .int .i64 3, .slice none 0 0] 24)
  have hb : Below W.heap.size W (W.alloc (.cells #[.int .i64 2, .int .i64 2, .slice none 0 0, .int .i64 1, .int .i64 3, .slice none 0 0] 24)) := (Below.refl _ _).alloc (Nat.le_refl _) _
  have hs : (W.alloc (.cells #[.int .i64 2, .int .i64 2, .slice none 0 0, .int .i64 1, .int .i64 3, .slice none 0 0] 24)).heap.size = W.heap.size + 1 := by simp
  obtain ⟨w0, hw0⟩ : ∃ w0, W.alloc (.cells #[.int .i64 2, .int .i64 2, .slice none 0 0, .int .i64 1, .int .i64 3, .slice none 0 0] 24) = w0 := ⟨_, rfl⟩
  rw [hw0] at hn hb hs
  have cc := fun j => cell_of_row _ _ j _ _ _ hn
  have hK : Kids w0 (W.heap.size + 1) (.slice (some ⟨W.heap.size, 0, none⟩) 2 2) f23 := Kids.of2 (by omega) (by rw [cc 0]; rfl) (by rw [cc 1]; rfl) (by rw [cc 2]; rfl) (Kids.nought _ _) (by rw [cc 3]; rfl) (by rw [cc 4]; rfl) (by rw [cc 5]; rfl) (Kids.nought _ _) (by omega) (by omega)
  have PR := d_print f23 _ 4 6 _ w0 hK (by omega) (by simp [f23, Fo.wf]) (by decide) (pow10_below hT hb)
  have HW0 := Lib.hid hw0
  clear cc hn hw0 hK
  go_enter Tryd.func8, Tryd.ntmps8
  go_wp2_with fail
  rw [HW0.out]
  refine PR.mono ?_
  rintro e w1 ⟨hb1, hcase⟩
  rcases hcase with ⟨h, -⟩ | ⟨-, h, -⟩ | ⟨-, -, s, hs', rfl⟩
  · exact absurd h big23
  · exact absurd ok23 h
  · have hbl : (s.toList == [115, 112, 108, 105, 116, 54, 40, 115, 109, 97, 108, 108, 50, 44, 110, 97, 105, 118, 101, 51, 41]) = true := by
      rw [Lib.toList_data, hs'.trans tx23]; rfl
    clear hs' PR
    go_wp2_with fail
    go_ret
    refine ⟨?_, hb.trans (hb1.mono (by omega))⟩
    first | rfl | (simp; done) | (simp [hbl])
end Go.Proofs.YtakhgjhnljbfiaaDoor
