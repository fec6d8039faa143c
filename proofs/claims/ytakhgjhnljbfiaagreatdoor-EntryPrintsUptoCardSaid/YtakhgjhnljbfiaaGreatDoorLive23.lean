/- The live example of layer 23; the table of powers of ten. -/
import Derived.Test.YtakhgjhnljbfiaaGreatDoorRtn
import Derived.Test.YtakhgjhnljbfiaaGreatDoorDtp
import Derived.Test.YtakhgjhnljbfiaaGreatDoorCmpr
import Derived.Lib.LaidTab
import Derived.Stop.LaidErr
namespace Go.Proofs.YtakhgjhnljbfiaaGreatDoor
open Go.ChangeShapes Go.WideShapes Go.ChangeAt Go.RowKit
set_option linter.unusedVariables false
set_option linter.unusedSimpArgs false
theorem pow10_data : (Rows.laid_internal_strconv_uint64pow10 : DataW Unit) = Lib.tabData .u64 Lib.pow10Tab := by kernel_rfl
theorem pow10_head {W : World} {l : List (String × DataW Unit)} (hL : laidMet Tryz.prog (("internal/strconv.uint64pow10", Rows.laid_internal_strconv_uint64pow10) :: l) W) : Lib.TabIs Tryz.prog W "internal/strconv.uint64pow10" .u64 Lib.pow10Tab := by
  rw [pow10_data] at hL
  exact Lib.tabIs_of_head (g := 1) (t := 164) (e := 119) (n := 20) (by kernel_rfl) (by kernel_rfl) Tryz.underlying164 Tryz.underlying119 (by kernel_rfl) (by kernel_rfl) hL
def f23 : Fo := .cons 2 2 .nil (.cons 1 3 .nil .nil)
def b23 : ByteArray := ⟨#[115, 112, 108, 105, 116, 54, 40, 115, 109, 97, 108, 108, 50, 44, 110, 97, 105, 118, 101, 51, 41]⟩
theorem big23 : ¬ bigT f23 := by decide
theorem ok23 : (Fo.cons 4 6 f23 .nil).okT := by simp [Fo.okT, f23, okT1]
theorem tx23 : ndB 4 6 f23 = b23.data.toList := by
  have h6 : Lib.decDigits 6 = [54] := by rw [dec_small (by decide)]; rfl
  have h2 : Lib.decDigits 2 = [50] := by rw [dec_small (by decide)]; rfl
  have h3 : Lib.decDigits 3 = [51] := by rw [dec_small (by decide)]; rfl
  rw [ndB_eq]
  simp only [f23, Fo.len, txB, Gr.tx, hdB]
  rw [show (6 : Int).toNat = 6 from rfl, show (2 : Int).toNat = 2 from rfl, show (3 : Int).toNat = 3 from rfl, h6, h2, h3]
  rfl
end Go.Proofs.YtakhgjhnljbfiaaGreatDoor
