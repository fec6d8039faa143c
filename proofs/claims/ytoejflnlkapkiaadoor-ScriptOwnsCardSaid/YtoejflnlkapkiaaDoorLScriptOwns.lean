/- ScriptOwns: for every call: what script.Own tells is just what the call uses, and told again it is the same. -/
import Derived.Test.YtoejflnlkapkiaaDoorScq
import Derived.Lib.LaidTab
import Derived.Stop.LaidErr
namespace Go.Proofs.YtoejflnlkapkiaaDoor
open Go.ChangeShapes Go.WideShapes Go.ChangeAt Go.RowKit
set_option linter.unusedVariables false
set_option linter.unusedSimpArgs false
theorem sc_pow10_data : (Rows.laid_internal_strconv_uint64pow10 : DataW Unit) = Lib.tabData .u64 Lib.pow10Tab := by kernel_rfl
theorem sc_pow10_head {W : World} {l : List (String × DataW Unit)} (hL : laidMet Tryd.prog (("internal/strconv.uint64pow10", Rows.laid_internal_strconv_uint64pow10) :: l) W) : Lib.TabIs Tryd.prog W "internal/strconv.uint64pow10" .u64 Lib.pow10Tab := by
  rw [sc_pow10_data] at hL
  exact Lib.tabIs_of_head (g := 0) (t := 127) (e := 78) (n := 20) (by kernel_rfl) (by kernel_rfl) Tryd.underlying127 Tryd.underlying78 (by kernel_rfl) (by kernel_rfl) hL
namespace scriptOwns
set_option maxRecDepth 100000 in
set_option maxHeartbeats 8000000 in
theorem walk (W : World) (kd n dir : Int) (s : ByteArray) (who ar : Int) (p : Option Addr) (m k : Nat) (hr : IsRow .u64 W p m k) (hL : laidMet Tryd.prog Rows.scriptOwnsRow.laid W) :
    Calls Tryd.prog 5 #[.agg #[.int .i64 kd, .int .i64 n, .int .i64 dir, .string s, .int .i64 who, .int .i64 ar, .slice p m k]] W fun e W' => e = .returned (.bool true) ∧ Below W.heap.size W W' := by
  have hT : Lib.TabIs Tryd.prog W "internal/strconv.uint64pow10" .u64 Lib.pow10Tab := sc_pow10_head (laidMet.tail (laidMet.tail hL))
  by_cases h : m ≤ 100
  · obtain ⟨xs, hx⟩ := Row.of_isRow hr (by omega)
    obtain rfl := hx.len
    exact main W kd n dir s who ar p k xs hx h hT
  · have d1 : decide ((100 : Int) < (m : Int)) = true := decide_eq_true (by omega)
    have d1' : decide (100 < m) = true := decide_eq_true (by omega)
    obtain ⟨w0, hw0, r0, hB0, hs0⟩ := boxG W #[.int .i64 kd, .int .i64 n, .int .i64 dir, .string s, .int .i64 who, .int .i64 ar, .slice p m k] 49
    obtain ⟨x0, x1, x2, x3, x4, x5, x6⟩ := cells7 r0
    have LV := Lib.hid (live42 w0 (pow10_bel hT hB0))
    have HB0 := Lib.hid hB0
    clear hr hL hT r0 hB0 hs0
    go_enter Tryd.func5, Tryd.ntmps5
    go_wp2_with fail
    refine LV.out.mono ?_
    rintro e w1 ⟨rfl, hb1⟩
    have HF := Lib.hid (HB0.out.trans (hb1.mono HB0.out.size))
    clear hb1
    go_wp2_with fail
    go_ret
    exact ⟨rfl, HF.out⟩
end scriptOwns
end Go.Proofs.YtoejflnlkapkiaaDoor
