/- WisdomReads: any text's entries, or the line that is at fault, and why. -/
import Derived.Test.YtafmiilkdhdngaaGreatDoorR34
import Derived.Test.YtafmiilkdhdngaaGreatDoorR35
namespace Go.Proofs.YtafmiilkdhdngaaGreatDoor
open Go.ChangeShapes Go.WideShapes Go.ChangeAt Go.RowKit
set_option linter.unusedVariables false
set_option linter.unusedSimpArgs false
namespace wisdomReads
attribute [local go_sem ↓] Go.wp_at_zero Go.wp_at_succ
set_option maxRecDepth 100000 in
set_option maxHeartbeats 16000000 in
theorem walk (W : World) (a0 : ByteArray) (w0 : a0.size ≤ maxLen) (hm : ∃ m, W.cell? ⟨0, 0, none⟩ = some (.int .i64 m)) (hL : laidMet Tryz.prog Rows.wisdomReadsRow.laid W) :
    Calls Tryz.prog 4 #[.string a0] W fun e W' => e = .returned (.bool true) ∧ Below W.heap.size W W' := by
  have hT : Lib.TabIs Tryz.prog W "internal/strconv.uint64pow10" .u64 Lib.pow10Tab := pow10_head (laidMet.tail (laidMet.tail hL))
  have LV := Lib.hid (fun w (hb : Below W.heap.size W w) => live25 w (pow10_below hT hb))
  clear hL hT w0
  by_cases hs : 4000 < a0.size
  · have d1 : decide ((a0.size : Int) > 4000) = true := decide_eq_true (by omega)
    have d1' : decide (4000 < a0.size) = true := decide_eq_true hs
    clear hm
    go_enter Tryz.func4, Tryz.ntmps4
    go_wp2_with fail
    refine (LV.out _ (Below.refl _ _)).mono ?_
    rintro e w2 ⟨rfl, hb2⟩
    go_wp2_with fail
    go_ret
    exact ⟨rfl, hb2⟩
  · have d1 : decide ((a0.size : Int) > 4000) = false := decide_eq_false (by omega)
    have d1' : decide (4000 < a0.size) = false := decide_eq_false hs
    have hs4 : a0.size ≤ 4000 := by omega
    have PA := w_parse a0 W hm
    clear hm
    go_enter Tryz.func4, Tryz.ntmps4
    go_wp2_with fail
    refine PA.mono ?_
    rintro e w1 ⟨o, ln, c, v, hp, rfl, hr, hb1⟩
    have RP := r25_parse a0 hs4 w1
    have HP := Lib.hid hp
    have HR := Lib.hid hr
    have HB1 := Lib.hid hb1
    clear PA hp hr hb1
    go_wp2_with fail
    refine RP.mono ?_
    rintro e w2 ⟨o', ln', c', v', hp', rfl, hr', hb2⟩
    obtain ⟨e1, e2, e3⟩ := HP.out.uniq hp'
    subst e1 e2 e3
    have hol := hp'.len
    have AL := r24_all_same v v' (sortN o) w2.heap.size w2 ((HR.out.below (Nat.le_refl _) hb2).mono hb2.size) hr' (Nat.le_refl _) (by rw [sortN_len]; omega)
    obtain ⟨va, vc, rfl, -, -⟩ := HR.out.form
    obtain ⟨va', vc', rfl, -, -⟩ := hr'.form
    have HB2 := Lib.hid (HB1.out.trans (hb2.mono HB1.out.size))
    have f1 : ((ln : Int) == (ln : Int)) = true := by simp
    have f2 : (c == c) = true := by simp
    clear RP hp' hr' hb2
    go_wp2_with fail
    refine AL.mono ?_
    rintro e w3 ⟨rfl, hb3⟩
    have HB3 := Lib.hid (HB2.out.trans (hb3.mono HB2.out.size))
    clear AL hb3
    go_wp2_with fail
    refine (LV.out _ HB3.out).mono ?_
    rintro e w4 ⟨rfl, hb4⟩
    have HB4 := Lib.hid (HB3.out.trans (hb4.mono HB3.out.size))
    clear hb4
    go_wp2_with fail
    go_ret
    exact ⟨rfl, HB4.out⟩
end wisdomReads
end Go.Proofs.YtafmiilkdhdngaaGreatDoor
