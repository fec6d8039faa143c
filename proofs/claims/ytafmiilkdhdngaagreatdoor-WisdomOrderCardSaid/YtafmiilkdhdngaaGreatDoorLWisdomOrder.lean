/- WisdomOrder: what was read of any text is told as the text, but for the order of its lines; in order it is the text. -/
import Derived.Test.YtafmiilkdhdngaaGreatDoorR34
import Derived.Test.YtafmiilkdhdngaaGreatDoorR35
namespace Go.Proofs.YtafmiilkdhdngaaGreatDoor
open Go.ChangeShapes Go.WideShapes Go.ChangeAt Go.RowKit
set_option linter.unusedVariables false
set_option linter.unusedSimpArgs false
theorem wtx_perm {l m : List En} (h : l.Perm m) : (wtx l).length = (wtx m).length := by
  unfold wtx
  rw [List.length_append, List.length_append, wtl_perm h]
theorem err_sort {o : List En} (hg : ∀ x ∈ o, GoodE x) (ha : Apart o) (hz : (wtx o).length ≤ 65536) : wErr (sortN o) = 0 := by
  have hp := sortN_perm o
  refine wErr_ok (badE_zero (fun e he => (hg e (hp.subset he)).2)) (ha.perm hp.symm) ?_
  rw [sortN_idem ha, wtx_perm hp]
  omega
namespace wisdomOrder
attribute [local go_sem ↓] Go.wp_at_zero Go.wp_at_succ
set_option maxRecDepth 100000 in
set_option maxHeartbeats 16000000 in
theorem walk (W : World) (a0 : ByteArray) (w0 : a0.size ≤ maxLen) (hm : ∃ m, W.cell? ⟨0, 0, none⟩ = some (.int .i64 m)) (hL : laidMet Tryz.prog Rows.wisdomOrderRow.laid W) :
    Calls Tryz.prog 5 #[.string a0] W fun e W' => e = .returned (.bool true) ∧ Below W.heap.size W W' := by
  have hT : Lib.TabIs Tryz.prog W "internal/strconv.uint64pow10" .u64 Lib.pow10Tab := pow10_head (laidMet.tail (laidMet.tail hL))
  have LV := Lib.hid (fun w (hb : Below W.heap.size W w) => live25 w (pow10_below hT hb))
  have HT_ := Lib.hid hT
  have HM := Lib.hid hm
  clear hL hT w0
  by_cases hs : 4000 < a0.size
  · have d1 : decide ((a0.size : Int) > 4000) = true := decide_eq_true (by omega)
    have d1' : decide (4000 < a0.size) = true := decide_eq_true hs
    clear hm
    go_enter Tryz.func5, Tryz.ntmps5
    go_wp2_with fail
    refine (LV.out _ (Below.refl _ _)).mono ?_
    rintro e w2 ⟨rfl, hb2⟩
    go_wp2_with fail
    go_ret
    exact ⟨rfl, hb2⟩
  · have d1 : decide ((a0.size : Int) > 4000) = false := decide_eq_false (by omega)
    have d1' : decide (4000 < a0.size) = false := decide_eq_false hs
    have PA := w_parse a0 W hm
    clear hm
    go_enter Tryz.func5, Tryz.ntmps5
    go_wp2_with fail
    refine PA.mono ?_
    rintro e w1 ⟨o, ln, c, v, hp, rfl, hr, hb1⟩
    have hol := hp.len
    have HR := Lib.hid hr
    have HB1 := Lib.hid hb1
    obtain ⟨va, vc, rfl, -, -⟩ := hr.form
    clear PA hr hb1
    by_cases h0 : c = 0
    case neg =>
      have e0 := hp.none h0
      subst e0
      have e1 : (c != 0) = true := by simp [bne, h0]
      have e2 : (sortN []).length = 0 := rfl
      rw [e2]
      clear hp h0
      go_wp2_with fail
      refine (LV.out _ HB1.out).mono ?_
      rintro e w4 ⟨rfl, hb4⟩
      have HB4 := Lib.hid (HB1.out.trans (hb4.mono HB1.out.size))
      clear hb4
      go_wp2_with fail
      go_ret
      exact ⟨rfl, HB4.out⟩
    case pos =>
      subst h0
      obtain ⟨-, hap, hgd, htx, hz⟩ := hp.good
      have hpm := sortN_perm o
      have hlen : (wtx o).length = a0.size := by rw [← htx, Lib.size_eq]
      have hid := sortN_idem hap
      have her := err_sort hgd hap (by omega)
      have PR := w_print _ (sortN o) w1.heap.size w1 HR.out (Nat.le_refl _) (by rw [sortN_len]; omega) (fun e he => (hgd e (hpm.subset he)).1) (pow10_below HT_.out HB1.out)
      rw [her, hid] at PR
      have HID := Lib.hid hid
      have HER := Lib.hid her
      have HGS := Lib.hid (show ∀ e ∈ sortN o, GoodE e from fun e he => hgd e (hpm.subset he))
      have HAS := Lib.hid (hap.perm hpm.symm)
      have HTZ := Lib.hid (show (wtx (sortN o)).length = a0.size by rw [wtx_perm hpm, hlen])
      have HLN := Lib.hid (show (sortN o).length ≤ 4000 by rw [sortN_len]; omega)
      clear hp hap hgd htx hpm hid her hlen
      go_wp2_with fail
      refine PR.mono ?_
      rintro e w2 ⟨⟨t, rfl, -, ht⟩, hb2⟩
      have ht := ht (by first | trivial | rfl)
      have htz : t.size = a0.size := by rw [Lib.size_eq, ht, HTZ.out]
      have HB2 := Lib.hid (HB1.out.trans (hb2.mono HB1.out.size))
      have HR2 := Lib.hid (HR.out.below (Nat.le_refl _) hb2)
      have P2 := w_parse t w2 (HM.out.imp (fun m h => (HB2.out.cell (p := ⟨0, 0, none⟩) (block_lt_of_cell h)).trans h))
      have WP := Lib.hid (WPar.of_text ht HGS.out HAS.out (by omega))
      have HTT := Lib.hid ht
      have f1 : ((t.size : Int) != (a0.size : Int)) = false := by rw [htz]; simp
      have f1' : (t.size != a0.size) = false := by rw [htz]; simp
      have h12 := hb2.size
      clear PR ht hb2 htz
      go_wp2_with fail
      refine P2.mono ?_
      rintro e w3 ⟨o2, ln2, c2, v2, hp2, rfl, hr2, hb3⟩
      obtain ⟨e1, -, e3⟩ := WP.out.uniq hp2
      subst e1 e3
      rw [HID.out] at hr2
      have HB3 := Lib.hid (HB2.out.trans (hb3.mono HB2.out.size))
      have HR3 := Lib.hid (HR2.out.below h12 hb3)
      have P3 := w_print v2 (sortN o) w3.heap.size w3 hr2 (Nat.le_refl _) (by have := HLN.out; omega) (fun e he => (HGS.out e he).1) (pow10_below HT_.out HB3.out)
      rw [HER.out, HID.out] at P3
      obtain ⟨va2, vc2, rfl, -, -⟩ := hr2.form
      have HRM := Lib.hid hr2
      have h23 := hb3.size
      clear P2 hp2 hr2 hb3
      go_wp2_with fail
      refine P3.mono ?_
      rintro e w4 ⟨⟨u, rfl, -, hu⟩, hb4⟩
      have hu := hu (by first | trivial | rfl)
      obtain rfl : u = t := ba_ext (hu.trans HTT.out.symm)
      have HB4 := Lib.hid (HB3.out.trans (hb4.mono HB3.out.size))
      have AL := r24_all_same _ _ (sortN o) w4.heap.size w4 ((HR3.out.below (by omega) hb4).mono (by have := hb4.size; omega)) ((HRM.out.below (Nat.le_refl _) hb4).mono hb4.size) (Nat.le_refl _) (by have := HLN.out; omega)
      clear P3 hu hb4
      go_wp2_with fail
      refine AL.mono ?_
      rintro e w5 ⟨rfl, hb5⟩
      have HB5 := Lib.hid (HB4.out.trans (hb5.mono HB4.out.size))
      clear AL hb5
      have f3 : (u.toList == u.toList) = true := by simp
      go_wp2_with fail
      refine (LV.out _ HB5.out).mono ?_
      rintro e w6 ⟨rfl, hb6⟩
      have HB6 := Lib.hid (HB5.out.trans (hb6.mono HB5.out.size))
      clear hb6
      go_wp2_with fail
      go_ret
      exact ⟨rfl, HB6.out⟩
end wisdomOrder
end Go.Proofs.YtafmiilkdhdngaaGreatDoor
