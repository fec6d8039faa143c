/- DtextPrints: for every tree: its text, that it is read as that tree; or why it has none. -/
import Derived.Test.YtakhgjhnljbfiaaDoorLive23
import Derived.BigRegion
import Derived.Deep.DeepCutAuto
namespace Go.Proofs.YtakhgjhnljbfiaaDoor
open Go.ChangeShapes Go.WideShapes Go.ChangeAt Go.RowKit
set_option linter.unusedVariables false
set_option linter.unusedSimpArgs false
namespace dtextPrints
set_option maxRecDepth 100000 in
set_option maxHeartbeats 16000000 in
theorem walk (W : World) (dk0 dn0 : Int) (s0 : Value) (t0 : Fo) (hK0 : Kids W W.heap.size s0 t0) (wf0 : t0.wf) (wk0 : -9223372036854775808 ≤ dk0 ∧ dk0 ≤ 9223372036854775807) (wn0 : -9223372036854775808 ≤ dn0 ∧ dn0 ≤ 9223372036854775807) (hN0 : t0.cnt + 1 ≤ 1048576) (hL : laidMet Tryd.prog Rows.dtextPrintsUptoRow.laid W) :
    Calls Tryd.prog 3 #[.agg #[.int .i64 dk0, .int .i64 dn0, s0]] W fun e W' => e = .returned (.bool true) ∧ Below W.heap.size W W' := by
  have hT : Lib.TabIs Tryd.prog W "internal/strconv.uint64pow10" .u64 Lib.pow10Tab := pow10_head (laidMet.tail (laidMet.tail hL))
  have LV := Lib.hid (fun w (hb : Below W.heap.size W w) => live23 w (pow10_below hT hb))
  have HT_ := Lib.hid hT
  have HWF := Lib.hid wf0
  obtain ⟨p, m, c, rfl, hc1, hc2, HM⟩ := hK0.shape
  obtain ⟨w0, hw0, c0, c1, c2, hB0, hs0⟩ := box3 W dk0 dn0 (.slice p m c) 24
  have lX : W.heap.size < w0.heap.size := by omega
  have MK := Lib.hid (fun w' (hb : Below w0.heap.size w0 w') => (show w'.cell? ⟨W.heap.size, 0, none⟩ = some (.int .i64 dk0) ∧ w'.cell? ⟨W.heap.size, 1, none⟩ = some (.int .i64 dn0) ∧ w'.cell? ⟨W.heap.size, 2, none⟩ = some (.slice p m c) from
    ⟨(hb.cell (p := ⟨W.heap.size, 0, none⟩) lX).trans c0, (hb.cell (p := ⟨W.heap.size, 1, none⟩) lX).trans c1, (hb.cell (p := ⟨W.heap.size, 2, none⟩) lX).trans c2⟩))
  have KK := Lib.hid (fun w' (hb : Below w0.heap.size w0 w') => (hK0.below (Nat.le_refl _) hB0).carry (hb.mono (by omega)))
  have HBW := Lib.hid (fun w' (hb : Below w0.heap.size w0 w') => hB0.trans (hb.mono hB0.size))
  have MU := r13_much t0 (.slice p m c) dk0 dn0 W.heap.size w0 (by omega) (KK.out _ (Below.refl _ _)) (by omega)
  have HW0 := Lib.hid hw0
  clear hT hL hK0 hw0 wf0 HM hB0
  by_cases hmu : 80 < t0.cnt + 1
  · rw [decide_eq_true hmu] at MU
    clear hmu
    go_enter Tryd.func3, Tryd.ntmps3
    go_wp2_with fail
    rw [← HW0.out]
    refine MU.mono ?_
    rintro e w1 ⟨rfl, hb1⟩
    go_wp2_with fail
    refine (LV.out _ (HBW.out _ hb1)).mono ?_
    rintro e w2 ⟨rfl, hb2⟩
    go_wp2_with fail
    go_ret
    exact ⟨rfl, (HBW.out _ hb1).trans (hb2.mono (HBW.out _ hb1).size)⟩
  · rw [decide_eq_false hmu] at MU
    have hcn : t0.cnt ≤ 79 := by omega
    clear hmu
    go_enter Tryd.func3, Tryd.ntmps3
    go_wp2_with fail
    rw [← HW0.out]
    refine MU.mono ?_
    rintro e w1 ⟨rfl, hb1⟩
    have hz1 := hb1.size
    have PR := d_print t0 (.slice p m c) dk0 dn0 W.heap.size w1 (KK.out _ hb1) (by omega) HWF.out wn0 (pow10_below HT_.out (HBW.out _ hb1))
    have HB1 := Lib.hid hb1
    obtain ⟨x0, x1, x2⟩ := MK.out _ hb1
    clear MU HW0 hb1 c0 c1 c2
    go_wp2_with fail
    refine PR.mono ?_
    rintro e w2 ⟨hb2, hcase⟩
    have HB2 := Lib.hid (HB1.out.trans (hb2.mono hz1))
    have hz2 := HB2.out.size
    have CH := r23_check t0 (.slice p m c) dk0 dn0 W.heap.size w2 (by omega) (KK.out _ HB2.out) (by omega)
    clear PR hb2 x0 x1 x2
    obtain ⟨x0, x1, x2⟩ := MK.out _ HB2.out
    rcases hcase with ⟨hbg, rfl⟩ | ⟨hbg, hno, rfl⟩ | ⟨hbg, hok, s, hs, rfl⟩
    · have HBG := Lib.hid hbg
      clear hbg
      go_wp2_with fail
      refine CH.mono ?_
      rintro e w3 ⟨hb3, hcase⟩
      rcases hcase with ⟨-, rfl⟩ | ⟨h, -⟩ | ⟨h, -⟩
      · have HB3 := Lib.hid (HBW.out _ (HB2.out.trans (hb3.mono hz2)))
        clear CH hb3 x0 x1 x2
        go_wp2_with fail
        refine (LV.out _ HB3.out).mono ?_
        rintro e w4 ⟨rfl, hb4⟩
        go_wp2_with fail
        go_ret
        exact ⟨rfl, HB3.out.trans (hb4.mono HB3.out.size)⟩
      · exact absurd HBG.out h
      · exact absurd HBG.out h
    · have HBG := Lib.hid hbg
      have HNO := Lib.hid hno
      clear hbg hno
      go_wp2_with fail
      refine CH.mono ?_
      rintro e w3 ⟨hb3, hcase⟩
      rcases hcase with ⟨h, -⟩ | ⟨-, -, rfl⟩ | ⟨-, h, -⟩
      · exact absurd h HBG.out
      · have HB3 := Lib.hid (HBW.out _ (HB2.out.trans (hb3.mono hz2)))
        clear CH hb3 x0 x1 x2
        go_wp2_with fail
        refine (LV.out _ HB3.out).mono ?_
        rintro e w4 ⟨rfl, hb4⟩
        go_wp2_with fail
        go_ret
        exact ⟨rfl, HB3.out.trans (hb4.mono HB3.out.size)⟩
      · exact absurd h HNO.out
    · have HBG := Lib.hid hbg
      have HOK := Lib.hid hok
      have HS := Lib.hid hs
      have hse : s = txS dk0 dn0 t0 := ba_ext (hs.trans (txS_list _ _ _).symm)
      have HSE := Lib.hid hse
      clear hbg hok hs hse
      go_wp2_with fail
      refine CH.mono ?_
      rintro e w3 ⟨hb3, hcase⟩
      rcases hcase with ⟨h, -⟩ | ⟨-, h, -⟩ | ⟨-, -, rfl⟩
      · exact absurd h HBG.out
      · exact absurd HOK.out h
      have HB3 := Lib.hid (HB2.out.trans (hb3.mono hz2))
      have hz3 := HB3.out.size
      have PA := d_parse s w3
      have hle := txB_le _ HOK.out
      have hsz : ¬ 4096 < s.size := by
        have e1 : s.size = (txB (.cons dk0 dn0 t0 .nil)).length := by rw [Lib.size_eq, HS.out]; rfl
        have e2 : (Fo.cons dk0 dn0 t0 .nil).cnt = t0.cnt + 0 + 1 := rfl
        omega
      have HTR := Lib.hid (show Tree s dk0 dn0 t0 from ⟨HOK.out, HS.out⟩)
      have hp := prs_ok hsz HTR.out HBG.out
      clear CH hb3 x0 x1 x2 hle
      go_wp2_with fail
      refine PA.mono ?_
      rintro e w4 ⟨hb4, hcase⟩
      rcases hcase with ⟨h, -⟩ | ⟨-, k', m', ks', v', ht', -, -, hK', rfl⟩
      · exact absurd hp h
      obtain ⟨ek, em, eks⟩ := HTR.out.uniq ht'
      subst ek
      subst em
      subst eks
      obtain ⟨va, vn, vc, rfl⟩ : ∃ a n c, v' = .slice a n c := by
        obtain ⟨a, c, rfl, _⟩ := hK'
        exact ⟨_, _, _, rfl⟩
      obtain ⟨w5, hw5, y0, y1, y2, hb5, hs5⟩ := box3 w4 dk0 dn0 (.slice va vn vc) 24
      have hz4 := hb4.size
      have HB5 := Lib.hid ((HB3.out.trans (hb4.mono hz3)).trans (hb5.mono (by omega)))
      have hz5 := HB5.out.size
      have TX := r23_text 79 t0 (.slice p m c) dk0 dn0 W.heap.size w5 hcn (by decide) (KK.out _ HB5.out) (by omega) HOK.out
      have HKX := Lib.hid (hK'.below (Nat.le_refl _) hb5)
      obtain ⟨x0, x1, x2⟩ := MK.out _ HB5.out
      have hbl := bl_eq (x := s) (y := txS dk0 dn0 t0)
      rw [decide_eq_true HSE.out] at hbl
      obtain ⟨tx, htx⟩ : ∃ tx, txS dk0 dn0 t0 = tx := ⟨_, rfl⟩
      rw [htx] at TX hbl
      have l45 : w4.heap.size < w5.heap.size := by omega
      have HW5 := Lib.hid hw5
      clear PA hp hb4 hb5 hw5 hK' ht' htx hs5
      go_upto_region 10 with fail
      rw [← HW5.out]
      go_wp2_with fail
      refine TX.mono ?_
      rintro e w6 ⟨rfl, hb6⟩
      have HB6 := Lib.hid (HB5.out.trans (hb6.mono hz5))
      have hz6 := hb6.size
      have SM := r13_same t0 t0 (.slice va vn vc) (.slice p m c) dk0 dn0 dk0 dn0 w6.heap.size w6 ((HKX.out.below (by omega) hb6).mono (by omega)) ((KK.out _ HB6.out).mono (by omega)) (Nat.le_refl _)
      rw [cmpN_self, decide_eq_true (rfl : (0 : Int) = 0)] at SM
      have z0 := (hb6.cell (p := ⟨w4.heap.size, 0, none⟩) l45).trans y0
      have z1 := (hb6.cell (p := ⟨w4.heap.size, 1, none⟩) l45).trans y1
      have z2 := (hb6.cell (p := ⟨w4.heap.size, 2, none⟩) l45).trans y2
      clear TX hb6 x0 x1 x2 y0 y1 y2 HW5
      obtain ⟨x0, x1, x2⟩ := MK.out _ HB6.out
      go_wp2_with fail
      refine SM.mono ?_
      rintro e w7 ⟨rfl, hb7⟩
      have HB7 := Lib.hid (HBW.out _ (HB6.out.trans (hb7.mono HB6.out.size)))
      clear SM hb7 x0 x1 x2 z0 z1 z2
      go_wp2_with fail
      refine (LV.out _ HB7.out).mono ?_
      rintro e w8 ⟨rfl, hb8⟩
      go_wp2_with fail
      go_ret
      exact ⟨rfl, HB7.out.trans (hb8.mono HB7.out.size)⟩
end dtextPrints
end Go.Proofs.YtakhgjhnljbfiaaDoor
