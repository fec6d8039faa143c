/- DtextReads: for every text: the tree that both read of it, and that it is that tree's text; or why there is none. -/
import Derived.Test.YtakhgjhnljbfiaaDoorLive23
import Derived.BigRegion
import Derived.Deep.DeepCutAuto
namespace Go.Proofs.YtakhgjhnljbfiaaDoor
open Go.ChangeShapes Go.WideShapes Go.ChangeAt Go.RowKit
set_option linter.unusedVariables false
set_option linter.unusedSimpArgs false
theorem wf_okT : ∀ f : Fo, f.okT → f.wf
  | .nil, _ => trivial
  | .cons k n ks r, h => by
    obtain ⟨⟨⟨h1, h2⟩, h3, h4⟩, h5, h6⟩ := h
    exact ⟨⟨by omega, by omega⟩, ⟨by omega, by omega⟩, wf_okT ks h5, wf_okT r h6⟩
namespace dtextReads
set_option maxRecDepth 100000 in
set_option maxHeartbeats 16000000 in
theorem walk (W : World) (a0 : ByteArray) (w0 : a0.size ≤ maxLen) (hL : laidMet Tryd.prog Rows.dtextReadsRow.laid W) :
    Calls Tryd.prog 4 #[.string a0] W fun e W' => e = .returned (.bool true) ∧ Below W.heap.size W W' := by
  have hT : Lib.TabIs Tryd.prog W "internal/strconv.uint64pow10" .u64 Lib.pow10Tab := pow10_head (laidMet.tail (laidMet.tail hL))
  have LV := Lib.hid (fun w (hb : Below W.heap.size W w) => live23 w (pow10_below hT hb))
  have HT_ := Lib.hid hT
  clear hL hT
  by_cases hs : 5000 < a0.size
  · have d1 : decide ((a0.size : Int) > 5000) = true := decide_eq_true (by omega)
    have d1' : decide (5000 < a0.size) = true := decide_eq_true hs
    have PA := d_parse a0 W
    have hp := prs_long (s := a0) (by omega)
    go_enter Tryd.func4, Tryd.ntmps4
    go_wp2_with fail
    refine PA.mono ?_
    rintro e w1 ⟨hb1, hcase⟩
    rcases hcase with ⟨-, rfl⟩ | ⟨h, -⟩
    · rw [hp]
      clear hp PA
      go_wp2_with fail
      refine (LV.out _ (hb1.trans ((Below.refl _ _).alloc hb1.size _))).mono ?_
      rintro e w2 ⟨rfl, hb2⟩
      have hz2 := hb1.size
      go_wp2_with fail
      go_ret
      exact ⟨rfl, (hb1.trans ((Below.refl _ _).alloc hb1.size _)).trans (hb2.mono (by simp; omega))⟩
    · rw [hp] at h; exact absurd h (by decide)
  · have d1 : decide ((a0.size : Int) > 5000) = false := decide_eq_false (by omega)
    have d1' : decide (5000 < a0.size) = false := decide_eq_false hs
    have PA := d_parse a0 W
    obtain ⟨P, hP⟩ : ∃ P, prs a0 = P := ⟨_, rfl⟩
    go_enter Tryd.func4, Tryd.ntmps4
    go_wp2_with fail
    refine PA.mono ?_
    rintro e w1 ⟨hb1, hcase⟩
    by_cases h0 : P = 0
    · subst h0
      rcases hcase with ⟨h, -⟩ | ⟨-, k, m, ks, v, ht, hsz, hbg, hK, rfl⟩
      · exact absurd hP h
      obtain ⟨va, vn, vc, rfl⟩ : ∃ a n c, v = .slice a n c := by
        obtain ⟨a, c, rfl, _⟩ := hK
        exact ⟨_, _, _, rfl⟩
      obtain ⟨w2, hw2, x0, x1, x2, hb2, hs2⟩ := box3 w1 k m (.slice va vn vc) 24
      have HK2 := Lib.hid (hK.below (Nat.le_refl _) hb2)
      have HB2 := Lib.hid (hb1.trans (hb2.mono hb1.size))
      have RP := r23_parse a0 (by omega) w2
      have HT1 := Lib.hid ht
      have HBG := Lib.hid hbg
      have HW2 := Lib.hid hw2
      have HP := Lib.hid hP
      clear PA hb1 hK hb2 ht hbg hw2 hP
      go_wp2_with fail
      rw [← HW2.out]
      refine RP.mono ?_
      rintro e w3 ⟨hb3, hcase⟩
      rcases hcase with ⟨h, -⟩ | ⟨-, k', m', ks', v', ht', -, -, hK', rfl⟩
      · exact absurd HP.out h
      obtain ⟨ek, em, eks⟩ := HT1.out.uniq ht'
      subst ek
      subst em
      subst eks
      obtain ⟨va', vn', vc', rfl⟩ : ∃ a n c, v' = .slice a n c := by
        obtain ⟨a, c, rfl, _⟩ := hK'
        exact ⟨_, _, _, rfl⟩
      obtain ⟨w4, hw4, y0, y1, y2, hb4, hs4⟩ := box3 w3 k m (.slice va' vn' vc') 24
      have hz3 := hb3.size
      have hK4 := hK'.below (Nat.le_refl _) hb4
      have hK24 := ((HK2.out.mono (show w1.heap.size ≤ w2.heap.size by omega)).below (Nat.le_refl _) hb3).below (by omega) hb4
      have HB4 := Lib.hid ((HB2.out.trans (hb3.mono HB2.out.size)).trans (hb4.mono (by have := HB2.out.size; omega)))
      have z0 := (hb4.cell (p := ⟨w1.heap.size, 0, none⟩) (show w1.heap.size < w3.heap.size by omega)).trans ((hb3.cell (p := ⟨w1.heap.size, 0, none⟩) (show w1.heap.size < w2.heap.size by omega)).trans x0)
      have z1 := (hb4.cell (p := ⟨w1.heap.size, 1, none⟩) (show w1.heap.size < w3.heap.size by omega)).trans ((hb3.cell (p := ⟨w1.heap.size, 1, none⟩) (show w1.heap.size < w2.heap.size by omega)).trans x1)
      have z2 := (hb4.cell (p := ⟨w1.heap.size, 2, none⟩) (show w1.heap.size < w3.heap.size by omega)).trans ((hb3.cell (p := ⟨w1.heap.size, 2, none⟩) (show w1.heap.size < w2.heap.size by omega)).trans x2)
      have SM := r13_same ks ks (.slice va vn vc) (.slice va' vn' vc') k m k m w3.heap.size w4 (hK24.mono (by omega)) hK4 (by omega)
      rw [cmpN_self, decide_eq_true (rfl : (0 : Int) = 0)] at SM
      have HK5 := Lib.hid hK24
      have l14 : w1.heap.size < w4.heap.size := by omega
      have l24 : w2.heap.size ≤ w4.heap.size := by omega
      have l34 : w3.heap.size ≤ w4.heap.size := by omega
      have HW4 := Lib.hid hw4
      clear x0 x1 x2 RP hb3 hw4 hb4 hK' hK4 hK24 HK2 HB2 HW2 hs2 ht'
      go_upto_region 6 with fail
      rw [← HW4.out]
      go_wp2_with fail
      refine SM.mono ?_
      rintro e w5 ⟨rfl, hb5⟩
      have hz5 := hb5.size
      have x0 := (hb5.cell (p := ⟨w1.heap.size, 0, none⟩) l14).trans z0
      have x1 := (hb5.cell (p := ⟨w1.heap.size, 1, none⟩) l14).trans z1
      have x2 := (hb5.cell (p := ⟨w1.heap.size, 2, none⟩) l14).trans z2
      have HB5 := Lib.hid (HB4.out.trans (hb5.mono HB4.out.size))
      have PR := d_print ks (.slice va vn vc) k m w2.heap.size w5 (HK5.out.below (by omega) hb5 |>.mono (by omega)) (by omega) (wf_okT _ HT1.out.1).2.2.1 (wf_okT _ HT1.out.1).2.1 (pow10_below HT_.out HB5.out)
      clear y0 y1 y2 z0 z1 z2 SM hb5 HK5
      go_wp2_with fail
      refine PR.mono ?_
      rintro e w6 ⟨hb6, hcase⟩
      have HB6 := Lib.hid (HB5.out.trans (hb6.mono HB5.out.size))
      rcases hcase with ⟨h, -⟩ | ⟨-, h, -⟩ | ⟨-, -, s, hs', rfl⟩
      · exact absurd h HBG.out
      · exact absurd HT1.out.1 h
      · have he : s = a0 := ba_ext (hs'.trans HT1.out.2.symm)
        subst he
        clear hs' PR hb6 x0 x1 x2
        go_wp2_with fail
        refine (LV.out _ HB6.out).mono ?_
        rintro e w7 ⟨rfl, hb7⟩
        go_wp2_with fail
        go_ret
        exact ⟨rfl, HB6.out.trans (hb7.mono HB6.out.size)⟩
    · rcases hcase with ⟨-, rfl⟩ | ⟨h, -⟩
      case inr => exact absurd (hP.symm.trans h) h0
      rw [hP]
      obtain ⟨w2, hw2, x0, x1, x2, hb2, hs2⟩ := box3 w1 0 0 (.slice none 0 0) 24
      have HB2 := Lib.hid (hb1.trans (hb2.mono hb1.size))
      have RP := r23_parse a0 (by omega) w2
      have HW2 := Lib.hid hw2
      have HP := Lib.hid hP
      clear PA hb1 hb2 hw2 hP
      go_wp2_with fail
      rw [← HW2.out]
      refine RP.mono ?_
      rintro e w3 ⟨hb3, hcase⟩
      rcases hcase with ⟨-, rfl⟩ | ⟨h, -⟩
      case inr => exact absurd (HP.out.symm.trans h) h0
      rw [HP.out]
      obtain ⟨w4, hw4, y0, y1, y2, hb4, hs4⟩ := box3 w3 0 0 (.slice none 0 0) 24
      have hz3 := hb3.size
      have HB4 := Lib.hid ((HB2.out.trans (hb3.mono HB2.out.size)).trans (hb4.mono (by have := HB2.out.size; omega)))
      have z0 := (hb4.cell (p := ⟨w1.heap.size, 0, none⟩) (show w1.heap.size < w3.heap.size by omega)).trans ((hb3.cell (p := ⟨w1.heap.size, 0, none⟩) (show w1.heap.size < w2.heap.size by omega)).trans x0)
      have z1 := (hb4.cell (p := ⟨w1.heap.size, 1, none⟩) (show w1.heap.size < w3.heap.size by omega)).trans ((hb3.cell (p := ⟨w1.heap.size, 1, none⟩) (show w1.heap.size < w2.heap.size by omega)).trans x1)
      have z2 := (hb4.cell (p := ⟨w1.heap.size, 2, none⟩) (show w1.heap.size < w3.heap.size by omega)).trans ((hb3.cell (p := ⟨w1.heap.size, 2, none⟩) (show w1.heap.size < w2.heap.size by omega)).trans x2)
      have SM := r13_same .nil .nil (.slice none 0 0) (.slice none 0 0) 0 0 0 0 0 w4 (Kids.nought _ _) (Kids.nought _ _) (Nat.zero_le _)
      rw [cmpN_self, decide_eq_true (rfl : (0 : Int) = 0)] at SM
      have HW4 := Lib.hid hw4
      have e0 : (P == 0) = false := by rw [beq_eq_false_iff_ne]; exact h0
      clear x0 x1 x2 RP hb3 hw4 hb4 HB2 HW2 hs2
      go_upto_region 6 with fail
      rw [← HW4.out]
      go_wp2_with fail
      refine SM.mono ?_
      rintro e w5 ⟨rfl, hb5⟩
      have HB5 := Lib.hid (HB4.out.trans (hb5.mono HB4.out.size))
      clear y0 y1 y2 z0 z1 z2 SM hb5
      go_wp2_with fail
      refine (LV.out _ HB5.out).mono ?_
      rintro e w7 ⟨rfl, hb7⟩
      go_wp2_with fail
      go_ret
      exact ⟨rfl, HB5.out.trans (hb7.mono HB5.out.size)⟩
end dtextReads
end Go.Proofs.YtakhgjhnljbfiaaDoor
