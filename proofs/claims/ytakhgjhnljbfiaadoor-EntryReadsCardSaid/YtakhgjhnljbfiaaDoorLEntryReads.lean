/- EntryReads: for every line: the entry that both read of it, and that it is that entry's line; or why there is none. -/
import Derived.Test.YtakhgjhnljbfiaaDoorRent
import Derived.BigRegion
import Derived.Deep.DeepCutAuto
namespace Go.Proofs.YtakhgjhnljbfiaaDoor
open Go.ChangeShapes Go.WideShapes Go.ChangeAt Go.RowKit
set_option linter.unusedVariables false
set_option linter.unusedSimpArgs false
theorem fo24 : fori 8 0 8 (chkd 3 8 .nil) = 0 := by decide +kernel
theorem ln24 : lnB 8 0 3 8 .nil = [56, 32, 48, 32, 115, 116, 111, 99, 107, 56] := by
  have h8 : Lib.decDigits 8 = [56] := by rw [dec_small (by decide)]; rfl
  have h0 : Lib.decDigits 0 = [48] := by rw [dec_small (by decide)]; rfl
  unfold lnB
  rw [ndB_eq]
  unfold hdB
  rw [show (8 : Int).toNat = 8 from rfl, show (0 : Int).toNat = 0 from rfl, h8, h0]
  rfl
set_option maxRecDepth 100000 in
set_option maxHeartbeats 8000000 in
theorem live24 (W : World) (hT : Lib.TabIs Tryd.prog W "internal/strconv.uint64pow10" .u64 Lib.pow10Tab) : Calls Tryd.prog 15 #[] W fun e w' => e = .returned (.bool true) ∧ Below W.heap.size W w' := by
  have PR := e_print .nil (.slice none 0 0) 8 0 3 8 0 W (by decide) (Kids.nought _ _) (Nat.zero_le _) (by decide) (by decide) (by decide) trivial hT
  go_enter Tryd.func15, Tryd.ntmps15
  go_wp2_with fail
  refine PR.mono ?_
  rintro e w1 ⟨hb1, hcase⟩
  rcases hcase with ⟨h, -⟩ | ⟨-, s, hs', rfl⟩
  · exact absurd fo24 h
  · have hbl : (s.toList == [56, 32, 48, 32, 115, 116, 111, 99, 107, 56]) = true := by
      rw [Lib.toList_data, hs', ln24]; rfl
    clear hs' PR
    go_wp2_with fail
    go_ret
    refine ⟨?_, hb1⟩
    first | rfl | (simp; done) | (simp [hbl])
namespace entryReads
set_option maxRecDepth 100000 in
set_option maxHeartbeats 16000000 in
theorem walk (W : World) (a0 : ByteArray) (w0 : a0.size ≤ maxLen) (hm : ∃ m, W.cell? ⟨0, 0, none⟩ = some (.int .i64 m)) (hL : laidMet Tryd.prog Rows.entryReadsRow.laid W) :
    Calls Tryd.prog 5 #[.string a0] W fun e W' => e = .returned (.bool true) ∧ Below W.heap.size W W' := by
  have hT : Lib.TabIs Tryd.prog W "internal/strconv.uint64pow10" .u64 Lib.pow10Tab := pow10_head (laidMet.tail (laidMet.tail hL))
  have LV := Lib.hid (fun w (hb : Below W.heap.size W w) => live24 w (pow10_below hT hb))
  have HT_ := Lib.hid hT
  clear hL hT
  by_cases hs : 600 < a0.size
  · have d1 : decide ((a0.size : Int) > 600) = true := decide_eq_true (by omega)
    have d1' : decide (600 < a0.size) = true := decide_eq_true hs
    clear hm
    go_enter Tryd.func5, Tryd.ntmps5
    go_wp2_with fail
    refine (LV.out _ (Below.refl _ _)).mono ?_
    rintro e w2 ⟨rfl, hb2⟩
    go_wp2_with fail
    go_ret
    exact ⟨rfl, hb2⟩
  · have d1 : decide ((a0.size : Int) > 600) = false := decide_eq_false (by omega)
    have d1' : decide (600 < a0.size) = false := decide_eq_false hs
    have PA := e_parse a0 (by omega) W hm
    obtain ⟨P, hP⟩ : ∃ P, ecode a0 = P := ⟨_, rfl⟩
    clear hm
    go_enter Tryd.func5, Tryd.ntmps5
    go_wp2_with fail
    refine PA.mono ?_
    rintro e w1 ⟨hb1, hcase⟩
    by_cases h0 : P = 0
    · subst h0
      rcases hcase with ⟨h, -⟩ | ⟨-, a, b, k, m, ks, v, ht, hK, rfl⟩
      · exact absurd hP h
      obtain ⟨va, vn, vc, rfl⟩ : ∃ a n c, v = .slice a n c := by
        obtain ⟨a, c, rfl, _⟩ := hK
        exact ⟨_, _, _, rfl⟩
      obtain ⟨w2, hw2, r2, hb2, hs2⟩ := box5 w1 a b k m (.slice va vn vc) 41
      have HK2 := Lib.hid (hK.below (Nat.le_refl _) hb2)
      have HB2 := Lib.hid (hb1.trans (hb2.mono hb1.size))
      have RP := r24_parse a0 (by omega) w2
      have HT1 := Lib.hid ht
      have HW2 := Lib.hid hw2
      have HP := Lib.hid hP
      clear PA hb1 hK hb2 ht hw2 hP
      go_upto_region 4 with fail
      rw [← HW2.out]
      go_wp2_with fail
      refine RP.mono ?_
      rintro e w3 ⟨hb3, hcase⟩
      rcases hcase with ⟨h, -⟩ | ⟨-, a', b', k', m', ks', v', ht', hK', rfl⟩
      · exact absurd HP.out h
      obtain ⟨ea, eb, ek, em, eks⟩ := HT1.out.uniq ht'
      subst ea
      subst eb
      subst ek
      subst em
      subst eks
      obtain ⟨va', vn', vc', rfl⟩ : ∃ a n c, v' = .slice a n c := by
        obtain ⟨a, c, rfl, _⟩ := hK'
        exact ⟨_, _, _, rfl⟩
      obtain ⟨w4, hw4, r4, hb4, hs4⟩ := box5 w3 a b k m (.slice va' vn' vc') 41
      have hz3 := hb3.size
      have hK4 := hK'.below (Nat.le_refl _) hb4
      have hK24 := ((HK2.out.mono (show w1.heap.size ≤ w2.heap.size by omega)).below (Nat.le_refl _) hb3).below (by omega) hb4
      have HB4 := Lib.hid ((HB2.out.trans (hb3.mono HB2.out.size)).trans (hb4.mono (by have := HB2.out.size; omega)))
      have r24 := (hb4.block w1.heap.size (by omega)).trans ((hb3.block w1.heap.size (by omega)).trans r2)
      have SM := r24_same1 ks ks (.slice va vn vc) (.slice va' vn' vc') a b k m k m w3.heap.size w4 (hK24.mono (by omega)) hK4 (by omega)
      rw [cmpN_self, decide_eq_true (rfl : (0 : Int) = 0)] at SM
      have HK5 := Lib.hid hK24
      have l14 : w1.heap.size < w4.heap.size := by omega
      have l24 : w2.heap.size ≤ w4.heap.size := by omega
      obtain ⟨x0, x1, x2, x3, x4⟩ := cells5 r24
      obtain ⟨y0, y1, y2, y3, y4⟩ := cells5 r4
      have HW4 := Lib.hid hw4
      clear RP hb3 hw4 hb4 hK' hK4 hK24 HK2 HB2 HW2 hs2 ht' r2 r4
      go_upto_region 5 with fail
      rw [← HW4.out]
      go_wp2_with fail
      refine SM.mono ?_
      rintro e w5 ⟨rfl, hb5⟩
      have hz5 := hb5.size
      have r5 := (hb5.block _ l14).trans r24
      have HB5 := Lib.hid (HB4.out.trans (hb5.mono HB4.out.size))
      obtain ⟨p, q, r, hwd, hp, hq, ha, hb, htr⟩ := HT1.out.w
      have hva := vl_bd hp
      have hcn : ks.cnt ≤ 1048576 := by
        have := tx_cntB htr.1
        rw [← htr.2, baL_list] at this
        have hf := congrArg List.length (wds_full hwd)
        simp only [fullw, tlw, List.length_append, List.length_cons] at hf
        have h2 := Lib.size_eq a0
        simp at hf
        omega
      have hwf : (Fo.cons k m ks .nil).wf := by
        have aux : ∀ f : Fo, f.okT → f.wf := by
          intro f
          induction f with
          | nil => intro _; trivial
          | cons k n ks r i1 i2 =>
            rintro ⟨⟨⟨h1, h2⟩, h3, h4⟩, h5, h6⟩
            exact ⟨⟨by omega, by omega⟩, ⟨by omega, by omega⟩, i1 h5, i2 h6⟩
        exact aux _ htr.1
      have PR := e_print ks (.slice va vn vc) a b k m w2.heap.size w5 hcn ((HK5.out.below (by omega) hb5).mono (by omega)) (by omega) (by omega) hwf.1 hwf.2.1 hwf.2.2.1 (pow10_below HT_.out HB5.out)
      clear x0 x1 x2 x3 x4 y0 y1 y2 y3 y4 SM hb5 HK5 r24 hwd hp hq ha hb htr hva hcn hwf
      obtain ⟨x0, x1, x2, x3, x4⟩ := cells5 r5
      go_wp2_with fail
      refine PR.mono ?_
      rintro e w6 ⟨hb6, hcase⟩
      have HB6 := Lib.hid (HB5.out.trans (hb6.mono HB5.out.size))
      rcases hcase with ⟨h, -⟩ | ⟨-, s, hs', rfl⟩
      · exact absurd HT1.out.f h
      · have he : s = a0 := ba_ext (hs'.trans HT1.out.line)
        subst he
        clear hs' PR hb6 x0 x1 x2 x3 x4 r5
        go_wp2_with fail
        refine (LV.out _ HB6.out).mono ?_
        rintro e w7 ⟨rfl, hb7⟩
        go_wp2_with fail
        go_ret
        exact ⟨rfl, HB6.out.trans (hb7.mono HB6.out.size)⟩
    · rcases hcase with ⟨-, rfl⟩ | ⟨h, -⟩
      case inr => exact absurd (hP.symm.trans h) h0
      rw [hP]
      obtain ⟨w2, hw2, r2, hb2, hs2⟩ := box5 w1 0 0 0 0 (.slice none 0 0) 41
      have HB2 := Lib.hid (hb1.trans (hb2.mono hb1.size))
      have RP := r24_parse a0 (by omega) w2
      have HW2 := Lib.hid hw2
      have HP := Lib.hid hP
      clear PA hb1 hb2 hw2 hP
      go_upto_region 4 with fail
      rw [← HW2.out]
      go_wp2_with fail
      refine RP.mono ?_
      rintro e w3 ⟨hb3, hcase⟩
      rcases hcase with ⟨-, rfl⟩ | ⟨h, -⟩
      case inr => exact absurd (HP.out.symm.trans h) h0
      rw [HP.out]
      obtain ⟨w4, hw4, r4, hb4, hs4⟩ := box5 w3 0 0 0 0 (.slice none 0 0) 41
      have hz3 := hb3.size
      have HB4 := Lib.hid ((HB2.out.trans (hb3.mono HB2.out.size)).trans (hb4.mono (by have := HB2.out.size; omega)))
      have r24 := (hb4.block w1.heap.size (by omega)).trans ((hb3.block w1.heap.size (by omega)).trans r2)
      have SM := r24_same1 .nil .nil (.slice none 0 0) (.slice none 0 0) 0 0 0 0 0 0 0 w4 (Kids.nought _ _) (Kids.nought _ _) (Nat.zero_le _)
      rw [cmpN_self, decide_eq_true (rfl : (0 : Int) = 0)] at SM
      obtain ⟨x0, x1, x2, x3, x4⟩ := cells5 r24
      obtain ⟨y0, y1, y2, y3, y4⟩ := cells5 r4
      have HW4 := Lib.hid hw4
      have e0 : (P == 0) = false := by rw [beq_eq_false_iff_ne]; exact h0
      have e0' : (P != 0) = true := by simp [bne, e0]
      clear RP hb3 hw4 hb4 HB2 HW2 hs2 r2 r4 r24
      go_upto_region 5 with fail
      rw [← HW4.out]
      go_wp2_with fail
      refine SM.mono ?_
      rintro e w5 ⟨rfl, hb5⟩
      have HB5 := Lib.hid (HB4.out.trans (hb5.mono HB4.out.size))
      clear x0 x1 x2 x3 x4 y0 y1 y2 y3 y4 SM hb5
      go_wp2_with fail
      refine (LV.out _ HB5.out).mono ?_
      rintro e w7 ⟨rfl, hb7⟩
      go_wp2_with fail
      go_ret
      exact ⟨rfl, HB5.out.trans (hb7.mono HB5.out.size)⟩
end entryReads
end Go.Proofs.YtakhgjhnljbfiaaDoor
