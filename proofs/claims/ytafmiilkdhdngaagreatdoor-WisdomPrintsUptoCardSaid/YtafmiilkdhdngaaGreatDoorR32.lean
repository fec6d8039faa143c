/- Put together by program (merge2.py): Rtp Rent. -/
import Derived.Deep.DrawnRows
import Derived.Deep.RegionHeld
import Derived.Test.YtafmiilkdhdngaaGreatDoorR30
import Derived.Test.YtafmiilkdhdngaaGreatDoorR31
/- Reference 23's Parse. -/
namespace Go.Proofs.YtafmiilkdhdngaaGreatDoor
open Go.ChangeShapes Go.WideShapes Go.ChangeAt Go.RowKit
set_option linter.unusedVariables false
set_option linter.unusedSimpArgs false
set_option maxRecDepth 100000 in
set_option maxHeartbeats 16000000 in
theorem r23_parse (s : ByteArray) (hs5 : s.size ≤ 5000) (W : World) : Calls Tryz.prog 54 #[.string s] W (ParsOk s W) := by
  obtain ⟨w0, hw0, y0, y1, y2, hB0, hs0⟩ := box3 W 0 0 (.slice none 0 0) 42
  have r0 : w0.heap[W.heap.size]? = some (.cells #[.int .i64 0, .int .i64 0, .slice none 0 0] 42 (0, 0)) := by rw [hw0]; exact heap_alloc_new _ _
  have HW0 := Lib.hid hw0
  clear hw0
  by_cases hlong : 4096 < s.size
  · have d1 : decide ((s.size : Int) > 4096) = true := decide_eq_true (by omega)
    have d1' : decide (4096 < s.size) = true := decide_eq_true hlong
    obtain ⟨-, -, -, g0, g1, g2⟩ := bcells r0
    have HZ := Lib.hid (s3_at (x := .int .i64 0) (y := .int .i64 0) (z := .slice none 0 0) r0)
    have FIN := Lib.hid (pars_bad (b := W.heap.size) hB0 (Nat.le_refl _) (prs_long hlong) (by decide))
    unfold s3 at HZ FIN
    go_enter Tryz.func54, Tryz.ntmps54
    go_upto_region 2 with fail
    rw [← HW0.out]
    go_wp2_with fail
    refine bodyPost_ret (res_cell_tmp (p := 2) (a := 3) (ty := 42) rfl _ _ _ 42 #[.int .i64 0, .int .i64 0, .slice none 0 0] (0, 0) _ (.int .i64 12) rfl rfl HZ.out Tryz.underlying42 rfl (by kernel_rfl)) rfl ?_
    exact FIN.out
  · have d1 : decide ((s.size : Int) > 4096) = false := decide_eq_false (by omega)
    have d1' : decide (4096 < s.size) = false := decide_eq_false hlong
    have ND := r23_node s (by omega) (s.size + 1) 0 w0 (by omega) (Nat.zero_le _)
    have hNB : ∀ k m ks, NB s.data.toList = some ((k, m, ks), []) ↔ Tree s k m ks := fun k m ks => NB_what s.data.toList k m ks
    have HNB := Lib.hid hNB
    clear hNB
    go_enter Tryz.func54, Tryz.ntmps54
    go_wp2_with fail
    rw [← HW0.out]
    refine ND.mono ?_
    rintro e w3 ⟨hB3, hcase⟩
    rw [List.drop_zero] at hcase
    have hz3 := hB3.size
    have r3 := (hB3.block _ (by omega)).trans r0
    have HB3 := Lib.hid (hB0.trans (hB3.mono hB0.size))
    clear y0 y1 y2 ND hB3 r0 HW0 hB0
    rcases hcase with ⟨hn3, px, py, pa, pn, pc, rfl⟩ | ⟨k, m, ks, q, v, hn3, hq3, hq4, rfl, hK3⟩
    · have HP := prs_none (s := s) hlong (fun k m ks ht => by
        have := (HNB.out k m ks).2 ht
        rw [hn3] at this; cases this)
      obtain ⟨w4, hw4, x0, x1, x2, hB4, hs4⟩ := box3 w3 px py (.slice pa pn pc) 42
      have r4 := (hB4.block _ (by omega)).trans r3
      have HZ := Lib.hid (s3_at (x := .int .i64 0) (y := .int .i64 0) (z := .slice none 0 0) r4)
      have FIN := Lib.hid (pars_bad (b := W.heap.size) (HB3.out.trans (hB4.mono (by omega))) (Nat.le_refl _) HP (by decide))
      obtain ⟨y0, y1, y2, g0, g1, g2⟩ := bcells r4
      have e1 : ((-1 : Int) != (s.size : Int)) = true := by
        have h : ((-1 : Int) == (s.size : Int)) = false := by rw [beq_eq_false_iff_ne]; omega
        simp [bne, h]
      have HW4 := Lib.hid hw4
      clear r3 HB3 hB4 r4 hw4 HNB HP hn3
      unfold s3 at HZ FIN
      go_upto_region 4 with fail
      rw [← HW4.out]
      go_wp2_with fail
      refine bodyPost_ret (res_cell_tmp (p := 2) (a := 3) (ty := 42) rfl _ _ _ 42 #[.int .i64 0, .int .i64 0, .slice none 0 0] (0, 0) _ (.int .i64 10) rfl rfl HZ.out Tryz.underlying42 rfl (by kernel_rfl)) rfl ?_
      exact FIN.out
    · obtain ⟨va, vn, vc, rfl⟩ : ∃ a n c, v = .slice a n c := by
        obtain ⟨a, c, rfl, _⟩ := hK3
        exact ⟨_, _, _, rfl⟩
      obtain ⟨w4, hw4, x0, x1, x2, hB4, hs4⟩ := box3 w3 k m (.slice va vn vc) 42
      have r4 := (hB4.block _ (by omega)).trans r3
      have hK4 : KidsS w4 (fun b => w0.heap.size ≤ b ∧ b < w4.heap.size) (.slice va vn vc) ks := hK3.carry (fun b hb => ⟨⟨hb.1, by omega⟩, hB4.block b hb.2⟩)
      have HB4 := Lib.hid (HB3.out.trans (hB4.mono (by omega)))
      have HW4 := Lib.hid hw4
      clear r3 HB3 hB4 hw4 hK3
      by_cases hqe : q = s.size
      · have ht : Tree s k m ks := (HNB.out k m ks).1 (by rw [hn3, hqe, Lib.size_eq, List.drop_length])
        have hcn := tx_cntB ht.1
        rw [← ht.2, ← Lib.size_eq] at hcn
        have BG := r23_big ks (.slice va vn vc) k m w4.heap.size w4 (by omega) (hK4.to (fun b hb => hb.2)) (Nat.le_refl _)
        have dq : ((q : Int) != (s.size : Int)) = false := by simp [hqe]
        have dq' : (q != s.size) = false := by simp [hqe]
        have dq2 : (q == s.size) = true := by simp [hqe]
        have HT_ := Lib.hid ht
        have HK4 := Lib.hid hK4
        have HR4 := Lib.hid r4
        obtain ⟨y0, y1, y2, g0, g1, g2⟩ := bcells r4
        clear HNB hn3 ht hK4 hqe hcn
        by_cases hbg : bigT ks
        · rw [decide_eq_true hbg] at BG
          have HP := Lib.hid (prs_big hlong HT_.out hbg)
          clear hbg
          go_upto_region 4 with fail
          rw [← HW4.out]
          go_wp2_with fail
          refine BG.mono ?_
          rintro e w5 ⟨rfl, hB5⟩
          have r5 := (hB5.block _ (by omega)).trans HR4.out
          have HZ := Lib.hid (s3_at (x := .int .i64 0) (y := .int .i64 0) (z := .slice none 0 0) r5)
          have FIN := Lib.hid (pars_bad (b := W.heap.size) (HB4.out.trans (hB5.mono (by omega))) (Nat.le_refl _) HP.out (by decide))
          clear y0 y1 y2 g0 g1 g2 BG hB5 x0 x1 x2 r4
          obtain ⟨y0, y1, y2, g0, g1, g2⟩ := bcells r5
          clear r5
          unfold s3 at HZ FIN
          go_wp2_with fail
          refine bodyPost_ret (res_cell_tmp (p := 2) (a := 3) (ty := 42) rfl _ _ _ 42 #[.int .i64 0, .int .i64 0, .slice none 0 0] (0, 0) _ (.int .i64 12) rfl rfl HZ.out Tryz.underlying42 rfl (by kernel_rfl)) rfl ?_
          exact FIN.out
        · rw [decide_eq_false hbg] at BG
          have HBG := Lib.hid hbg
          clear hbg
          go_upto_region 4 with fail
          rw [← HW4.out]
          go_wp2_with fail
          refine BG.mono ?_
          rintro e w5 ⟨rfl, hB5⟩
          have hz5 := hB5.size
          have r5 := (hB5.block _ (by omega)).trans HR4.out
          have z0 := (hB5.cell (p := ⟨w3.heap.size, 0, none⟩) (show w3.heap.size < w4.heap.size by omega)).trans x0
          have z1 := (hB5.cell (p := ⟨w3.heap.size, 1, none⟩) (show w3.heap.size < w4.heap.size by omega)).trans x1
          have z2 := (hB5.cell (p := ⟨w3.heap.size, 2, none⟩) (show w3.heap.size < w4.heap.size by omega)).trans x2
          have HZ := Lib.hid (s3_at (x := .int .i64 k) (y := .int .i64 m) (z := .slice va vn vc) r5)
          have FIN := Lib.hid (pars_good (b := W.heap.size) (HB4.out.trans (hB5.mono (by omega))) (Nat.le_refl _) hlong HT_.out HBG.out (HK4.out.carry (fun b hb => ⟨⟨by omega, by omega, by omega⟩, hB5.block b hb.2⟩)))
          clear y0 y1 y2 g0 g1 g2 BG hB5 x0 x1 x2 r4
          obtain ⟨y0, y1, y2, g0, g1, g2⟩ := bcells r5
          clear r5
          unfold s3 at HZ FIN
          go_wp2_with fail
          refine bodyPost_ret (res_cell_tmp (p := 2) (a := 3) (ty := 42) rfl _ _ _ 42 #[.int .i64 k, .int .i64 m, .slice va vn vc] (0, 0) _ (.int .i64 0) rfl rfl HZ.out Tryz.underlying42 rfl (by kernel_rfl)) rfl ?_
          exact FIN.out
      · have HP := prs_none (s := s) hlong (fun k' m' ks' ht => by
          have := (HNB.out k' m' ks').2 ht
          rw [hn3] at this
          simp only [Option.some.injEq, Prod.mk.injEq] at this
          have h2 := this.2
          rw [List.drop_eq_nil_iff, ← Lib.size_eq] at h2
          omega)
        have dq : ((q : Int) != (s.size : Int)) = true := by simp [bne, beq_eq_false_iff_ne]; omega
        have dq' : (q != s.size) = true := by simp [bne, beq_eq_false_iff_ne]; omega
        have dq2 : (q == s.size) = false := by simp [hqe]
        have HZ := Lib.hid (s3_at (x := .int .i64 0) (y := .int .i64 0) (z := .slice none 0 0) r4)
        have FIN := Lib.hid (pars_bad (b := W.heap.size) HB4.out (Nat.le_refl _) HP (by decide))
        obtain ⟨y0, y1, y2, g0, g1, g2⟩ := bcells r4
        clear HNB HP hn3 hK4 r4
        unfold s3 at HZ FIN
        go_upto_region 4 with fail
        rw [← HW4.out]
        go_wp2_with fail
        refine bodyPost_ret (res_cell_tmp (p := 2) (a := 3) (ty := 42) rfl _ _ _ 42 #[.int .i64 0, .int .i64 0, .slice none 0 0] (0, 0) _ (.int .i64 10) rfl rfl HZ.out Tryz.underlying42 rfl (by kernel_rfl)) rfl ?_
        exact FIN.out
end Go.Proofs.YtafmiilkdhdngaaGreatDoor
/- Reference 24's Parse. -/
namespace Go.Proofs.YtafmiilkdhdngaaGreatDoor
open Go.ChangeShapes Go.WideShapes Go.ChangeAt Go.RowKit
set_option linter.unusedVariables false
set_option linter.unusedSimpArgs false
set_option maxRecDepth 100000 in
set_option maxHeartbeats 16000000 in
theorem r24_parse (s : ByteArray) (hs : s.size ≤ 4100) (W : World) : Calls Tryz.prog 32 #[.string s] W (EPaOk s W) := by
  obtain ⟨w0, hw0, r0, hB0, hs0⟩ := box5 W 0 0 0 0 (.slice none 0 0) 44
  have LW := ref_words s (by omega) w0
  have HW0 := Lib.hid hw0
  clear hw0
  go_enter Tryz.func32, Tryz.ntmps32
  go_wp2_with fail
  rw [← HW0.out]
  refine LW.mono ?_
  rintro e w1 ⟨hb1, hcase⟩
  have hz1 := hb1.size
  have HWZ := Lib.hid (show W.heap.size + 1 ≤ w1.heap.size by omega)
  have RX := Lib.hid (fun w' (hb : Below w1.heap.size w1 w') => (hb.block W.heap.size (by omega)).trans ((hb1.block W.heap.size (by omega)).trans r0))
  have HBX := Lib.hid (fun w' (hb : Below w1.heap.size w1 w') => (hB0.trans (hb1.mono hB0.size)).trans (hb.mono (by omega)))
  clear LW HW0 hb1 r0 hB0
  have hbad : ∀ (c : Int) (w' : World), Below w1.heap.size w1 w' → ecode s = c → c ≠ 0 → Hid (EPaOk s W (.returned (.tuple #[.agg #[.int .i64 0, .int .i64 0, .int .i64 0, .int .i64 0, .slice none 0 0], .int .i64 c])) (s5 w' W.heap.size (.int .i64 0) (.int .i64 0) (.int .i64 0) (.int .i64 0) (.slice none 0 0))) ∧ Hid ((s5 w' W.heap.size (.int .i64 0) (.int .i64 0) (.int .i64 0) (.int .i64 0) (.slice none 0 0)).heap[W.heap.size]? = some (.cells #[.int .i64 0, .int .i64 0, .int .i64 0, .int .i64 0, .slice none 0 0] 44 (0, 0))) := fun c w' hb hc h0 =>
    ⟨Lib.hid (epa_bad (HBX.out _ hb) (Nat.le_refl _) hc h0), Lib.hid (s5_at (RX.out _ hb))⟩
  have HBAD := Lib.hid hbad
  clear hbad
  rcases hcase with ⟨hn, rfl⟩ | ⟨l, v, hw, rfl, ho⟩
  · obtain ⟨FIN, HZ⟩ := HBAD.out 10 w1 (Below.refl _ _) (ec_words (fun p q r e => by rw [hn] at e; cases e)) (by decide)
    obtain ⟨y0, y1, y2, y3, y4⟩ := cells5 (RX.out _ (Below.refl _ _))
    obtain ⟨g0, g1, g2, g3, g4⟩ := free5 (RX.out _ (Below.refl _ _))
    clear hn
    unfold s5 at FIN HZ
    go_wp2_with fail
    refine bodyPost_ret (res_cell_tmp (p := 2) (a := 3) (ty := 44) rfl _ _ _ 44 #[.int .i64 0, .int .i64 0, .int .i64 0, .int .i64 0, .slice none 0 0] (0, 0) _ (.int .i64 10) rfl rfl HZ.out Tryz.underlying44 rfl (by kernel_rfl)) rfl ?_
    exact FIN.out
  by_cases hl3 : l.length = 3
  case neg =>
    obtain ⟨va, vc, rfl⟩ : ∃ a c, v = .slice a l.length c := by
      rcases own_form ho with ⟨rfl, h, -⟩ | ⟨g, c, rfl, -⟩
      · exact ⟨none, 0, by rw [h]⟩
      · exact ⟨_, _, rfl⟩
    have hnt := not_three hl3
    obtain ⟨L, hL⟩ : ∃ L, l.length = L := ⟨_, rfl⟩
    rw [hL] at hl3 ⊢
    have e3 : ((L : Int) != 3) = true := by
      have : ((L : Int) == 3) = false := by rw [beq_eq_false_iff_ne]; omega
      simp [bne, this]
    have e3' : (L != 3) = true := by simp [bne, hl3]
    obtain ⟨FIN, HZ⟩ := HBAD.out 10 w1 (Below.refl _ _) (ec_words (fun p q r e => by rw [hw] at e; exact hnt p q r (Option.some.inj e))) (by decide)
    obtain ⟨y0, y1, y2, y3, y4⟩ := cells5 (RX.out _ (Below.refl _ _))
    obtain ⟨g0, g1, g2, g3, g4⟩ := free5 (RX.out _ (Below.refl _ _))
    clear hw ho hL hnt
    unfold s5 at FIN HZ
    go_wp2_with fail
    refine bodyPost_ret (res_cell_tmp (p := 2) (a := 3) (ty := 44) rfl _ _ _ 44 #[.int .i64 0, .int .i64 0, .int .i64 0, .int .i64 0, .slice none 0 0] (0, 0) _ (.int .i64 10) rfl rfl HZ.out Tryz.underlying44 rfl (by kernel_rfl)) rfl ?_
    exact FIN.out
  case pos =>
    obtain ⟨p, q, r, hpqr⟩ := is_three hl3
    obtain ⟨g, c, rfl, hg, c0, c1, c2⟩ := enc_three ho hpqr
    rw [hpqr] at hw
    have hz3 : p.length + q.length + r.length ≤ 4100 := by
      have hf := congrArg List.length (wds_full hw)
      simp only [fullw, tlw, List.length_append, List.length_cons] at hf
      have := Lib.size_eq s
      simp at hf
      omega
    have zz : ∀ l : List UInt8, (baL l).size = l.length := fun l => by rw [Lib.size_eq, baL_list]
    have hpz : (baL p).size ≤ 5000 := by rw [zz]; omega
    have hqz : (baL q).size ≤ 5000 := by rw [zz]; omega
    have hrz : (baL r).size ≤ 5000 := by rw [zz]; omega
    have HWD := Lib.hid hw
    have HEN := Lib.hid (fun (hn : ¬ (IsN (baL p) ∧ IsN (baL q))) => ec_num hw hn)
    have HET := Lib.hid (fun hp hq hr => ec_tree (s := s) hw hp hq hr)
    have HEF := Lib.hid (fun k m ks hp hq hr (ht : Tree (baL r) k m ks) => ec_for hw hp hq hr ht)
    obtain ⟨P, hP⟩ : ∃ P, baL p = P := ⟨_, rfl⟩
    obtain ⟨Q, hQ⟩ : ∃ Q, baL q = Q := ⟨_, rfl⟩
    obtain ⟨R, hR⟩ : ∃ R, baL r = R := ⟨_, rfl⟩
    have HPQR := Lib.hid (show baL p = P ∧ baL q = Q ∧ baL r = R from ⟨hP, hQ, hR⟩)
    rw [hP] at hpz c0
    rw [hQ] at hqz c1
    rw [hR] at hrz c2
    rw [hP, hQ] at HEN
    rw [hP, hQ, hR] at HET HEF
    have RP := Lib.hid (fun w => ref_num P hpz w)
    have RQ := Lib.hid (fun w => ref_num Q hqz w)
    clear hw ho hpqr hl3 zz hP hQ hR hz3
    by_cases hp : IsN P
    case neg =>
      go_wp2_with fail
      refine (RP.out w1).mono ?_
      rintro e w1' ⟨rfl, hcase⟩
      rcases hcase with ⟨-, rfl⟩ | ⟨h, -⟩
      case inr => exact absurd h hp
      obtain ⟨FIN, HZ⟩ := HBAD.out 10 w1 (Below.refl _ _) (HEN.out (fun x => hp x.1)) (by decide)
      obtain ⟨y0, y1, y2, y3, y4⟩ := cells5 (RX.out _ (Below.refl _ _))
      obtain ⟨g0, g1, g2, g3, g4⟩ := free5 (RX.out _ (Below.refl _ _))
      unfold s5 at FIN HZ
      go_wp2_with fail
      refine bodyPost_ret (res_cell_tmp (p := 2) (a := 3) (ty := 44) rfl _ _ _ 44 #[.int .i64 0, .int .i64 0, .int .i64 0, .int .i64 0, .slice none 0 0] (0, 0) _ (.int .i64 10) rfl rfl HZ.out Tryz.underlying44 rfl (by kernel_rfl)) rfl ?_
      exact FIN.out
    case pos =>
    obtain ⟨n1, hn1⟩ : ∃ n1 : Nat, vl P P.size = n1 := ⟨_, rfl⟩
    have hv1 := vl_bd hp
    rw [hn1] at hv1
    have RP := Lib.hid (fun w => ((RP.out w).mono (fun e w' h => by
      obtain ⟨h1, h2⟩ := h
      rcases h2 with ⟨h3, -⟩ | ⟨-, h3⟩
      · exact absurd hp h3
      · rw [hn1] at h3; exact ⟨h3, h1⟩) : Calls Tryz.prog 53 #[.string P] w fun e w' => e = .returned (.int .i64 (n1 : Int)) ∧ w = w'))
    have d1 : decide ((n1 : Int) < 0) = false := decide_eq_false (by omega)
    by_cases hq : IsN Q
    case neg =>
      go_wp2_with fail
      refine (RP.out w1).mono ?_
      rintro e w1' ⟨rfl, rfl⟩
      go_wp2_with fail
      refine (RQ.out w1).mono ?_
      rintro e w1' ⟨rfl, hcase⟩
      rcases hcase with ⟨-, rfl⟩ | ⟨h, -⟩
      case inr => exact absurd h hq
      obtain ⟨FIN, HZ⟩ := HBAD.out 10 w1 (Below.refl _ _) (HEN.out (fun x => hq x.2)) (by decide)
      obtain ⟨y0, y1, y2, y3, y4⟩ := cells5 (RX.out _ (Below.refl _ _))
      obtain ⟨g0, g1, g2, g3, g4⟩ := free5 (RX.out _ (Below.refl _ _))
      unfold s5 at FIN HZ
      go_wp2_with fail
      refine bodyPost_ret (res_cell_tmp (p := 2) (a := 3) (ty := 44) rfl _ _ _ 44 #[.int .i64 0, .int .i64 0, .int .i64 0, .int .i64 0, .slice none 0 0] (0, 0) _ (.int .i64 10) rfl rfl HZ.out Tryz.underlying44 rfl (by kernel_rfl)) rfl ?_
      exact FIN.out
    case pos =>
    obtain ⟨n2, hn2⟩ : ∃ n2 : Nat, vl Q Q.size = n2 := ⟨_, rfl⟩
    have hv2 := vl_bd hq
    rw [hn2] at hv2
    have RQ := Lib.hid (fun w => ((RQ.out w).mono (fun e w' h => by
      obtain ⟨h1, h2⟩ := h
      rcases h2 with ⟨h3, -⟩ | ⟨-, h3⟩
      · exact absurd hq h3
      · rw [hn2] at h3; exact ⟨h3, h1⟩) : Calls Tryz.prog 53 #[.string Q] w fun e w' => e = .returned (.int .i64 (n2 : Int)) ∧ w = w'))
    have d2 : decide ((n2 : Int) < 0) = false := decide_eq_false (by omega)
    have PA := r23_parse R hrz w1
    go_wp2_with fail
    refine (RP.out w1).mono ?_
    rintro e w1' ⟨rfl, rfl⟩
    go_wp2_with fail
    refine (RQ.out w1).mono ?_
    rintro e w1' ⟨rfl, rfl⟩
    go_wp2_with fail
    refine PA.mono ?_
    rintro e w4 ⟨hb4, hcase⟩
    have hz4 := hb4.size
    rcases hcase with ⟨h3, rfl⟩ | ⟨hpr, k, m, ks, v, ht, -, -, hK, rfl⟩
    · obtain ⟨z, hz⟩ : ∃ z, prs R = z := ⟨_, rfl⟩
      have hec := HET.out hp hq h3
      rw [hz] at h3 hec ⊢
      obtain ⟨w5, hw5, a0, a1, a2, hb5, hs5⟩ := box3 w4 0 0 (.slice none 0 0) 42
      have HB5 := Lib.hid (hb4.trans (hb5.mono hz4))
      have f0 : (z != 0) = true := by simp [bne, h3]
      have HW5 := Lib.hid hw5
      clear hw5 hb4 hb5 PA
      go_upto_region 5 with fail
      rw [← HW5.out]
      obtain ⟨FIN, HZ⟩ := HBAD.out z w5 HB5.out hec h3
      obtain ⟨y0, y1, y2, y3, y4⟩ := cells5 (RX.out _ HB5.out)
      obtain ⟨g0, g1, g2, g3, g4⟩ := free5 (RX.out _ HB5.out)
      clear hec
      unfold s5 at FIN HZ
      go_wp2_with fail
      refine bodyPost_ret (res_cell_tmp (p := 2) (a := 3) (ty := 44) rfl _ _ _ 44 #[.int .i64 0, .int .i64 0, .int .i64 0, .int .i64 0, .slice none 0 0] (0, 0) _ (.int .i64 z) rfl rfl HZ.out Tryz.underlying44 rfl (by kernel_rfl)) rfl ?_
      exact FIN.out
    · obtain ⟨va, vn, vc, rfl⟩ : ∃ a n c, v = .slice a n c := by
        obtain ⟨a, c, rfl, _⟩ := hK
        exact ⟨_, _, _, rfl⟩
      obtain ⟨w5, hw5, a0, a1, a2, hb5, hs5⟩ := box3 w4 k m (.slice va vn vc) 42
      have HB5 := Lib.hid (hb4.trans (hb5.mono hz4))
      have HK5 := Lib.hid (hK.below hb5)
      have HW5 := Lib.hid hw5
      have HT5 := Lib.hid ht
      have b0 := (HB5.out.cell (p := ⟨g, 0, none⟩) hg).trans c0
      have b1 := (HB5.out.cell (p := ⟨g, 1, none⟩) hg).trans c1
      clear hw5 hb4 hb5 PA hK ht c0 c1 c2
      have lg : g < w5.heap.size := Nat.lt_of_lt_of_le hg HB5.out.size
      have lb : w4.heap.size < w5.heap.size := by omega
      have MKS := Lib.hid (fun w' (hb : Below w5.heap.size w5 w') => (show w'.cell? ⟨g, 0, none⟩ = some (.string P) ∧ w'.cell? ⟨g, 1, none⟩ = some (.string Q) ∧ w'.cell? ⟨w4.heap.size, 0, none⟩ = some (.int .i64 k) ∧ w'.cell? ⟨w4.heap.size, 1, none⟩ = some (.int .i64 m) ∧ w'.cell? ⟨w4.heap.size, 2, none⟩ = some (.slice va vn vc) from
        ⟨(hb.cell (p := ⟨g, 0, none⟩) lg).trans b0, (hb.cell (p := ⟨g, 1, none⟩) lg).trans b1, (hb.cell (p := ⟨w4.heap.size, 0, none⟩) lb).trans a0, (hb.cell (p := ⟨w4.heap.size, 1, none⟩) lb).trans a1, (hb.cell (p := ⟨w4.heap.size, 2, none⟩) lb).trans a2⟩))
      clear b0 b1 a0 a1 a2
      go_upto_region 7 with fail
      rw [← HW5.out]
      go_cut [8] from 47 to 57 (fun x wx => x = .pointer (some ⟨w4.heap.size + 1, 0, none⟩) ∧ Hid (wx.heap[w4.heap.size + 1]? = some (.cells #[.int .i64 (n1 : Int), .int .i64 (n2 : Int), .int .i64 k, .int .i64 m, .slice va vn vc] 44 (0, 0))) ∧ Hid (Below w5.heap.size w5 wx))
      case first =>
        refine wp_region_held_drew (S := fun w' => w'.cell? ⟨g, 0, none⟩ = some (.string P) ∧ w'.cell? ⟨g, 1, none⟩ = some (.string Q) ∧ w'.cell? ⟨w4.heap.size, 0, none⟩ = some (.int .i64 k) ∧ w'.cell? ⟨w4.heap.size, 1, none⟩ = some (.int .i64 m) ∧ w'.cell? ⟨w4.heap.size, 2, none⟩ = some (.slice va vn vc)) (by kernel_rfl) (MKS.out _ (Below.refl _ _).drew) (fun hHeld => ?_)
        obtain ⟨u, hu, hbu, huz⟩ : ∃ u, w5.drew = u ∧ Below w5.heap.size w5 u ∧ u.heap.size = w4.heap.size + 1 := ⟨_, rfl, (Below.refl _ _).drew, hs5⟩
        rw [hu] at hHeld ⊢
        clear hu
        refine wpAnyH_take (i := 0) (v := ?v1) rfl (by kernel_rfl) (by kernel_rfl) (by kernel_rfl) (fun _ _ _ h => h) (Or.inl ⟨by kernel_rfl, ?hy1⟩) (by assumption) ?rest1
        case hy1 => intro w hSw; (try dsimp only at hSw); (try obtain ⟨hS0, hS1, hS2, hS3, hS4⟩ := hSw); go_simp; (first | done | with_reducible rfl)
        (try simp only [Act.put, List.getElem_toArray, List.getElem_cons_zero, List.getElem_cons_succ, List.setIfInBounds_toArray, List.set_cons_zero, List.set_cons_succ])
        refine wpAnyH_take (i := 1) (v := ?v2) rfl (by kernel_rfl) (by kernel_rfl) (by kernel_rfl) (fun _ _ _ h => h) (Or.inl ⟨by kernel_rfl, ?hy2⟩) (by assumption) ?rest2
        case hy2 => intro w hSw; (try dsimp only at hSw); (try obtain ⟨hS0, hS1, hS2, hS3, hS4⟩ := hSw); go_simp; (first | done | with_reducible rfl)
        (try simp only [Act.put, List.getElem_toArray, List.getElem_cons_zero, List.getElem_cons_succ, List.setIfInBounds_toArray, List.set_cons_zero, List.set_cons_succ])
        refine wpAnyH_take (i := 2) (v := ?v3) rfl (by kernel_rfl) (by kernel_rfl) (by kernel_rfl) (fun _ _ _ h => h) (Or.inl ⟨by kernel_rfl, ?hy3⟩) (by assumption) ?rest3
        case hy3 => intro w hSw; (try dsimp only at hSw); (try obtain ⟨hS0, hS1, hS2, hS3, hS4⟩ := hSw); go_simp; (first | done | with_reducible rfl)
        (try simp only [Act.put, List.getElem_toArray, List.getElem_cons_zero, List.getElem_cons_succ, List.setIfInBounds_toArray, List.set_cons_zero, List.set_cons_succ])
        refine wpAnyH_take (i := 4) (v := ?v4) rfl (by kernel_rfl) (by kernel_rfl) (by kernel_rfl) (fun _ _ _ h => h) (Or.inl ⟨by kernel_rfl, ?hy4⟩) (by assumption) ?rest4
        case hy4 => intro w hSw; (try dsimp only at hSw); (try obtain ⟨hS0, hS1, hS2, hS3, hS4⟩ := hSw); go_simp; (first | done | with_reducible rfl)
        (try simp only [Act.put, List.getElem_toArray, List.getElem_cons_zero, List.getElem_cons_succ, List.setIfInBounds_toArray, List.set_cons_zero, List.set_cons_succ])
        refine wpAnyH_take (i := 5) (v := ?v5) rfl (by kernel_rfl) (by kernel_rfl) (by kernel_rfl) (fun _ _ _ h => h) (Or.inl ⟨by kernel_rfl, ?hy5⟩) (by assumption) ?rest5
        case hy5 => intro w hSw; (try dsimp only at hSw); (try obtain ⟨hS0, hS1, hS2, hS3, hS4⟩ := hSw); go_simp; (first | done | with_reducible rfl)
        (try simp only [Act.put, List.getElem_toArray, List.getElem_cons_zero, List.getElem_cons_succ, List.setIfInBounds_toArray, List.set_cons_zero, List.set_cons_succ])
        refine wpAnyH_take (i := 6) (v := ?v6) rfl (by kernel_rfl) (by kernel_rfl) (by kernel_rfl) (fun _ _ _ h => h) (Or.inl ⟨by kernel_rfl, ?hy6⟩) (by assumption) ?rest6
        case hy6 => intro w hSw; (try dsimp only at hSw); (try obtain ⟨hS0, hS1, hS2, hS3, hS4⟩ := hSw); go_simp; (first | done | with_reducible rfl)
        (try simp only [Act.put, List.getElem_toArray, List.getElem_cons_zero, List.getElem_cons_succ, List.setIfInBounds_toArray, List.set_cons_zero, List.set_cons_succ])
        refine wpAnyH_take (i := 9) (v := ?v7) rfl (by kernel_rfl) (by kernel_rfl) (by kernel_rfl) (fun _ _ _ h => h) (Or.inl ⟨by kernel_rfl, ?hy7⟩) (by assumption) ?rest7
        case hy7 => intro w hSw; (try dsimp only at hSw); (try obtain ⟨hS0, hS1, hS2, hS3, hS4⟩ := hSw); go_simp; (first | done | with_reducible rfl)
        (try simp only [Act.put, List.getElem_toArray, List.getElem_cons_zero, List.getElem_cons_succ, List.setIfInBounds_toArray, List.set_cons_zero, List.set_cons_succ])
        refine wpAnyH_ready (rs := [3, 11]) (by kernel_rfl) (by simp) ?_
        refine (AllReadyH.cons rfl (fun K hK => ?_) (AllReadyH.cons rfl (fun K hK => ?_) AllReadyH.nil))
        · go_simp
          refine (RP.out _).mono ?_
          rintro e w' ⟨rfl, rfl⟩
          (try go_wp2_with fail)
          refine hK.out _ _ (MKS.out _ hbu) (fun hHeld2 => ?_)
          clear hK K hHeld
          have hHeld := hHeld2
          clear hHeld2
          (try simp only [Act.put, List.getElem_toArray, List.getElem_cons_zero, List.getElem_cons_succ, List.setIfInBounds_toArray, List.set_cons_zero, List.set_cons_succ])
          refine wpAnyH_ready (rs := [7, 11]) (by kernel_rfl) (by simp) ?_
          refine (AllReadyH.cons rfl (fun K hK => ?_) (AllReadyH.cons rfl (fun K hK => ?_) AllReadyH.nil))
          · go_simp
            refine (RQ.out _).mono ?_
            rintro e w' ⟨rfl, rfl⟩
            (try go_wp2_with fail)
            refine hK.out _ _ (MKS.out _ hbu) (fun hHeld2 => ?_)
            clear hK K hHeld
            have hHeld := hHeld2
            clear hHeld2
            (try simp only [Act.put, List.getElem_toArray, List.getElem_cons_zero, List.getElem_cons_succ, List.setIfInBounds_toArray, List.set_cons_zero, List.set_cons_succ])
            refine wpAnyH_take (i := 8) (v := ?v8) rfl (by kernel_rfl) (by kernel_rfl) (by kernel_rfl) (fun _ _ _ h => h) (Or.inl ⟨by kernel_rfl, ?hy8⟩) (by assumption) ?rest8
            case hy8 => intro w hSw; (try dsimp only at hSw); (try obtain ⟨hS0, hS1, hS2, hS3, hS4⟩ := hSw); go_simp; (first | done | with_reducible rfl)
            (try simp only [Act.put, List.getElem_toArray, List.getElem_cons_zero, List.getElem_cons_succ, List.setIfInBounds_toArray, List.set_cons_zero, List.set_cons_succ])
            refine wpAnyH_take (i := 10) (v := ?v9) rfl (by kernel_rfl) (by kernel_rfl) (by kernel_rfl) (fun _ _ _ h => h) (Or.inl ⟨by kernel_rfl, ?hy9⟩) (by assumption) ?rest9
            case hy9 => intro w hSw; (try dsimp only at hSw); (try obtain ⟨hS0, hS1, hS2, hS3, hS4⟩ := hSw); go_simp; (first | done | with_reducible rfl)
            (try simp only [Act.put, List.getElem_toArray, List.getElem_cons_zero, List.getElem_cons_succ, List.setIfInBounds_toArray, List.set_cons_zero, List.set_cons_succ])
            refine wpAnyH_ready (rs := [11]) (by kernel_rfl) (by simp) ?_
            refine (AllReadyH.cons rfl (fun K hK => ?_) AllReadyH.nil)
            go_simp
            obtain ⟨ua, hua⟩ : ∃ z, u.alloc (.cells #[.int .i64 0, .int .i64 0, .int .i64 0, .int .i64 0, .slice none 0 0] 44) = z := ⟨_, rfl⟩
            have hra : ua.heap[w4.heap.size + 1]? = some (.cells #[.int .i64 0, .int .i64 0, .int .i64 0, .int .i64 0, .slice none 0 0] 44 (0, 0)) := by rw [← hua, ← huz]; exact heap_alloc_new _ _
            have hba : Below w5.heap.size w5 ua := by rw [← hua]; exact hbu.alloc hbu.size _
            (try rw [hua])
            (try rw [huz])
            clear hua
            refine hK.out _ _ (MKS.out _ hba) (fun hHeld2 => ?_)
            clear hK K hHeld
            have hHeld := hHeld2
            clear hHeld2
            (try simp only [Act.put, List.getElem_toArray, List.getElem_cons_zero, List.getElem_cons_succ, List.setIfInBounds_toArray, List.set_cons_zero, List.set_cons_succ])
            obtain ⟨z0, z1, z2, z3, z4⟩ := cells5 hra
            obtain ⟨q0, q1, q2, q3, q4⟩ := free5 hra
            have HRA := Lib.hid (s5_at (x := .int .i64 (n1 : Int)) (y := .int .i64 (n2 : Int)) (z := .int .i64 k) (u := .int .i64 m) (v := .slice va vn vc) hra)
            have HBA := Lib.hid (hba.trans (s5_below (w := ua) (b := w4.heap.size + 1) (.int .i64 (n1 : Int)) (.int .i64 (n2 : Int)) (.int .i64 k) (.int .i64 m) (.slice va vn vc) (show w5.heap.size ≤ w4.heap.size + 1 by omega)))
            unfold s5 at HRA HBA
            refine wpAnyH_ready (rs := [12]) (by kernel_rfl) (by simp) ?_
            refine (AllReadyH.cons rfl (fun K hK => ?_) AllReadyH.nil)
            go_simp
            refine hK.out _ _ (MKS.out _ HBA.out) (fun hHeld2 => ?_)
            clear hK K hHeld
            have hHeld := hHeld2
            clear hHeld2
            (try simp only [Act.put, List.getElem_toArray, List.getElem_cons_zero, List.getElem_cons_succ, List.setIfInBounds_toArray, List.set_cons_zero, List.set_cons_succ])
            refine wpAnyH_done (by kernel_rfl) ?_ _
            (try go_wp2_with fail)
            go_meet
            exact ⟨rfl, HRA, HBA⟩
          · go_simp
            obtain ⟨ua, hua⟩ : ∃ z, u.alloc (.cells #[.int .i64 0, .int .i64 0, .int .i64 0, .int .i64 0, .slice none 0 0] 44) = z := ⟨_, rfl⟩
            have hra : ua.heap[w4.heap.size + 1]? = some (.cells #[.int .i64 0, .int .i64 0, .int .i64 0, .int .i64 0, .slice none 0 0] 44 (0, 0)) := by rw [← hua, ← huz]; exact heap_alloc_new _ _
            have hba : Below w5.heap.size w5 ua := by rw [← hua]; exact hbu.alloc hbu.size _
            (try rw [hua])
            (try rw [huz])
            clear hua
            refine hK.out _ _ (MKS.out _ hba) (fun hHeld2 => ?_)
            clear hK K hHeld
            have hHeld := hHeld2
            clear hHeld2
            (try simp only [Act.put, List.getElem_toArray, List.getElem_cons_zero, List.getElem_cons_succ, List.setIfInBounds_toArray, List.set_cons_zero, List.set_cons_succ])
            refine wpAnyH_ready (rs := [7]) (by kernel_rfl) (by simp) ?_
            refine (AllReadyH.cons rfl (fun K hK => ?_) AllReadyH.nil)
            go_simp
            refine (RQ.out _).mono ?_
            rintro e w' ⟨rfl, rfl⟩
            (try go_wp2_with fail)
            refine hK.out _ _ (MKS.out _ hba) (fun hHeld2 => ?_)
            clear hK K hHeld
            have hHeld := hHeld2
            clear hHeld2
            (try simp only [Act.put, List.getElem_toArray, List.getElem_cons_zero, List.getElem_cons_succ, List.setIfInBounds_toArray, List.set_cons_zero, List.set_cons_succ])
            refine wpAnyH_take (i := 8) (v := ?v10) rfl (by kernel_rfl) (by kernel_rfl) (by kernel_rfl) (fun _ _ _ h => h) (Or.inl ⟨by kernel_rfl, ?hy10⟩) (by assumption) ?rest10
            case hy10 => intro w hSw; (try dsimp only at hSw); (try obtain ⟨hS0, hS1, hS2, hS3, hS4⟩ := hSw); go_simp; (first | done | with_reducible rfl)
            (try simp only [Act.put, List.getElem_toArray, List.getElem_cons_zero, List.getElem_cons_succ, List.setIfInBounds_toArray, List.set_cons_zero, List.set_cons_succ])
            refine wpAnyH_take (i := 10) (v := ?v11) rfl (by kernel_rfl) (by kernel_rfl) (by kernel_rfl) (fun _ _ _ h => h) (Or.inl ⟨by kernel_rfl, ?hy11⟩) (by assumption) ?rest11
            case hy11 => intro w hSw; (try dsimp only at hSw); (try obtain ⟨hS0, hS1, hS2, hS3, hS4⟩ := hSw); go_simp; (first | done | with_reducible rfl)
            (try simp only [Act.put, List.getElem_toArray, List.getElem_cons_zero, List.getElem_cons_succ, List.setIfInBounds_toArray, List.set_cons_zero, List.set_cons_succ])
            obtain ⟨z0, z1, z2, z3, z4⟩ := cells5 hra
            obtain ⟨q0, q1, q2, q3, q4⟩ := free5 hra
            have HRA := Lib.hid (s5_at (x := .int .i64 (n1 : Int)) (y := .int .i64 (n2 : Int)) (z := .int .i64 k) (u := .int .i64 m) (v := .slice va vn vc) hra)
            have HBA := Lib.hid (hba.trans (s5_below (w := ua) (b := w4.heap.size + 1) (.int .i64 (n1 : Int)) (.int .i64 (n2 : Int)) (.int .i64 k) (.int .i64 m) (.slice va vn vc) (show w5.heap.size ≤ w4.heap.size + 1 by omega)))
            unfold s5 at HRA HBA
            refine wpAnyH_ready (rs := [12]) (by kernel_rfl) (by simp) ?_
            refine (AllReadyH.cons rfl (fun K hK => ?_) AllReadyH.nil)
            go_simp
            refine hK.out _ _ (MKS.out _ HBA.out) (fun hHeld2 => ?_)
            clear hK K hHeld
            have hHeld := hHeld2
            clear hHeld2
            (try simp only [Act.put, List.getElem_toArray, List.getElem_cons_zero, List.getElem_cons_succ, List.setIfInBounds_toArray, List.set_cons_zero, List.set_cons_succ])
            refine wpAnyH_done (by kernel_rfl) ?_ _
            (try go_wp2_with fail)
            go_meet
            exact ⟨rfl, HRA, HBA⟩
        · go_simp
          obtain ⟨ua, hua⟩ : ∃ z, u.alloc (.cells #[.int .i64 0, .int .i64 0, .int .i64 0, .int .i64 0, .slice none 0 0] 44) = z := ⟨_, rfl⟩
          have hra : ua.heap[w4.heap.size + 1]? = some (.cells #[.int .i64 0, .int .i64 0, .int .i64 0, .int .i64 0, .slice none 0 0] 44 (0, 0)) := by rw [← hua, ← huz]; exact heap_alloc_new _ _
          have hba : Below w5.heap.size w5 ua := by rw [← hua]; exact hbu.alloc hbu.size _
          (try rw [hua])
          (try rw [huz])
          clear hua
          refine hK.out _ _ (MKS.out _ hba) (fun hHeld2 => ?_)
          clear hK K hHeld
          have hHeld := hHeld2
          clear hHeld2
          (try simp only [Act.put, List.getElem_toArray, List.getElem_cons_zero, List.getElem_cons_succ, List.setIfInBounds_toArray, List.set_cons_zero, List.set_cons_succ])
          refine wpAnyH_ready (rs := [3]) (by kernel_rfl) (by simp) ?_
          refine (AllReadyH.cons rfl (fun K hK => ?_) AllReadyH.nil)
          go_simp
          refine (RP.out _).mono ?_
          rintro e w' ⟨rfl, rfl⟩
          (try go_wp2_with fail)
          refine hK.out _ _ (MKS.out _ hba) (fun hHeld2 => ?_)
          clear hK K hHeld
          have hHeld := hHeld2
          clear hHeld2
          (try simp only [Act.put, List.getElem_toArray, List.getElem_cons_zero, List.getElem_cons_succ, List.setIfInBounds_toArray, List.set_cons_zero, List.set_cons_succ])
          refine wpAnyH_ready (rs := [7]) (by kernel_rfl) (by simp) ?_
          refine (AllReadyH.cons rfl (fun K hK => ?_) AllReadyH.nil)
          go_simp
          refine (RQ.out _).mono ?_
          rintro e w' ⟨rfl, rfl⟩
          (try go_wp2_with fail)
          refine hK.out _ _ (MKS.out _ hba) (fun hHeld2 => ?_)
          clear hK K hHeld
          have hHeld := hHeld2
          clear hHeld2
          (try simp only [Act.put, List.getElem_toArray, List.getElem_cons_zero, List.getElem_cons_succ, List.setIfInBounds_toArray, List.set_cons_zero, List.set_cons_succ])
          refine wpAnyH_take (i := 8) (v := ?v12) rfl (by kernel_rfl) (by kernel_rfl) (by kernel_rfl) (fun _ _ _ h => h) (Or.inl ⟨by kernel_rfl, ?hy12⟩) (by assumption) ?rest12
          case hy12 => intro w hSw; (try dsimp only at hSw); (try obtain ⟨hS0, hS1, hS2, hS3, hS4⟩ := hSw); go_simp; (first | done | with_reducible rfl)
          (try simp only [Act.put, List.getElem_toArray, List.getElem_cons_zero, List.getElem_cons_succ, List.setIfInBounds_toArray, List.set_cons_zero, List.set_cons_succ])
          refine wpAnyH_take (i := 10) (v := ?v13) rfl (by kernel_rfl) (by kernel_rfl) (by kernel_rfl) (fun _ _ _ h => h) (Or.inl ⟨by kernel_rfl, ?hy13⟩) (by assumption) ?rest13
          case hy13 => intro w hSw; (try dsimp only at hSw); (try obtain ⟨hS0, hS1, hS2, hS3, hS4⟩ := hSw); go_simp; (first | done | with_reducible rfl)
          (try simp only [Act.put, List.getElem_toArray, List.getElem_cons_zero, List.getElem_cons_succ, List.setIfInBounds_toArray, List.set_cons_zero, List.set_cons_succ])
          obtain ⟨z0, z1, z2, z3, z4⟩ := cells5 hra
          obtain ⟨q0, q1, q2, q3, q4⟩ := free5 hra
          have HRA := Lib.hid (s5_at (x := .int .i64 (n1 : Int)) (y := .int .i64 (n2 : Int)) (z := .int .i64 k) (u := .int .i64 m) (v := .slice va vn vc) hra)
          have HBA := Lib.hid (hba.trans (s5_below (w := ua) (b := w4.heap.size + 1) (.int .i64 (n1 : Int)) (.int .i64 (n2 : Int)) (.int .i64 k) (.int .i64 m) (.slice va vn vc) (show w5.heap.size ≤ w4.heap.size + 1 by omega)))
          unfold s5 at HRA HBA
          refine wpAnyH_ready (rs := [12]) (by kernel_rfl) (by simp) ?_
          refine (AllReadyH.cons rfl (fun K hK => ?_) AllReadyH.nil)
          go_simp
          refine hK.out _ _ (MKS.out _ HBA.out) (fun hHeld2 => ?_)
          clear hK K hHeld
          have hHeld := hHeld2
          clear hHeld2
          (try simp only [Act.put, List.getElem_toArray, List.getElem_cons_zero, List.getElem_cons_succ, List.setIfInBounds_toArray, List.set_cons_zero, List.set_cons_succ])
          refine wpAnyH_done (by kernel_rfl) ?_ _
          (try go_wp2_with fail)
          go_meet
          exact ⟨rfl, HRA, HBA⟩
      case rest =>
        obtain ⟨rfl, HR6, HB56⟩ := hcut
        have hz56 := HB56.out.size
        have HB6 := Lib.hid (HB5.out.trans (HB56.out.mono HB5.out.size))
        have hlt6 : w4.heap.size + 1 < wc.heap.size := Nat.lt_of_not_le fun hn => by
          have := HR6.out
          rw [Array.getElem?_eq_none hn] at this; cases this
        have hok := HT5.out.1
        have hwf : (Fo.cons k m ks .nil).wf := by
          have aux : ∀ f : Fo, f.okT → f.wf := by
            intro f
            induction f with
            | nil => intro _; trivial
            | cons k n ks r i1 i2 =>
              rintro ⟨⟨⟨h1, h2⟩, h3, h4⟩, h5, h6⟩
              exact ⟨⟨by omega, by omega⟩, ⟨by omega, by omega⟩, i1 h5, i2 h6⟩
          exact aux _ hok
        have hcn : ks.cnt ≤ 1048576 := by
          have := tx_cntB hok
          rw [← HT5.out.2, ← Lib.size_eq] at this
          omega
        have hK6 := HK5.out.below HB56.out
        have CH := Lib.hid (fun w' (hb : Below wc.heap.size wc w') => r24_check ks (.slice va vn vc) n1 n2 k m wc.heap.size w' hcn (hK6.kids.carry hb) hb.size (by omega) hwf.1 hwf.2.1 hwf.2.2.1)
        obtain ⟨F, hF⟩ : ∃ F, fori (n1 : Int) (n2 : Int) m (chkd k m ks) = F := ⟨_, rfl⟩
        rw [hF] at CH
        have hec := HEF.out k m ks hp hq hpr HT5.out
        rw [hn1, hn2, hF] at hec
        have HENT := Lib.hid (fun (h0 : F = 0) => (⟨⟨p, q, r, HWD.out, by rw [HPQR.out.1]; exact hp, by rw [HPQR.out.2.1]; exact hq, by rw [HPQR.out.1, hn1], by rw [HPQR.out.2.1, hn2], by rw [HPQR.out.2.2]; exact HT5.out⟩, hF.trans h0⟩ : Ent s n1 n2 k m ks))
        have HEC := Lib.hid hec
        have HOKS := Lib.hid hok.2.1
        have HK6 := Lib.hid hK6
        obtain ⟨x0, x1, x2, x3, x4⟩ := cells5 HR6.out
        clear hok hwf hcn hK6 hec hF HEN HET HEF HPQR HWD hp hq hn1 hn2 hpr
        go_wp2_with fail
        refine (CH.out _ (Below.refl _ _)).mono ?_
        rintro e w8 ⟨rfl, hb8⟩
        have HB8 := Lib.hid (HB6.out.trans (hb8.mono HB6.out.size))
        have hz8 := hb8.size
        have r8 := (hb8.block _ hlt6).trans HR6.out
        clear x0 x1 x2 x3 x4
        obtain ⟨x0, x1, x2, x3, x4⟩ := cells5 r8
        by_cases hF0 : F = 0
        · have FIN := Lib.hid (epa_good (g := W.heap.size) (HBX.out _ HB8.out) (Nat.le_refl _) (HEC.out.trans hF0) (HENT.out hF0) (KidsS.carry (HK6.out.below hb8) (fun x hx => ⟨⟨by have := HWZ.out; have := hx.1; omega, hx.2, by have := HWZ.out; have := hx.1; omega⟩, rfl⟩)))
          have HZ := Lib.hid (s5_at (x := .int .i64 (n1 : Int)) (y := .int .i64 (n2 : Int)) (z := .int .i64 k) (u := .int .i64 m) (v := .slice va vn vc) (RX.out _ HB8.out))
          obtain ⟨y0, y1, y2, y3, y4⟩ := cells5 (RX.out _ HB8.out)
          obtain ⟨g0, g1, g2, g3, g4⟩ := free5 (RX.out _ HB8.out)
          subst hF0
          clear HENT HEC HK6 r8
          unfold s5 at FIN HZ
          go_wp2_with fail
          refine bodyPost_ret (res_cell_tmp (p := 2) (a := 3) (ty := 44) rfl _ _ _ 44 #[.int .i64 (n1 : Int), .int .i64 (n2 : Int), .int .i64 k, .int .i64 m, .slice va vn vc] (0, 0) _ (.int .i64 0) rfl rfl HZ.out Tryz.underlying44 rfl (by kernel_rfl)) rfl ?_
          exact FIN.out

        · have f0 : (F != 0) = true := by simp [bne, hF0]
          have HB88 := Lib.hid hb8
          clear HENT HK6 r8 hb8
          go_wp2_with fail
          refine (CH.out _ HB88.out).mono ?_
          rintro e w9 ⟨rfl, hb9⟩
          have HB9 := Lib.hid (HB8.out.trans (hb9.mono HB8.out.size))
          obtain ⟨FIN, HZ⟩ := HBAD.out F w9 HB9.out HEC.out hF0
          obtain ⟨y0, y1, y2, y3, y4⟩ := cells5 (RX.out _ HB9.out)
          obtain ⟨g0, g1, g2, g3, g4⟩ := free5 (RX.out _ HB9.out)
          clear HEC hb9 x0 x1 x2 x3 x4
          unfold s5 at FIN HZ
          go_wp2_with fail
          refine bodyPost_ret (res_cell_tmp (p := 2) (a := 3) (ty := 44) rfl _ _ _ 44 #[.int .i64 0, .int .i64 0, .int .i64 0, .int .i64 0, .slice none 0 0] (0, 0) _ (.int .i64 F) rfl rfl HZ.out Tryz.underlying44 rfl (by kernel_rfl)) rfl ?_
          exact FIN.out

end Go.Proofs.YtafmiilkdhdngaaGreatDoor
