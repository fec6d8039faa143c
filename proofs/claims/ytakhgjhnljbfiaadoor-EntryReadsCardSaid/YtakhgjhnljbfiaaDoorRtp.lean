/- Reference 23's Parse. -/
import Derived.Test.YtakhgjhnljbfiaaDoorRtw
namespace Go.Proofs.YtakhgjhnljbfiaaDoor
open Go.ChangeShapes Go.WideShapes Go.ChangeAt Go.RowKit
set_option linter.unusedVariables false
set_option linter.unusedSimpArgs false
set_option maxRecDepth 100000 in
set_option maxHeartbeats 16000000 in
theorem r23_parse (s : ByteArray) (hs5 : s.size ≤ 5000) (W : World) : Calls Tryd.prog 14 #[.string s] W (ParsOk s W) := by
  obtain ⟨w0, hw0, y0, y1, y2, hB0, hs0⟩ := box3 W 0 0 (.slice none 0 0) 24
  have r0 : w0.heap[W.heap.size]? = some (.cells #[.int .i64 0, .int .i64 0, .slice none 0 0] 24 (0, 0)) := by rw [hw0]; exact heap_alloc_new _ _
  have HW0 := Lib.hid hw0
  clear hw0
  by_cases hlong : 4096 < s.size
  · have d1 : decide ((s.size : Int) > 4096) = true := decide_eq_true (by omega)
    have d1' : decide (4096 < s.size) = true := decide_eq_true hlong
    obtain ⟨-, -, -, g0, g1, g2⟩ := bcells r0
    have HZ := Lib.hid (s3_at (x := .int .i64 0) (y := .int .i64 0) (z := .slice none 0 0) r0)
    have FIN := Lib.hid (pars_bad (b := W.heap.size) hB0 (Nat.le_refl _) (prs_long hlong) (by decide))
    unfold s3 at HZ FIN
    go_enter Tryd.func14, Tryd.ntmps14
    go_upto_region 2 with fail
    rw [← HW0.out]
    go_wp2_with fail
    refine bodyPost_ret (res_cell_tmp (p := 2) (a := 3) (ty := 24) rfl _ _ _ 24 #[.int .i64 0, .int .i64 0, .slice none 0 0] (0, 0) _ (.int .i64 12) rfl rfl HZ.out Tryd.underlying24 rfl (by kernel_rfl)) rfl ?_
    exact FIN.out
  · have d1 : decide ((s.size : Int) > 4096) = false := decide_eq_false (by omega)
    have d1' : decide (4096 < s.size) = false := decide_eq_false hlong
    have ND := r23_node s (by omega) (s.size + 1) 0 w0 (by omega) (Nat.zero_le _)
    have hNB : ∀ k m ks, NB s.data.toList = some ((k, m, ks), []) ↔ Tree s k m ks := fun k m ks => NB_what s.data.toList k m ks
    have HNB := Lib.hid hNB
    clear hNB
    go_enter Tryd.func14, Tryd.ntmps14
    go_wp2_with fail
    rw [← HW0.out]
    refine ND.mono ?_
    rintro e w3 ⟨hB3, hcase⟩
    rw [List.drop_zero] at hcase
    have hz3 := hB3.size
    have r3 := (hB3.block _ (by omega)).trans r0
    have HB3 := Lib.hid (hB0.trans (hB3.mono hB0.size))
    clear y0 y1 y2 ND hB3 r0 HW0 hB0
    rcases hcase with ⟨hn3, px, py, pa, pn, pc, rfl⟩ | ⟨k, m, ks, q, v, hn3, hq3, hq4, rfl, hK3⟩
    · have HP := prs_none (s := s) hlong (fun k m ks ht => by
        have := (HNB.out k m ks).2 ht
        rw [hn3] at this; cases this)
      obtain ⟨w4, hw4, x0, x1, x2, hB4, hs4⟩ := box3 w3 px py (.slice pa pn pc) 24
      have r4 := (hB4.block _ (by omega)).trans r3
      have HZ := Lib.hid (s3_at (x := .int .i64 0) (y := .int .i64 0) (z := .slice none 0 0) r4)
      have FIN := Lib.hid (pars_bad (b := W.heap.size) (HB3.out.trans (hB4.mono (by omega))) (Nat.le_refl _) HP (by decide))
      obtain ⟨y0, y1, y2, g0, g1, g2⟩ := bcells r4
      have e1 : ((-1 : Int) != (s.size : Int)) = true := by
        have h : ((-1 : Int) == (s.size : Int)) = false := by rw [beq_eq_false_iff_ne]; omega
        simp [bne, h]
      have HW4 := Lib.hid hw4
      clear r3 HB3 hB4 r4 hw4 HNB HP hn3
      unfold s3 at HZ FIN
      go_upto_region 4 with fail
      rw [← HW4.out]
      go_wp2_with fail
      refine bodyPost_ret (res_cell_tmp (p := 2) (a := 3) (ty := 24) rfl _ _ _ 24 #[.int .i64 0, .int .i64 0, .slice none 0 0] (0, 0) _ (.int .i64 10) rfl rfl HZ.out Tryd.underlying24 rfl (by kernel_rfl)) rfl ?_
      exact FIN.out
    · obtain ⟨va, vn, vc, rfl⟩ : ∃ a n c, v = .slice a n c := by
        obtain ⟨a, c, rfl, _⟩ := hK3
        exact ⟨_, _, _, rfl⟩
      obtain ⟨w4, hw4, x0, x1, x2, hB4, hs4⟩ := box3 w3 k m (.slice va vn vc) 24
      have r4 := (hB4.block _ (by omega)).trans r3
      have hK4 : KidsS w4 (fun b => w0.heap.size ≤ b ∧ b < w4.heap.size) (.slice va vn vc) ks := hK3.carry (fun b hb => ⟨⟨hb.1, by omega⟩, hB4.block b hb.2⟩)
      have HB4 := Lib.hid (HB3.out.trans (hB4.mono (by omega)))
      have HW4 := Lib.hid hw4
      clear r3 HB3 hB4 hw4 hK3
      by_cases hqe : q = s.size
      · have ht : Tree s k m ks := (HNB.out k m ks).1 (by rw [hn3, hqe, Lib.size_eq, List.drop_length])
        have hcn := tx_cntB ht.1
        rw [← ht.2, ← Lib.size_eq] at hcn
        have BG := r23_big ks (.slice va vn vc) k m w4.heap.size w4 (by omega) (hK4.to (fun b hb => hb.2)) (Nat.le_refl _)
        have dq : ((q : Int) != (s.size : Int)) = false := by simp [hqe]
        have dq' : (q != s.size) = false := by simp [hqe]
        have dq2 : (q == s.size) = true := by simp [hqe]
        have HT_ := Lib.hid ht
        have HK4 := Lib.hid hK4
        have HR4 := Lib.hid r4
        obtain ⟨y0, y1, y2, g0, g1, g2⟩ := bcells r4
        clear HNB hn3 ht hK4 hqe hcn
        by_cases hbg : bigT ks
        · rw [decide_eq_true hbg] at BG
          have HP := Lib.hid (prs_big hlong HT_.out hbg)
          clear hbg
          go_upto_region 4 with fail
          rw [← HW4.out]
          go_wp2_with fail
          refine BG.mono ?_
          rintro e w5 ⟨rfl, hB5⟩
          have r5 := (hB5.block _ (by omega)).trans HR4.out
          have HZ := Lib.hid (s3_at (x := .int .i64 0) (y := .int .i64 0) (z := .slice none 0 0) r5)
          have FIN := Lib.hid (pars_bad (b := W.heap.size) (HB4.out.trans (hB5.mono (by omega))) (Nat.le_refl _) HP.out (by decide))
          clear y0 y1 y2 g0 g1 g2 BG hB5 x0 x1 x2 r4
          obtain ⟨y0, y1, y2, g0, g1, g2⟩ := bcells r5
          clear r5
          unfold s3 at HZ FIN
          go_wp2_with fail
          refine bodyPost_ret (res_cell_tmp (p := 2) (a := 3) (ty := 24) rfl _ _ _ 24 #[.int .i64 0, .int .i64 0, .slice none 0 0] (0, 0) _ (.int .i64 12) rfl rfl HZ.out Tryd.underlying24 rfl (by kernel_rfl)) rfl ?_
          exact FIN.out
        · rw [decide_eq_false hbg] at BG
          have HBG := Lib.hid hbg
          clear hbg
          go_upto_region 4 with fail
          rw [← HW4.out]
          go_wp2_with fail
          refine BG.mono ?_
          rintro e w5 ⟨rfl, hB5⟩
          have hz5 := hB5.size
          have r5 := (hB5.block _ (by omega)).trans HR4.out
          have z0 := (hB5.cell (p := ⟨w3.heap.size, 0, none⟩) (show w3.heap.size < w4.heap.size by omega)).trans x0
          have z1 := (hB5.cell (p := ⟨w3.heap.size, 1, none⟩) (show w3.heap.size < w4.heap.size by omega)).trans x1
          have z2 := (hB5.cell (p := ⟨w3.heap.size, 2, none⟩) (show w3.heap.size < w4.heap.size by omega)).trans x2
          have HZ := Lib.hid (s3_at (x := .int .i64 k) (y := .int .i64 m) (z := .slice va vn vc) r5)
          have FIN := Lib.hid (pars_good (b := W.heap.size) (HB4.out.trans (hB5.mono (by omega))) (Nat.le_refl _) hlong HT_.out HBG.out (HK4.out.carry (fun b hb => ⟨⟨by omega, by omega⟩, hB5.block b hb.2⟩)))
          clear y0 y1 y2 g0 g1 g2 BG hB5 x0 x1 x2 r4
          obtain ⟨y0, y1, y2, g0, g1, g2⟩ := bcells r5
          clear r5
          unfold s3 at HZ FIN
          go_wp2_with fail
          refine bodyPost_ret (res_cell_tmp (p := 2) (a := 3) (ty := 24) rfl _ _ _ 24 #[.int .i64 k, .int .i64 m, .slice va vn vc] (0, 0) _ (.int .i64 0) rfl rfl HZ.out Tryd.underlying24 rfl (by kernel_rfl)) rfl ?_
          exact FIN.out
      · have HP := prs_none (s := s) hlong (fun k' m' ks' ht => by
          have := (HNB.out k' m' ks').2 ht
          rw [hn3] at this
          simp only [Option.some.injEq, Prod.mk.injEq] at this
          have h2 := this.2
          rw [List.drop_eq_nil_iff, ← Lib.size_eq] at h2
          omega)
        have dq : ((q : Int) != (s.size : Int)) = true := by simp [bne, beq_eq_false_iff_ne]; omega
        have dq' : (q != s.size) = true := by simp [bne, beq_eq_false_iff_ne]; omega
        have dq2 : (q == s.size) = false := by simp [hqe]
        have HZ := Lib.hid (s3_at (x := .int .i64 0) (y := .int .i64 0) (z := .slice none 0 0) r4)
        have FIN := Lib.hid (pars_bad (b := W.heap.size) HB4.out (Nat.le_refl _) HP (by decide))
        obtain ⟨y0, y1, y2, g0, g1, g2⟩ := bcells r4
        clear HNB HP hn3 hK4 r4
        unfold s3 at HZ FIN
        go_upto_region 4 with fail
        rw [← HW4.out]
        go_wp2_with fail
        refine bodyPost_ret (res_cell_tmp (p := 2) (a := 3) (ty := 24) rfl _ _ _ 24 #[.int .i64 0, .int .i64 0, .slice none 0 0] (0, 0) _ (.int .i64 10) rfl rfl HZ.out Tryd.underlying24 rfl (by kernel_rfl)) rfl ?_
        exact FIN.out
end Go.Proofs.YtakhgjhnljbfiaaDoor
