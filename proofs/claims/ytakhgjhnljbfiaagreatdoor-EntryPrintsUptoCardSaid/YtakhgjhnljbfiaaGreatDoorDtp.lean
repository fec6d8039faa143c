/- dtext.Parse: the tree whose text it is, or why there is none. -/
import Derived.Test.YtakhgjhnljbfiaaGreatDoorNodu
import Derived.BigRegion
import Derived.Deep.DeepCutAuto
namespace Go.Proofs.YtakhgjhnljbfiaaGreatDoor
open Go.ChangeShapes Go.WideShapes Go.ChangeAt Go.RowKit
set_option linter.unusedVariables false
set_option linter.unusedSimpArgs false
/-- A text is a tree's. -/
def Tree (s : ByteArray) (k m : Int) (ks : Fo) : Prop := (Fo.cons k m ks .nil).okT ∧ s.data.toList = txB (.cons k m ks .nil)
def bigT (ks : Fo) : Prop := 60 < ks.cnt + 1 ∨ 12 < ks.depth + 1
instance (ks : Fo) : Decidable (bigT ks) := by unfold bigT; infer_instance
theorem Tree.uniq {s : ByteArray} {k m k' m' : Int} {ks ks' : Fo} (h : Tree s k m ks) (h' : Tree s k' m' ks') : k = k' ∧ m = m' ∧ ks = ks' := txB_inj h.1 h'.1 (h.2.symm.trans h'.2)
open Classical in
/-- The error of a text. -/
noncomputable def prs (s : ByteArray) : Int := if 4096 < s.size then 12 else if ∃ k m ks, Tree s k m ks then (if ∃ k m ks, Tree s k m ks ∧ bigT ks then 12 else 0) else 10
theorem prs_long {s : ByteArray} (h : 4096 < s.size) : prs s = 12 := by unfold prs; rw [if_pos h]
theorem prs_none {s : ByteArray} (h : ¬ 4096 < s.size) (hn : ∀ k m ks, ¬ Tree s k m ks) : prs s = 10 := by
  unfold prs; rw [if_neg h, if_neg]
  rintro ⟨k, m, ks, ht⟩
  exact hn k m ks ht
theorem prs_big {s : ByteArray} {k m : Int} {ks : Fo} (h : ¬ 4096 < s.size) (ht : Tree s k m ks) (hb : bigT ks) : prs s = 12 := by
  unfold prs; rw [if_neg h, if_pos ⟨k, m, ks, ht⟩, if_pos ⟨k, m, ks, ht, hb⟩]
theorem prs_ok {s : ByteArray} {k m : Int} {ks : Fo} (h : ¬ 4096 < s.size) (ht : Tree s k m ks) (hb : ¬ bigT ks) : prs s = 0 := by
  unfold prs; rw [if_neg h, if_pos ⟨k, m, ks, ht⟩, if_neg]
  rintro ⟨k', m', ks', ht', hb'⟩
  obtain ⟨rfl, rfl, rfl⟩ := ht.uniq ht'
  exact hb hb'
/-- What Parse tells. -/
def ParsOk (s : ByteArray) (W : World) (e : Ending) (w' : World) : Prop := Below W.heap.size W w' ∧
  ((prs s ≠ 0 ∧ e = .returned (.tuple #[.agg #[.int .i64 0, .int .i64 0, .slice none 0 0], .int .i64 (prs s)])) ∨
    (prs s = 0 ∧ ∃ (k m : Int) (ks : Fo) (v : Value), Tree s k m ks ∧ s.size ≤ 4096 ∧ ¬ bigT ks ∧ Kids w' w'.heap.size v ks ∧ e = .returned (.tuple #[.agg #[.int .i64 k, .int .i64 m, v], .int .i64 0])))
theorem pars_bad {s : ByteArray} {W w : World} {b : Nat} {c : Int} (hB : Below W.heap.size W w) (hb : W.heap.size ≤ b) (hc : prs s = c) (h0 : c ≠ 0) : ParsOk s W (.returned (.tuple #[.agg #[.int .i64 0, .int .i64 0, .slice none 0 0], .int .i64 c])) (s3 w b (.int .i64 0) (.int .i64 0) (.slice none 0 0)) := by
  subst hc
  exact ⟨hB.trans (s3_below _ _ _ hb), .inl ⟨h0, rfl⟩⟩
theorem pars_good {s : ByteArray} {W w : World} {b : Nat} {k m : Int} {ks : Fo} {v : Value} (hB : Below W.heap.size W w) (hb : W.heap.size ≤ b) (hs : ¬ 4096 < s.size) (ht : Tree s k m ks) (hg : ¬ bigT ks) (hk : KidsS w (fun x => x < w.heap.size ∧ x ≠ b) v ks) : ParsOk s W (.returned (.tuple #[.agg #[.int .i64 k, .int .i64 m, v], .int .i64 0])) (s3 w b (.int .i64 k) (.int .i64 m) v) := by
  refine ⟨hB.trans (s3_below _ _ _ hb), .inr ⟨prs_ok hs ht hg, k, m, ks, v, ht, by omega, hg, ?_, rfl⟩⟩
  exact (hk.carry (w' := s3 w b (.int .i64 k) (.int .i64 m) v) (S' := fun x => x < w.heap.size) (fun x hx => ⟨hx.1, s3_other _ _ _ hx.2⟩)).to (fun x hx => by rw [s3_size]; exact hx)
theorem ext_len (s : ByteArray) (l : List (Int × Nat × Nat)) : (ext s l).length = l.length := by simp [ext]
theorem ext_small (s : ByteArray) (l : List (Int × Nat × Nat)) (h : s.size ≤ 4096) (i : Nat) : ((ext s l).getD i ⟨#[]⟩).size ≤ 5000 := by
  rw [List.getD]
  rcases hx : (ext s l)[i]? with _ | t
  · show (⟨#[]⟩ : ByteArray).size ≤ 5000
    simp [ByteArray.size]
  · have : t ∈ ext s l := List.mem_of_getElem? hx
    simp only [ext, List.mem_map] at this
    obtain ⟨x, _, rfl⟩ := this
    show (s.extract x.2.1 x.2.2).size ≤ 5000
    rw [ByteArray.size_extract]; omega
theorem rdr_start {w : World} {B : Nat} {v : Value} {l : List (Int × Nat × Nat)} {s : ByteArray} (ho : w.ownsRow B 128 3 v l.length (encT s l)) (hl : l.length ≤ 100000) :
    ∃ A c g, v = .slice A l.length c ∧ Rdr (w.alloc (.cells #[v, .int .i64 0] 104)) w.heap.size g A l.length c (ext s l) 0 := by
  have hn := heap_alloc_new w (.cells #[v, .int .i64 0] 104)
  rcases own_form ho with ⟨rfl, h0, -⟩ | ⟨g, c, rfl, -, hg2, -, -, hcell⟩
  · rw [h0]
    exact ⟨none, 0, w.heap.size + 1, rfl, ⟨hn, by rw [ext_len, h0], .inl rfl, fun j t hj => by
      rw [List.length_eq_zero_iff.1 h0] at hj; simp [ext] at hj, by omega, Nat.le_refl _, by omega, .inl rfl⟩⟩
  · refine ⟨_, c, g, rfl, ⟨hn, ext_len s l, .inr rfl, fun j t hj => ?_, by omega, Nat.zero_le _, hl, .inr (by simp; omega)⟩⟩
    have hj2 : j < l.length := by
      have := (List.getElem?_eq_some_iff.1 hj).1
      rw [ext_len] at this; exact this
    obtain ⟨k, a, b⟩ : Int × Nat × Nat := l[j]
    have hx : l[j]? = some l[j] := List.getElem?_eq_getElem hj2
    rcases hlj : l[j] with ⟨k', a', b'⟩
    rw [hlj] at hx
    have hc := (encT_at s l hx).2.1
    rw [Nat.mul_comm] at hc
    obtain ⟨u, h1, h2, _⟩ := hcell (j * 3 + 1) (by omega)
    rw [hc] at h1
    have e : t = s.extract a' b' := by
      simp only [ext, List.getElem?_map, hx, Option.map_some, Option.some.injEq] at hj
      exact hj.symm
    rw [World.cell?_of_block (a := ⟨g, j * 3 + 1, none⟩) (Below.heap_alloc w _ g hg2), h2, e]
    exact h1.symm
set_option maxRecDepth 100000 in
set_option maxHeartbeats 16000000 in
theorem d_parse (s : ByteArray) (W : World) : Calls Tryz.prog 35 #[.string s] W (ParsOk s W) := by
  obtain ⟨w0, hw0, y0, y1, y2, hB0, hs0⟩ := box3 W 0 0 (.slice none 0 0) 26
  have r0 : w0.heap[W.heap.size]? = some (.cells #[.int .i64 0, .int .i64 0, .slice none 0 0] 26 (0, 0)) := by rw [hw0]; exact heap_alloc_new _ _
  have HW0 := Lib.hid hw0
  clear hw0
  by_cases hlong : 4096 < s.size
  · have d1 : decide ((s.size : Int) > 4096) = true := decide_eq_true (by omega)
    have d1' : decide (4096 < s.size) = true := decide_eq_true hlong
    obtain ⟨-, -, -, g0, g1, g2⟩ := bcells r0
    have HZ := Lib.hid (s3_at (x := .int .i64 0) (y := .int .i64 0) (z := .slice none 0 0) r0)
    have FIN := Lib.hid (pars_bad (b := W.heap.size) hB0 (Nat.le_refl _) (prs_long hlong) (by decide))
    unfold s3 at HZ FIN
    go_enter Tryz.func35, Tryz.ntmps35
    go_upto_region 2 with fail
    rw [← HW0.out]
    go_wp2_with fail
    refine bodyPost_ret (res_cell_tmp (p := 2) (a := 3) (ty := 26) rfl _ _ _ 26 #[.int .i64 0, .int .i64 0, .slice none 0 0] (0, 0) _ (.int .i64 12) rfl rfl HZ.out Tryz.underlying26 rfl (by kernel_rfl)) rfl ?_
    exact FIN.out
  · have d1 : decide ((s.size : Int) > 4096) = false := decide_eq_false (by omega)
    have d1' : decide (4096 < s.size) = false := decide_eq_false hlong
    have TK := lex_tokens s (by omega) w0
    go_enter Tryz.func35, Tryz.ntmps35
    go_wp2_with fail
    rw [← HW0.out]
    refine TK.mono ?_
    rintro e w1 ⟨hB1, hcase⟩
    have r1 := (hB1.block _ (by omega)).trans r0
    have hz1 := hB1.size
    have HB1 := Lib.hid (hB0.trans (hB1.mono hB0.size))
    clear y0 y1 y2 TK hB1 r0 HW0 hB0
    rcases hcase with ⟨hn, rfl⟩ | ⟨l, v, hl, rfl, ho⟩
    · have HZ := Lib.hid (s3_at (x := .int .i64 0) (y := .int .i64 0) (z := .slice none 0 0) r1)
      have FIN := Lib.hid (pars_bad (b := W.heap.size) HB1.out (Nat.le_refl _) (prs_none hlong (fun k m ks ht => tk_none_tx hn k m ks ht)) (by decide))
      obtain ⟨y0, y1, y2, g0, g1, g2⟩ := bcells r1
      clear r1 HB1
      unfold s3 at HZ FIN
      go_wp2_with fail
      refine bodyPost_ret (res_cell_tmp (p := 2) (a := 3) (ty := 26) rfl _ _ _ 26 #[.int .i64 0, .int .i64 0, .slice none 0 0] (0, 0) _ (.int .i64 10) rfl rfl HZ.out Tryz.underlying26 rfl (by kernel_rfl)) rfl ?_
      exact FIN.out
    · have hll := (tk_len hl).1
      obtain ⟨A, c, g, rfl, hR2⟩ := rdr_start ho (by omega)
      obtain ⟨w2, hw2⟩ : ∃ w2, w1.alloc (.cells #[.slice A l.length c, .int .i64 0] 104) = w2 := ⟨_, rfl⟩
      rw [hw2] at hR2
      have hb2 : Below w1.heap.size w1 w2 := by rw [← hw2]; exact (Below.refl _ _).alloc (Nat.le_refl _) _
      have hs2 : w2.heap.size = w1.heap.size + 1 := by rw [← hw2]; simp
      have r2 := (hb2.block _ (by omega)).trans r1
      have HB2 := Lib.hid (HB1.out.trans (hb2.mono (by omega)))
      have ND := d_node w1.heap.size g A l.length c (ext s l) (ext_small s l (by omega)) (l.length + 1) 0 w2 (by omega) hR2
      obtain ⟨n, hn⟩ : ∃ n, l.length = n := ⟨_, rfl⟩
      have HNT := Lib.hid (fun k m ks => NT_what hl k m ks)
      have hel := ext_len s l
      rw [hn] at hw2 ND hel ⊢
      have HW2 := Lib.hid hw2
      clear hw2 hb2 r1 HB1 hR2 ho hn hll hl
      go_wp2_with fail
      rw [HW2.out]
      refine ND.mono ?_
      rintro e w3 ⟨hB3, hcase⟩
      have hz3 := hB3.z
      have r3 := (hB3.o _ (by omega) (by omega)).trans r2
      have HB3 := Lib.hid (HB2.out.trans (hB3.b W.heap.size (by omega) (by omega)))
      clear ND HW2 r2 HB2 hB3
      rw [List.drop_zero] at hcase
      rcases hcase with ⟨hn3, ⟨q, hR3⟩, rfl⟩ | ⟨k, m, ks, q, v, hn3, hq3, hR3, rfl, hK3⟩
      · have HP := prs_none (s := s) hlong (fun k m ks ht => by
          have := (HNT.out k m ks).2 ht
          rw [hn3] at this; cases this)
        obtain ⟨w4, hw4, x0, x1, x2, hB4, hs4⟩ := box3 w3 0 0 (.slice none 0 0) 26
        have r4 := (hB4.block _ (by omega)).trans r3
        have HZ := Lib.hid (s3_at (x := .int .i64 0) (y := .int .i64 0) (z := .slice none 0 0) r4)
        have FIN := Lib.hid (pars_bad (b := W.heap.size) (HB3.out.trans (hB4.mono (by omega))) (Nat.le_refl _) HP (by decide))
        obtain ⟨y0, y1, y2, g0, g1, g2⟩ := bcells r4
        have HW4 := Lib.hid hw4
        clear r3 HB3 hR3 hB4 r4 hw4 HNT HP hn3
        unfold s3 at HZ FIN
        go_upto_region 8 with fail
        rw [← HW4.out]
        go_wp2_with fail
        refine bodyPost_ret (res_cell_tmp (p := 2) (a := 3) (ty := 26) rfl _ _ _ 26 #[.int .i64 0, .int .i64 0, .slice none 0 0] (0, 0) _ (.int .i64 10) rfl rfl HZ.out Tryz.underlying26 rfl (by kernel_rfl)) rfl ?_
        exact FIN.out
      · obtain ⟨va, vn, vc, rfl⟩ : ∃ a n c, v = .slice a n c := by
          obtain ⟨a, c, rfl, _⟩ := hK3
          exact ⟨_, _, _, rfl⟩
        obtain ⟨w4, hw4, x0, x1, x2, hB4, hs4⟩ := box3 w3 k m (.slice va vn vc) 26
        have r4 := (hB4.block _ (by omega)).trans r3
        have hR4 := hR3.belowAll hB4
        have cat := hR4.c1
        have hK4 : KidsS w4 (fun b => w2.heap.size ≤ b ∧ b < w4.heap.size) (.slice va vn vc) ks := hK3.carry (fun b hb => ⟨⟨hb.1, by omega⟩, hB4.block b hb.2⟩)
        have HB4 := Lib.hid (HB3.out.trans (hB4.mono (by omega)))
        have HW4 := Lib.hid hw4
        have hqn := hR4.hm
        clear r3 HB3 hR3 hB4 hw4 hK3
        by_cases hqe : q = n
        · have ht : Tree s k m ks := (HNT.out k m ks).1 (by rw [hn3, hqe, ← hel, List.drop_length])
          have BG := bulk_big ks (.slice va vn vc) k m w4.heap.size w4 (hK4.to (fun b hb => hb.2)) (Nat.le_refl _)
          have dq : ((q : Int) != (n : Int)) = false := by simp [hqe]
          have dq' : (q != n) = false := by simp [hqe]
          have dq2 : (q == n) = true := by simp [hqe]
          have HT_ := Lib.hid ht
          have HK4 := Lib.hid hK4
          have HR4 := Lib.hid r4
          obtain ⟨y0, y1, y2, g0, g1, g2⟩ := bcells r4
          clear HNT hn3 ht hK4 hR4
          by_cases hbg : bigT ks
          · have hbg' : 60 < ks.cnt + 1 ∨ 12 < ks.depth + 1 := hbg
            rw [decide_eq_true hbg'] at BG
            have HP := Lib.hid (prs_big hlong HT_.out hbg)
            clear hbg hbg'
            go_upto_region 8 with fail
            rw [← HW4.out]
            go_wp2_with fail
            refine BG.mono ?_
            rintro e w5 ⟨rfl, hB5⟩
            have r5 := (hB5.block _ (by omega)).trans HR4.out
            have HZ := Lib.hid (s3_at (x := .int .i64 0) (y := .int .i64 0) (z := .slice none 0 0) r5)
            have FIN := Lib.hid (pars_bad (b := W.heap.size) (HB4.out.trans (hB5.mono (by omega))) (Nat.le_refl _) HP.out (by decide))
            clear y0 y1 y2 g0 g1 g2 BG hB5 x0 x1 x2
            obtain ⟨y0, y1, y2, g0, g1, g2⟩ := bcells r5
            clear r5
            unfold s3 at HZ FIN
            go_wp2_with fail
            refine bodyPost_ret (res_cell_tmp (p := 2) (a := 3) (ty := 26) rfl _ _ _ 26 #[.int .i64 0, .int .i64 0, .slice none 0 0] (0, 0) _ (.int .i64 12) rfl rfl HZ.out Tryz.underlying26 rfl (by kernel_rfl)) rfl ?_
            exact FIN.out
          · have hbg' : ¬ (60 < ks.cnt + 1 ∨ 12 < ks.depth + 1) := hbg
            rw [decide_eq_false hbg'] at BG
            have HBG := Lib.hid hbg
            clear hbg hbg'
            go_upto_region 8 with fail
            rw [← HW4.out]
            go_wp2_with fail
            refine BG.mono ?_
            rintro e w5 ⟨rfl, hB5⟩
            have hz5 := hB5.size
            have r5 := (hB5.block _ (by omega)).trans HR4.out
            have z0 := (hB5.cell (p := ⟨w3.heap.size, 0, none⟩) (show w3.heap.size < w4.heap.size by omega)).trans x0
            have z1 := (hB5.cell (p := ⟨w3.heap.size, 1, none⟩) (show w3.heap.size < w4.heap.size by omega)).trans x1
            have z2 := (hB5.cell (p := ⟨w3.heap.size, 2, none⟩) (show w3.heap.size < w4.heap.size by omega)).trans x2
            have HZ := Lib.hid (s3_at (x := .int .i64 k) (y := .int .i64 m) (z := .slice va vn vc) r5)
            have FIN := Lib.hid (pars_good (b := W.heap.size) (HB4.out.trans (hB5.mono (by omega))) (Nat.le_refl _) hlong HT_.out HBG.out (HK4.out.carry (fun b hb => ⟨⟨by omega, by omega⟩, hB5.block b hb.2⟩)))
            clear y0 y1 y2 g0 g1 g2 BG hB5 x0 x1 x2
            obtain ⟨y0, y1, y2, g0, g1, g2⟩ := bcells r5
            clear r5
            unfold s3 at HZ FIN
            go_wp2_with fail
            refine bodyPost_ret (res_cell_tmp (p := 2) (a := 3) (ty := 26) rfl _ _ _ 26 #[.int .i64 k, .int .i64 m, .slice va vn vc] (0, 0) _ (.int .i64 0) rfl rfl HZ.out Tryz.underlying26 rfl (by kernel_rfl)) rfl ?_
            exact FIN.out
        · have HP := prs_none (s := s) hlong (fun k' m' ks' ht => by
            have := (HNT.out k' m' ks').2 ht
            rw [hn3] at this
            simp only [Option.some.injEq, Prod.mk.injEq] at this
            have h2 := this.2
            rw [List.drop_eq_nil_iff, hel] at h2
            omega)
          have dq : ((q : Int) != (n : Int)) = true := by simp [bne, beq_eq_false_iff_ne]; omega
          have dq' : (q != n) = true := by simp [bne, beq_eq_false_iff_ne]; omega
          have dq2 : (q == n) = false := by simp [hqe]
          have HZ := Lib.hid (s3_at (x := .int .i64 0) (y := .int .i64 0) (z := .slice none 0 0) r4)
          have FIN := Lib.hid (pars_bad (b := W.heap.size) HB4.out (Nat.le_refl _) HP (by decide))
          obtain ⟨y0, y1, y2, g0, g1, g2⟩ := bcells r4
          clear HNT HP hn3 hR4 hK4 r4
          unfold s3 at HZ FIN
          go_upto_region 8 with fail
          rw [← HW4.out]
          go_wp2_with fail
          refine bodyPost_ret (res_cell_tmp (p := 2) (a := 3) (ty := 26) rfl _ _ _ 26 #[.int .i64 0, .int .i64 0, .slice none 0 0] (0, 0) _ (.int .i64 10) rfl rfl HZ.out Tryz.underlying26 rfl (by kernel_rfl)) rfl ?_
          exact FIN.out
end Go.Proofs.YtakhgjhnljbfiaaGreatDoor
