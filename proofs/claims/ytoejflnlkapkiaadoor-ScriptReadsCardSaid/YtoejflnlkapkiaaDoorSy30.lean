/- Put together by program (merge2.py): Stp Shm Sqm Shapd. -/
import Derived.HandedShaped
import Derived.Handed
import Derived.Shelf.Vars
import Derived.Test.YtoejflnlkapkiaaDoorSy1
import Derived.Test.YtoejflnlkapkiaaDoorSy6
import Derived.Test.YtoejflnlkapkiaaDoorSy8
import Derived.Test.YtoejflnlkapkiaaDoorSy20
import Derived.Test.YtoejflnlkapkiaaDoorSy29
/- Reference 42's Parse of any text: the walk. -/
namespace Go.Proofs.YtoejflnlkapkiaaDoor
open Go.ChangeShapes Go.WideShapes Go.ChangeAt Go.RowKit
set_option linter.unusedVariables false
set_option linter.unusedSimpArgs false
def RPOk (t : ByteArray) (W : World) (e : Ending) (w' : World) : Prop :=
  Below W.heap.size W w' ∧ match prsN t (t.size + 1) 0 0 Sc.zero with
    | .ok s => ∃ cv pp pk tp tk, e = .returned (.tuple #[.agg #[.int .i64 s.st, .int .i64 s.rm, cv, .slice pp s.ps.length pk, .slice tp s.ts.length tk], .int .i64 0]) ∧ RowCC w' cv s.cs ∧ RowI w' pp s.ps.length s.ps ∧ RowI w' tp s.ts.length s.ts
    | .error n => e = .returned (.tuple #[zeroSc, .int .i64 (n : Int)])
def PaB (W w : World) (s : Sc) : Prop := ∃ cv pv tv us ul L, ScT (W.heap.size + 2) w s cv pv tv us ul L ∧ w.heap[W.heap.size]? = some (.cells #[.int .i64 0, .int .i64 0, .slice none 0 0, .slice none 0 0, .slice none 0 0] 34 (0, 0)) ∧
  w.heap[W.heap.size + 1]? = some (.cells #[.int .i64 s.st, .int .i64 s.rm, cv, pv, tv] 34 (0, 0))
theorem PaB.below {W w w' : World} {s : Sc} (h : PaB W w s) (hb : Below w.heap.size w w') : PaB W w' s := by
  obtain ⟨cv, pv, tv, us, ul, L, h, h0, h1⟩ := h
  have := h.sz
  exact ⟨cv, pv, tv, us, ul, L, h.below hb, (hb.block _ (by omega)).trans h0, (hb.block _ (by omega)).trans h1⟩
theorem RPOk.err {t : ByteArray} {W w : World} {n : Nat} {x0 x1 x2 x3 x4 : Value} (h : prsN t (t.size + 1) 0 0 Sc.zero = .error n) (hb : Below W.heap.size W w) :
    RPOk t W (.returned (.tuple #[zeroSc, .int .i64 (n : Int)])) (((((w.setCell ⟨W.heap.size, 0, none⟩ x0).setCell ⟨W.heap.size, 1, none⟩ x1).setCell ⟨W.heap.size, 2, none⟩ x2).setCell ⟨W.heap.size, 3, none⟩ x3).setCell ⟨W.heap.size, 4, none⟩ x4) :=
  ⟨s5_below hb (Nat.le_refl _), by rw [h]⟩
theorem RPOk.good {t : ByteArray} {W w : World} {s : Sc} {cv : Value} {pp tp : Option Addr} {pk tk : Nat} {us : List Value} {ul : Value} {L : List (Cl × Value)} {x0 x1 x2 x3 x4 : Value} (h : prsN t (t.size + 1) 0 0 Sc.zero = .ok s) (hb : Below W.heap.size W w)
    (hS : ScT (W.heap.size + 2) w s cv (.slice pp s.ps.length pk) (.slice tp s.ts.length tk) us ul L) :
    RPOk t W (.returned (.tuple #[.agg #[.int .i64 s.st, .int .i64 s.rm, cv, .slice pp s.ps.length pk, .slice tp s.ts.length tk], .int .i64 0])) (((((w.setCell ⟨W.heap.size, 0, none⟩ x0).setCell ⟨W.heap.size, 1, none⟩ x1).setCell ⟨W.heap.size, 2, none⟩ x2).setCell ⟨W.heap.size, 3, none⟩ x3).setCell ⟨W.heap.size, 4, none⟩ x4) := by
  have hn : ¬ (W.heap.size + 2 ≤ W.heap.size) := by omega
  have he : Ex (fun t => W.heap.size + 2 ≤ t) w (((((w.setCell ⟨W.heap.size, 0, none⟩ x0).setCell ⟨W.heap.size, 1, none⟩ x1).setCell ⟨W.heap.size, 2, none⟩ x2).setCell ⟨W.heap.size, 3, none⟩ x3).setCell ⟨W.heap.size, 4, none⟩ x4) :=
    ((((Ex.set hn).trans (Ex.set hn)).trans (Ex.set hn)).trans (Ex.set hn)).trans (Ex.set hn)
  have hk : Ex (KS (W.heap.size + 2) cv ul) w _ := he.mono (fun _ _ h => h.1)
  obtain ⟨p1, k1, e1, h1, -⟩ := hS.p.keep hk
  obtain ⟨p2, k2, e2, h2, -⟩ := hS.t.keep hk
  simp only [Value.slice.injEq] at e1 e2
  obtain ⟨rfl, -, -⟩ := e1
  obtain ⟨rfl, -, -⟩ := e2
  exact ⟨s5_below hb (Nat.le_refl _), by rw [h]; exact ⟨_, _, _, _, _, rfl, (hS.m.keep he).rowCC, h1, h2⟩⟩
theorem parse_ret {fn : Func} {p q : Tmp} (h : fn.results = #[.cell p 34, .tmp q]) (a : Act) (w : World) (g : Nat) (x0 x1 x2 x3 x4 x : Value) (hp : a.tmps.getD p undef = .pointer (some ⟨g, 0, none⟩)) (hq : a.tmps.getD q undef = x) (hd : a.defers = [])
    (hg : w.heap[g]? = some (.cells #[x0, x1, x2, x3, x4] 34 (0, 0))) {Q : Ending → World → Prop} (hQ : Q (.returned (.tuple #[.agg #[x0, x1, x2, x3, x4], x])) w) :
    bodyPost Tryd.prog fn Q .ret a w :=
  bodyPost_ret (sc_res2 h _ _ g 34 _ (0, 0) _ _ hp hq hg Tryd.underlying34 rfl (by kernel_rfl)) hd hQ
theorem nof_end (t : ByteArray) : Nof t (t.size : Int) := .inr (fun j h1 h2 => by omega)
theorem PaB.set {W w : World} {s s' : Sc} {cv pv tv cv' pv' tv' : Value} {us' : List Value} {ul' : Value} {L' : List (Cl × Value)} (h : ScT (W.heap.size + 2) w s' cv' pv' tv' us' ul' L')
    (h0 : w.heap[W.heap.size]? = some (.cells #[.int .i64 0, .int .i64 0, .slice none 0 0, .slice none 0 0, .slice none 0 0] 34 (0, 0))) (h1 : w.heap[W.heap.size + 1]? = some (.cells #[.int .i64 s.st, .int .i64 s.rm, cv, pv, tv] 34 (0, 0))) (o : Obj) :
    PaB W ((((((w.alloc o).setCell ⟨W.heap.size + 1, 0, none⟩ (.int .i64 s'.st)).setCell ⟨W.heap.size + 1, 1, none⟩ (.int .i64 s'.rm)).setCell ⟨W.heap.size + 1, 2, none⟩ cv').setCell ⟨W.heap.size + 1, 3, none⟩ pv').setCell ⟨W.heap.size + 1, 4, none⟩ tv') s' := by
  have hsz := h.sz
  have hb : Below w.heap.size w (w.alloc o) := (Below.refl _ _).alloc (Nat.le_refl _) _
  have hn : ¬ (W.heap.size + 2 ≤ W.heap.size + 1) := by omega
  refine ⟨cv', pv', tv', us', ul', L', (h.below hb).keep (((((Ex.set hn).trans (Ex.set hn)).trans (Ex.set hn)).trans (Ex.set hn)).trans (Ex.set hn)), ?_, s5_row ((hb.block _ (by omega)).trans h1)⟩
  have hne : W.heap.size ≠ W.heap.size + 1 := by omega
  rw [heap_setCell_other _ _ _ _ hne, heap_setCell_other _ _ _ _ hne, heap_setCell_other _ _ _ _ hne, heap_setCell_other _ _ _ _ hne, heap_setCell_other _ _ _ _ hne]
  exact (hb.block _ (by omega)).trans h0
set_option maxRecDepth 100000 in
set_option maxHeartbeats 16000000 in
theorem r42_parse (t : ByteArray) (ht : t.size ≤ 800000) (W : World) : Calls Tryd.prog 15 #[.string t] W (RPOk t W) := by
  obtain ⟨w0, hw0, r0, hB0, hs0⟩ := boxG W #[.int .i64 0, .int .i64 0, .slice none 0 0, .slice none 0 0, .slice none 0 0] 34
  obtain ⟨w1, hw1, r1, hB1, hs1⟩ := boxG w0 #[.int .i64 0, .int .i64 0, .slice none 0 0, .slice none 0 0, .slice none 0 0] 34
  rw [hs0] at r1
  have HS0 := Lib.hid (show PaB W w1 Sc.zero from ⟨_, _, _, _, _, _, ⟨by omega, ScM.nil _ _, PK.nil _ _, PK.nil _ _, ⟨⟨by decide, by decide⟩, ⟨by decide, by decide⟩⟩⟩, (hB1.block _ (by omega)).trans r0, r1⟩)
  have HB0 := Lib.hid (hB0.trans (hB1.mono hB0.size))
  have HTS := Lib.hid ht
  obtain ⟨F, hF⟩ : ∃ F, t.size + 1 = F := ⟨_, rfl⟩
  obtain ⟨R, hR⟩ : ∃ R, prsN t (t.size + 1) 0 0 Sc.zero = R := ⟨_, rfl⟩
  have HF := Lib.hid hF
  have HR := Lib.hid hR
  have HP0 := Lib.hid (show prsN t (F - 0) 0 0 Sc.zero = R by rw [← hF]; exact hR)
  clear r0 r1 hB0 hB1 ht hF hR
  go_enter Tryd.func15, Tryd.ntmps15
  go_wp2_with fail
  clear hw0 hw1 hs0 hs1
  go_loopw [3, 5, 6, 7, 8, 9, 10, 11, 12, 13] (fun _ ln j _ _ _ _ _ _ _ wr => ∃ (n a : Nat) (s : Sc), ln = .int .i64 n ∧ j = .int .i64 a ∧ Hid (a ≤ t.size ∧ n ≤ a) ∧ Hid (prsN t (F - n) n a s = R) ∧ Hid (PaB W wr s) ∧ Hid (SzN n s) ∧ Hid (Below W.heap.size W wr)) (fun _ _ j _ _ _ _ _ _ _ _ => t.size + 1 - (intOf j).toNat)
  case atStart => exact ⟨0, 0, Sc.zero, rfl, rfl, Lib.hid ⟨Nat.zero_le _, Nat.le_refl _⟩, HP0, HS0, Lib.hid ⟨Nat.le_refl _, fun l hl => (by cases hl)⟩, HB0⟩
  case round =>
    obtain ⟨n, a, s, rfl, rfl, HA, HP, HS, HZ, HB⟩ := hrel
    obtain ⟨x1, rfl⟩ : ∃ w, w = wr := ⟨_, rfl⟩
    have HFF := Lib.hid (show F - n = (t.size - n) + 1 by have h1 := HA.out; have h2 := HF.out; omega)
    have WN := Lib.hid (show wrap64 ((n : Int) + 1) = ((n + 1 : Nat) : Int) by have h1 := HA.out; have h2 := HTS.out; simp only [wrap64]; omega)
    by_cases hlt : a < t.size
    · have hc1 : decide (a < t.size) = true := decide_eq_true hlt
      have hc2 : decide ((a : Int) < (t.size : Int)) = true := decide_eq_true (by omega)
      have HEND := Lib.hid (show ¬ (a = t.size ∧ 3 ≤ n) from fun h => by omega)
      have LN := Lib.hid (ref_line t (by have := HTS.out; omega) (a : Int) (by have h1 := HA.out; have h2 := HTS.out; omega) x1)
      clear hlt
      go_wp2_with fail
      refine LN.out.mono ?_
      rintro e x1' ⟨rfl, hln⟩
      rcases hln with ⟨hnof, rfl⟩ | ⟨i, hfst, rfl⟩
      · have HFIN := Lib.hid (show prsN t (t.size + 1) 0 0 Sc.zero = .error (n + 1) by
          rw [HR.out, ← HP.out, HFF.out, prsN_line HEND.out (lineN_nof hnof)])
        have WD := Lib.hid (ref_words ⟨#[]⟩ (by decide) x1)
        clear hnof
        go_wp2_with fail
        refine WD.out.mono ?_
        rintro e x2 ⟨hb2, hwd⟩
        have HB2 := Lib.hid (HB.out.trans (hb2.mono HB.out.size))
        have HS2 := Lib.hid (HS.out.below hb2)
        clear hb2
        obtain ⟨cv, pv, tv, us, ul, L, hS, h0, h1⟩ := HS2.out
        obtain ⟨m0, m1, m2, m3, m4⟩ := sc_cells5 h0
        obtain ⟨f0, f1, f2, f3, f4⟩ := frz5 h0
        have HR0 := Lib.hid h0
        clear hS h0 h1
        rcases hwd with ⟨-, rfl⟩ | ⟨l, v, -, rfl, -⟩
        all_goals
          go_wp2_with fail
          refine parse_ret rfl _ _ W.heap.size (.int .i64 0) (.int .i64 0) (.slice none 0 0) (.slice none 0 0) (.slice none 0 0) (.int .i64 (wrap64 ((n : Int) + 1))) rfl rfl rfl (s5_row HR0.out) ?_
          rw [WN.out]
          exact RPOk.err HFIN.out HB2.out
      · obtain ⟨ln, hlne⟩ : ∃ ln, t.extract (a : Int).toNat i = ln := ⟨_, rfl⟩
        have hlsz : ln.size ≤ t.size := by rw [← hlne, ByteArray.size_extract]; omega
        have WD := Lib.hid (ref_words ln (by have := HTS.out; omega) x1)
        have HI := Lib.hid (show a ≤ i ∧ i < t.size from ⟨by have := hfst.2.1; omega, hfst.2.2.1⟩)
        have HFST := Lib.hid hfst
        have HLE := Lib.hid (show t.extract a i = ln by rw [← hlne, Int.toNat_natCast])
        have HLSZ := Lib.hid hlsz
        rw [hlne]
        clear hfst hlne hlsz
        go_wp2_with fail
        refine WD.out.mono ?_
        rintro e x2 ⟨hb2, hwd⟩
        have HB2 := Lib.hid (HB.out.trans (hb2.mono HB.out.size))
        have HS2 := Lib.hid (HS.out.below hb2)
        clear hb2
        rcases hwd with ⟨hw, rfl⟩ | ⟨l, v, hw, rfl, ho⟩
        · have HFIN := Lib.hid (show prsN t (t.size + 1) 0 0 Sc.zero = .error (n + 1) by
            rw [HR.out, ← HP.out, HFF.out, prsN_line HEND.out (lineN_bad HFST.out (by rw [HLE.out]; exact hw))])
          obtain ⟨cv, pv, tv, us, ul, L, hS, h0, h1⟩ := HS2.out
          obtain ⟨m0, m1, m2, m3, m4⟩ := sc_cells5 h0
          obtain ⟨f0, f1, f2, f3, f4⟩ := frz5 h0
          have HR0 := Lib.hid h0
          clear hS h0 h1 hw
          go_wp2_with fail
          refine parse_ret rfl _ _ W.heap.size (.int .i64 0) (.int .i64 0) (.slice none 0 0) (.slice none 0 0) (.slice none 0 0) (.int .i64 (wrap64 ((n : Int) + 1))) rfl rfl rfl (s5_row HR0.out) ?_
          rw [WN.out]
          exact RPOk.err HFIN.out HB2.out
        · obtain ⟨vp, vk, hv⟩ : ∃ vp vk, v = .slice vp l.length vk := by
            rcases own_form ho with ⟨rfl, h0, -⟩ | ⟨g', c', rfl, -⟩
            · exact ⟨none, 0, by rw [h0]⟩
            · exact ⟨_, _, rfl⟩
          subst hv
          by_cases hl0 : l = []
          · have HFIN := Lib.hid (show prsN t (t.size + 1) 0 0 Sc.zero = .error (n + 1) by
              rw [HR.out, ← HP.out, HFF.out, prsN_line HEND.out (by rw [lineN_wds HFST.out (by rw [HLE.out]; exact hw), hl0]; rfl)])
            subst hl0
            obtain ⟨cv, pv, tv, us, ul, L, hS, h0, h1⟩ := HS2.out
            obtain ⟨m0, m1, m2, m3, m4⟩ := sc_cells5 h0
            obtain ⟨f0, f1, f2, f3, f4⟩ := frz5 h0
            have HR0 := Lib.hid h0
            clear hS h0 h1 hw ho
            go_wp2_with fail
            refine parse_ret rfl _ _ W.heap.size (.int .i64 0) (.int .i64 0) (.slice none 0 0) (.slice none 0 0) (.slice none 0 0) (.int .i64 (wrap64 ((n : Int) + 1))) rfl rfl rfl (s5_row HR0.out) ?_
            rw [WN.out]
            exact RPOk.err HFIN.out HB2.out
          · have hpos := List.length_pos_iff.2 hl0
            have hd : ((l.length : Int) == 0) = false := by simp; exact hl0
            have hd' : (l.length == 0) = false := by simp; exact hl0
            have HLN := Lib.hid (show lineN t a = some (l, i + 1) by rw [lineN_wds HFST.out (by rw [HLE.out]; exact hw)]; cases l with | nil => exact absurd rfl hl0 | cons w ws => rfl)
            obtain ⟨cv, pv, tv, us, ul, L, hS, h0, h1⟩ := HS2.out
            have TK := Lib.hid (r42_take (W.heap.size + 2) s cv pv tv us ul L n (.slice vp l.length vk) l hl0 x2 hS (rowS_own ho) (by have h1 := (wds_len hw).1; have h2 := HTS.out; have h3 := HLSZ.out; have h4 : ln.data.toList.length = ln.size := rfl; omega)
              (fun z hz => by have h1 := (wds_len hw).2 z hz; have h2 := HTS.out; have h3 := HLSZ.out; have h4 : ln.data.toList.length = ln.size := rfl; omega) ⟨Nat.le_trans HZ.out.1 (by have h1 := HA.out; have h2 := HTS.out; omega), fun z hz => Nat.le_trans (HZ.out.2 z hz) (by have h1 := HA.out; have h2 := HTS.out; omega)⟩)
            obtain ⟨pc, kc, hcv⟩ : ∃ pc kc, cv = .slice pc s.cs.length kc := by
              rcases own_form hS.m.own with ⟨rfl, h0, -⟩ | ⟨g', c', rfl, -⟩
              · exact ⟨none, 0, by rw [h0]⟩
              · exact ⟨_, _, rfl⟩
            subst hcv
            obtain ⟨pp, pk, rfl, -, -⟩ := hS.p
            obtain ⟨tp, tk, rfl, -, -⟩ := hS.t
            obtain ⟨m0, m1, m2, m3, m4⟩ := sc_cells5 h1
            obtain ⟨f0, f1, f2, f3, f4⟩ := frz5 h1
            have HR0 := Lib.hid h0
            have HR1 := Lib.hid h1
            have HSZ2 := Lib.hid hS.sz
            clear hS h0 h1 hw ho hpos hl0
            go_wp2_with fail
            refine TK.out.mono ?_
            rintro e x3 ⟨had, hb3⟩
            have HB3 := Lib.hid hb3
            have HBB := Lib.hid (HB2.out.trans (hb3.mono (by omega)))
            have HQ0 := Lib.hid ((hb3.block W.heap.size (by omega)).trans HR0.out)
            have HQ1 := Lib.hid ((hb3.block (W.heap.size + 1) (by omega)).trans HR1.out)
            clear hb3 m0 m1 m2 m3 m4 f0 f1 f2 f3 f4
            rcases had with ⟨s', cv', pv', tv', us', ul', L', hs', rfl, hS'⟩ | ⟨hs', s', p2, n2, k2, p3, n3, k3, p4, n4, k4, rfl⟩
            · obtain ⟨pc', kc', hcv⟩ : ∃ pc kc, cv' = .slice pc s'.cs.length kc := by
                rcases own_form hS'.m.own with ⟨rfl, h0, -⟩ | ⟨g', c', rfl, -⟩
                · exact ⟨none, 0, by rw [h0]⟩
                · exact ⟨_, _, rfl⟩
              subst hcv
              obtain ⟨pp', pk', rfl, -, -⟩ := hS'.p
              obtain ⟨tp', tk', rfl, -, -⟩ := hS'.t
              have HS3 := Lib.hid hS'
              have HZ3 := Lib.hid (HZ.out.step hs')
              have HP3 := Lib.hid (show prsN t (F - (n + 1)) (n + 1) (i + 1) s' = R by
                have e : F - (n + 1) = t.size - n := by have := HF.out; omega
                rw [e, ← HP.out, HFF.out, prsN_step HEND.out HLN.out hs'])
              have HPA := Lib.hid (PaB.set HS3.out HQ0.out HQ1.out (.cells #[.int .i64 s'.st, .int .i64 s'.rm, .slice pc' s'.cs.length kc', .slice pp' s'.ps.length pk', .slice tp' s'.ts.length tk'] 34))
              have HBF := Lib.hid (s5_below (b := W.heap.size + 1) (a0 := .int .i64 s'.st) (a1 := .int .i64 s'.rm) (a2 := .slice pc' s'.cs.length kc') (a3 := .slice pp' s'.ps.length pk') (a4 := .slice tp' s'.ts.length tk') (HBB.out.alloc HBB.out.size (.cells #[.int .i64 s'.st, .int .i64 s'.rm, .slice pc' s'.cs.length kc', .slice pp' s'.ps.length pk', .slice tp' s'.ts.length tk'] 34)) (by omega))
              obtain ⟨x4, hx4, r4, hb4, hs4⟩ := boxG x3 #[.int .i64 s'.st, .int .i64 s'.rm, .slice pc' s'.cs.length kc', .slice pp' s'.ps.length pk', .slice tp' s'.ts.length tk'] 34
              rw [hx4] at HPA HBF
              obtain ⟨m0, m1, m2, m3, m4⟩ := sc_cells5 r4
              have hq1 := (hb4.block _ (World.block_lt_of_cell? _ _ (sc_cells5 HQ1.out).1)).trans HQ1.out
              obtain ⟨c0, c1, c2, c3, c4⟩ := sc_cells5 hq1
              obtain ⟨f0, f1, f2, f3, f4⟩ := frz5 hq1
              clear hS' hs' r4 hb4 hs4 hq1
              unfold scV
              go_wp2_with fail
              go_roundw
              case rel => exact ⟨n + 1, i + 1, s', by first | rw [WN.out] | simp, by simp, Lib.hid (by have h1 := HI.out; have h2 := HA.out; omega), HP3, HPA, HZ3, HBF⟩
              case measure => have h1 := HI.out; have h2 := HA.out; simp only [intOf]; omega
            · have HFIN := Lib.hid (show prsN t (t.size + 1) 0 0 Sc.zero = .error (n + 1) by
                rw [HR.out, ← HP.out, HFF.out, prsN_bad HEND.out HLN.out hs'])
              obtain ⟨x4, hx4, r4, hb4, hs4⟩ := boxG x3 #[.int .i64 s'.st, .int .i64 s'.rm, .slice p2 n2 k2, .slice p3 n3 k3, .slice p4 n4 k4] 34
              have h0 := (hb4.block _ (World.block_lt_of_cell? _ _ (sc_cells5 HQ0.out).1)).trans HQ0.out
              obtain ⟨m0, m1, m2, m3, m4⟩ := sc_cells5 h0
              obtain ⟨f0, f1, f2, f3, f4⟩ := frz5 h0
              have HR4 := Lib.hid h0
              have HB4 := Lib.hid (HBB.out.trans (hb4.mono HBB.out.size))
              clear h0 hs' r4 hb4 hs4
              unfold scV
              go_wp2_with fail
              refine parse_ret rfl _ _ W.heap.size (.int .i64 0) (.int .i64 0) (.slice none 0 0) (.slice none 0 0) (.slice none 0 0) (.int .i64 (wrap64 ((n : Int) + 1))) rfl rfl rfl (s5_row HR4.out) ?_
              rw [WN.out]
              exact RPOk.err HFIN.out HB4.out
    · have hae : a = t.size := by have := HA.out; omega
      subst hae
      have hc1 : decide ((t.size : Int) < (t.size : Int)) = false := decide_eq_false (by omega)
      by_cases hn3 : n < 3
      · have HFIN := Lib.hid (show prsN t (t.size + 1) 0 0 Sc.zero = .error (n + 1) by
          rw [HR.out, ← HP.out, HFF.out, prsN_line (by omega) (lineN_nof (nof_end t))])
        have hd : decide ((n : Int) < 3) = true := decide_eq_true (by omega)
        have hd' : decide (n < 3) = true := decide_eq_true hn3
        obtain ⟨cv, pv, tv, us, ul, L, hS, h0, h1⟩ := HS.out
        obtain ⟨m0, m1, m2, m3, m4⟩ := sc_cells5 h0
        obtain ⟨f0, f1, f2, f3, f4⟩ := frz5 h0
        have HR0 := Lib.hid h0
        clear hS h0 h1 hlt hn3
        go_wp2_with fail
        refine parse_ret rfl _ _ W.heap.size (.int .i64 0) (.int .i64 0) (.slice none 0 0) (.slice none 0 0) (.slice none 0 0) (.int .i64 (wrap64 ((n : Int) + 1))) rfl rfl rfl (s5_row HR0.out) ?_
        rw [WN.out]
        exact RPOk.err HFIN.out HB.out
      · have HFIN := Lib.hid (show R = .ok s by
          have h := HP.out
          rw [HFF.out, prsN_end rfl (by omega)] at h
          exact h.symm)
        have hd : decide ((n : Int) < 3) = false := decide_eq_false (by omega)
        have hd' : decide (n < 3) = false := decide_eq_false hn3
        obtain ⟨cv, pv, tv, us, ul, L, hS, h0, h1⟩ := HS.out
        obtain ⟨pc, kc, hcv⟩ : ∃ pc kc, cv = .slice pc s.cs.length kc := by
          rcases own_form hS.m.own with ⟨rfl, h0, -⟩ | ⟨g', c', rfl, -⟩
          · exact ⟨none, 0, by rw [h0]⟩
          · exact ⟨_, _, rfl⟩
        subst hcv
        obtain ⟨pp, pk, rfl, -, -⟩ := hS.p
        obtain ⟨tp, tk, rfl, -, -⟩ := hS.t
        obtain ⟨m0, m1, m2, m3, m4⟩ := sc_cells5 h0
        obtain ⟨f0, f1, f2, f3, f4⟩ := frz5 h0
        obtain ⟨c0, c1, c2, c3, c4⟩ := sc_cells5 h1
        have HR0 := Lib.hid h0
        have HSS := Lib.hid hS
        clear hS h0 h1 hlt hn3
        go_wp2_with fail
        refine parse_ret rfl _ _ W.heap.size (.int .i64 s.st) (.int .i64 s.rm) (.slice pc s.cs.length kc) (.slice pp s.ps.length pk) (.slice tp s.ts.length tk) (.int .i64 0) rfl rfl rfl (s5_row HR0.out) ?_
        exact RPOk.good (HR.out.trans HFIN.out) HB.out HSS.out
end Go.Proofs.YtoejflnlkapkiaaDoor
/- script.Print of a call that is of no kind. -/
namespace Go.Proofs.YtoejflnlkapkiaaDoor
open Go.ChangeShapes Go.WideShapes Go.ChangeAt Go.RowKit
set_option linter.unusedVariables false
set_option linter.unusedSimpArgs false
set_option maxRecDepth 100000 in
set_option maxHeartbeats 16000000 in
theorem sc_print_none (st rm : Int) (cv : Value) (cs : List (List Cl)) (pp : Option Addr) (pn pk : Nat) (tp : Option Addr) (tn tk : Nat) (W : World)
    (hC : RowCC W cv cs) (hcl : cs.length ≤ 1000000) (hcc : ∀ l ∈ cs, l.length ≤ 1000000)
    (hk : ∃ l ∈ cs, ∃ c ∈ l, (wdK c.kd).data.toList = []) :
    Calls Tryd.prog 9 #[.agg #[.int .i64 st, .int .i64 rm, cv, .slice pp pn pk, .slice tp tn tk]] W fun e w' => e = .returned (.tuple #[.string ⟨#[]⟩, .int .i64 2]) ∧ Below W.heap.size W w' := by
  obtain ⟨cp, cc, rfl, -⟩ := id hC
  obtain ⟨w0, hw0, r0, hB0, hs0⟩ := boxG W #[.int .i64 st, .int .i64 rm, .slice cp cs.length cc, .slice pp pn pk, .slice tp tn tk] 25
  have HR0 := Lib.hid r0
  have HC := Lib.hid (hC.below hB0)
  have HB0 := Lib.hid hB0
  have HS0 := Lib.hid hs0
  have HK := Lib.hid hk
  have HN := Lib.hid (And.intro hcl hcl)
  have HCC := Lib.hid hcc
  have c0 : w0.cell? ⟨W.heap.size, 0, none⟩ = some (.int .i64 st) := by rw [cell_of_row _ _ _ _ _ _ r0]; rfl
  have c1 : w0.cell? ⟨W.heap.size, 1, none⟩ = some (.int .i64 rm) := by rw [cell_of_row _ _ _ _ _ _ r0]; rfl
  have c2 : w0.cell? ⟨W.heap.size, 2, none⟩ = some (.slice cp cs.length cc) := by rw [cell_of_row _ _ _ _ _ _ r0]; rfl
  have c3 : w0.cell? ⟨W.heap.size, 3, none⟩ = some (.slice pp pn pk) := by rw [cell_of_row _ _ _ _ _ _ r0]; rfl
  have c4 : w0.cell? ⟨W.heap.size, 4, none⟩ = some (.slice tp tn tk) := by rw [cell_of_row _ _ _ _ _ _ r0]; rfl
  have HC0 := Lib.hid c0
  have HC1 := Lib.hid c1
  have HC2 := Lib.hid c2
  have HC3 := Lib.hid c3
  have HC4 := Lib.hid c4
  have WDK := Lib.hid (fun (k : Int) (w : World) => sc_word k w)
  clear c0 c1 c3 c4 hC hk hcl hcc r0 hB0 hs0
  go_enter Tryd.func9, Tryd.ntmps9
  go_wp2_with fail
  go_loopw [5, 7, 16, 22] (fun _ _ x _ wr => ∃ i : Nat, x = .int .i64 i ∧ Hid (i ≤ cs.length) ∧ Hid (∀ l ∈ cs.take i, ∀ c ∈ l, (wdK c.kd).data.toList ≠ []) ∧ Hid (Below w0.heap.size w0 wr)) (fun _ _ x _ _ => cs.length - (intOf x).toNat)
  case atStart => exact ⟨0, rfl, Lib.hid (Nat.zero_le _), Lib.hid (by intro l hl; simp at hl), Lib.hid (Below.refl _ _)⟩
  case round =>
    obtain ⟨i, rfl, HI, HALL, HB⟩ := hrel
    obtain ⟨x1, rfl⟩ : ∃ w, w = wr := ⟨_, rfl⟩
    by_cases hi : i < cs.length
    · obtain ⟨l, hl⟩ : ∃ l, cs[i]? = some l := ⟨_, List.getElem?_eq_getElem hi⟩
      have hBx : Below w0.heap.size w0 x1 := HB.out
      obtain ⟨p', c', he, hx⟩ := HC.out
      simp only [Value.slice.injEq] at he
      obtain ⟨rfl, -, rfl⟩ := he
      rcases hx with hx | ⟨b, o, rfl, hb, hx⟩
      · rw [hx] at hi; cases hi
      obtain ⟨u, hu0, hrow⟩ := hx i l hl
      have hu : x1.cell? ⟨b, o + i, none⟩ = some u := (hBx.cell (p := ⟨b, o + i, none⟩) hb).trans hu0
      obtain ⟨up, uc, rfl, -⟩ := id hrow
      have HROW := Lib.hid hrow
      have HL := Lib.hid hl
      have HIL := Lib.hid hi
      have hii : (i : Int) < (cs.length : Int) := by omega
      have hi0 : (0 : Int) ≤ (i : Int) := by omega
      have WI := Lib.hid (show wrap64 ((i : Int) + 1) = ((i + 1 : Nat) : Int) by have := HN.out.1; simp only [wrap64]; omega)
      have HLN := Lib.hid (HCC.out l (List.mem_of_getElem? hl))
      clear hi hl hx hrow hb hBx hu0
      go_wp2_with fail
      go_loopw [7, 22] (fun _ y wr => ∃ k : Nat, y = .int .i64 k ∧ Hid (k ≤ l.length) ∧ Hid (∀ c ∈ l.take k, (wdK c.kd).data.toList ≠ []) ∧ Hid (Below w0.heap.size w0 wr)) (fun _ y _ => l.length - (intOf y).toNat)
      case atStart => exact ⟨0, rfl, Lib.hid (Nat.zero_le _), Lib.hid (by intro c hc; simp at hc), HB⟩
      case round =>
        obtain ⟨k, rfl, HKK, HALK, HB2⟩ := hrel
        obtain ⟨x2, rfl⟩ : ∃ w, w = wr := ⟨_, rfl⟩
        by_cases hk : k < l.length
        · obtain ⟨c, hc⟩ : ∃ c, l[k]? = some c := ⟨_, List.getElem?_eq_getElem hk⟩
          have hBx : Below w0.heap.size w0 x2 := HB2.out
          obtain ⟨p', c', he, hx⟩ := HROW.out.below hBx
          simp only [Value.slice.injEq] at he
          obtain ⟨rfl, -, rfl⟩ := he
          rcases hx with hx | ⟨b', o', rfl, hb', hx⟩
          · rw [hx] at hk; cases hk
          obtain ⟨hok, d0, d1, d2, d3, d4, d5, xv, d6, hrx⟩ := hx k c hc
          obtain ⟨xp, xk, rfl, -⟩ := id hrx
          have HKL := Lib.hid hk
          have hkk : (k : Int) < (l.length : Int) := by omega
          have hk0 : (0 : Int) ≤ (k : Int) := by omega
          have WK := Lib.hid (show wrap64 ((k : Int) + 1) = ((k + 1 : Nat) : Int) by have := HLN.out; simp only [wrap64]; omega)
          have HBZ := Lib.hid hBx.size
          by_cases hz : (wdK c.kd).data.toList = []
          · have hne : (wdK c.kd).toList.isEmpty = true := by rw [sc_str_nil]; exact decide_eq_true hz
            have HBF := Lib.hid (HB0.out.trans ((HB2.out.alloc HBZ.out (.cells #[.int .i64 c.kd, .int .i64 c.n, .int .i64 c.dir, .string c.s, .int .i64 c.who, .int .i64 c.at', .slice xp c.xs.length xk] 49)).mono HB0.out.size))
            obtain ⟨kd, ca, cb, cs', cw, ct, cx⟩ := c
            simp only at d0 d1 d2 d3 d4 d5 d6 hne
            clear hk hc hBx hx hb' hrx hok hz
            go_wp2_with fail
            refine (WDK.out _ _).mono ?_
            rintro e x3 ⟨rfl, rfl⟩
            go_wp2_with fail
            go_ret2
            exact ⟨rfl, HBF.out⟩
          · have hne := sc_no_nil hz
            have HAL2 := Lib.hid (show ∀ c ∈ l.take (k + 1), (wdK c.kd).data.toList ≠ [] from by
              intro c2 hc2
              rw [List.take_add_one, hc, List.mem_append] at hc2
              rcases hc2 with hc2 | hc2
              · exact HALK.out c2 hc2
              · simp only [Option.toList_some, List.mem_singleton] at hc2
                rw [hc2]; exact hz)
            obtain ⟨kd, ca, cb, cs', cw, ct, cx⟩ := c
            simp only at d0 d1 d2 d3 d4 d5 d6 hne
            clear hk hc hBx hx hb' hrx hok hz
            go_wp2_with fail
            refine (WDK.out _ _).mono ?_
            rintro e x3 ⟨rfl, rfl⟩
            go_wp2_with fail
            go_roundw
            case rel => exact ⟨k + 1, by first | rw [WK.out] | simp, Lib.hid HKL.out, HAL2, Lib.hid (HB2.out.alloc HBZ.out _)⟩
            case measure => first | exact sc_meas' l.length k HKL.out | (rw [WK.out]; exact sc_meas l.length k HKL.out)
        · have h9 : k = l.length := by have := HKK.out; omega
          subst h9
          have hkk : ¬ (l.length : Int) < (l.length : Int) := by omega
          have HAL3 := Lib.hid (show ∀ l ∈ cs.take (i + 1), ∀ c ∈ l, (wdK c.kd).data.toList ≠ [] from by
            intro l2 hl2
            rw [List.take_add_one, HL.out, List.mem_append] at hl2
            rcases hl2 with hl2 | hl2
            · exact HALL.out l2 hl2
            · simp only [Option.toList_some, List.mem_singleton] at hl2
              rw [hl2]
              have h := HALK.out
              rwa [List.take_length] at h)
          go_wp2_with fail
          go_roundw
          case rel => exact ⟨i + 1, by first | rw [WI.out] | simp, Lib.hid HIL.out, HAL3, HB2⟩
          case measure => first | exact sc_meas' cs.length i HIL.out | (rw [WI.out]; exact sc_meas cs.length i HIL.out)
    · have h9 : i = cs.length := by have := HI.out; omega
      exfalso
      obtain ⟨l, hl, c, hc, hz⟩ := HK.out
      have h := HALL.out
      rw [h9, List.take_length] at h
      exact h l hl c hc hz
end Go.Proofs.YtoejflnlkapkiaaDoor
/- script.Parse of any text: the walk. -/
namespace Go.Proofs.YtoejflnlkapkiaaDoor
open Go.ChangeShapes Go.WideShapes Go.ChangeAt Go.RowKit
set_option linter.unusedVariables false
set_option linter.unusedSimpArgs false
theorem ScS.below {B b : Nat} {w w' : World} {s : Sc} (h : ScS B b w s) (hb : Below w.heap.size w w') : ScS B b w' s := by
  obtain ⟨cv, pv, tv, us, ul, L, h⟩ := h
  exact ⟨cv, pv, tv, us, ul, L, h.below hb⟩
theorem ParseOk.err {t : ByteArray} {W w : World} {n : Nat} {x0 x1 x2 x3 x4 : Value} (h : prsN t (t.size + 1) 0 0 Sc.zero = .error n) (hb : Below W.heap.size W w) :
    ParseOk t W (.returned (.tuple #[zeroSc, .int .i64 (n : Int), .int .i64 10])) (((((w.setCell ⟨W.heap.size, 0, none⟩ x0).setCell ⟨W.heap.size, 1, none⟩ x1).setCell ⟨W.heap.size, 2, none⟩ x2).setCell ⟨W.heap.size, 3, none⟩ x3).setCell ⟨W.heap.size, 4, none⟩ x4) :=
  ⟨s5_below hb (Nat.le_refl _), by rw [h]⟩
theorem ParseOk.good {t : ByteArray} {W w : World} {s : Sc} {cv : Value} {pp tp : Option Addr} {pk tk : Nat} {us : List Value} {ul : Value} {L : List (Cl × Value)} {x0 x1 x2 x3 x4 : Value} (h : prsN t (t.size + 1) 0 0 Sc.zero = .ok s) (hb : Below W.heap.size W w)
    (hS : ScB (W.heap.size + 1) W.heap.size w s cv (.slice pp s.ps.length pk) (.slice tp s.ts.length tk) us ul L) :
    ParseOk t W (.returned (.tuple #[.agg #[.int .i64 s.st, .int .i64 s.rm, cv, .slice pp s.ps.length pk, .slice tp s.ts.length tk], .int .i64 0, .int .i64 0])) (((((w.setCell ⟨W.heap.size, 0, none⟩ x0).setCell ⟨W.heap.size, 1, none⟩ x1).setCell ⟨W.heap.size, 2, none⟩ x2).setCell ⟨W.heap.size, 3, none⟩ x3).setCell ⟨W.heap.size, 4, none⟩ x4) := by
  have hn : ¬ (W.heap.size + 1 ≤ W.heap.size) := by omega
  have he : Ex (fun t => W.heap.size + 1 ≤ t) w (((((w.setCell ⟨W.heap.size, 0, none⟩ x0).setCell ⟨W.heap.size, 1, none⟩ x1).setCell ⟨W.heap.size, 2, none⟩ x2).setCell ⟨W.heap.size, 3, none⟩ x3).setCell ⟨W.heap.size, 4, none⟩ x4) :=
    ((((Ex.set hn).trans (Ex.set hn)).trans (Ex.set hn)).trans (Ex.set hn)).trans (Ex.set hn)
  have hk : Ex (KS (W.heap.size + 1) cv ul) w _ := he.mono (fun _ _ h => h.1)
  obtain ⟨p1, k1, e1, h1, -⟩ := hS.p.keep hk
  obtain ⟨p2, k2, e2, h2, -⟩ := hS.t.keep hk
  simp only [Value.slice.injEq] at e1 e2
  obtain ⟨rfl, -, -⟩ := e1
  obtain ⟨rfl, -, -⟩ := e2
  exact ⟨s5_below hb (Nat.le_refl _), by rw [h]; exact ⟨_, _, _, _, _, rfl, (hS.m.keep he).rowCC, h1, h2, hS.r.1, hS.r.2⟩⟩
set_option maxRecDepth 100000 in
set_option maxHeartbeats 16000000 in
theorem sc_parse (t : ByteArray) (ht : t.size ≤ 800000) (W : World) (hm : MaxAt W) (h1 : 1 < W.heap.size) (hE : Evs W) (hT : Lib.TabIs Tryd.prog W "internal/strconv.uint64pow10" .u64 Lib.pow10Tab) :
    Calls Tryd.prog 12 #[.string t] W (ParseOk t W) := by
  have d1 : decide ((1048576 : Int) < (t.size : Int)) = false := decide_eq_false (by omega)
  have d1' : decide (1048576 < t.size) = false := decide_eq_false (by omega)
  obtain ⟨w0, hw0, r0, hB0, hs0⟩ := boxG W #[.int .i64 0, .int .i64 0, .slice none 0 0, .slice none 0 0, .slice none 0 0] 25
  have HS0 := Lib.hid (show ScS (W.heap.size + 1) W.heap.size w0 Sc.zero from ⟨_, _, _, _, _, _, r0, by omega, by omega, ScM.nil _ _, PK.nil _ _, PK.nil _ _, ⟨⟨by decide, by decide⟩, ⟨by decide, by decide⟩⟩⟩)
  have HB0 := Lib.hid hB0
  have HTS := Lib.hid ht
  have HM := Lib.hid (fun w (hb : Below W.heap.size W w) => hm.below hb h1)
  have H1 := Lib.hid h1
  have HE := Lib.hid hE
  have HT_ := Lib.hid hT
  obtain ⟨F, hF⟩ : ∃ F, t.size + 1 = F := ⟨_, rfl⟩
  obtain ⟨R, hR⟩ : ∃ R, prsN t (t.size + 1) 0 0 Sc.zero = R := ⟨_, rfl⟩
  have HF := Lib.hid hF
  have HR := Lib.hid hR
  have HP0 := Lib.hid (show prsN t (F - 0) 0 0 Sc.zero = R by rw [← hF]; exact hR)
  clear r0 hB0 hs0 ht hm h1 hE hT hF hR
  go_enter Tryd.func12, Tryd.ntmps12
  go_wp2_with fail
  go_loopw [3, 5, 6, 7, 8] (fun ln j _ _ _ wr => ∃ (n a : Nat) (s : Sc), ln = .int .i64 n ∧ j = .int .i64 a ∧ Hid (a ≤ t.size ∧ n ≤ a) ∧ Hid (prsN t (F - n) n a s = R) ∧ Hid (ScS (W.heap.size + 1) W.heap.size wr s) ∧ Hid (SzN n s) ∧ Hid (Below W.heap.size W wr)) (fun _ j _ _ _ _ => t.size + 1 - (intOf j).toNat)
  case atStart => exact ⟨0, 0, Sc.zero, rfl, rfl, Lib.hid ⟨Nat.zero_le _, Nat.le_refl _⟩, HP0, HS0, Lib.hid ⟨Nat.le_refl _, fun l hl => (by cases hl)⟩, HB0⟩
  case round =>
    obtain ⟨n, a, s, rfl, rfl, HA, HP, HS, HZ, HB⟩ := hrel
    obtain ⟨x1, rfl⟩ : ∃ w, w = wr := ⟨_, rfl⟩
    by_cases hend : a = t.size ∧ 3 ≤ n
    · obtain ⟨rfl, hn3⟩ := hend
      have HFIN := Lib.hid (show R = .ok s by
        have h := HP.out
        have h2 := HA.out.2
        have e : F - n = (t.size - n) + 1 := by have := HF.out; omega
        rw [e, prsN_end rfl hn3] at h
        exact h.symm)
      have hlt : decide ((t.size : Int) < (t.size : Int)) = false := decide_eq_false (by omega)
      have hlt3 : decide ((n : Int) < 3) = false := decide_eq_false (by omega)
      obtain ⟨cv, pv, tv, us, ul, L, hS⟩ := HS.out
      obtain ⟨m0, m1, m2, m3, m4⟩ := sc_cells5 hS.box
      obtain ⟨f0, f1, f2, f3, f4⟩ := frz5 hS.box
      obtain ⟨pp, pk, rfl, hp, -⟩ := hS.p
      obtain ⟨tp, tk, rfl, htr, -⟩ := hS.t
      obtain ⟨pc, kc, hcv⟩ : ∃ pc kc, cv = .slice pc s.cs.length kc := by
        rcases own_form hS.m.own with ⟨rfl, h0, -⟩ | ⟨g', c', rfl, -⟩
        · exact ⟨none, 0, by rw [h0]⟩
        · exact ⟨_, _, rfl⟩
      subst hcv
      have HSS := Lib.hid hS
      clear hS hn3 hp htr
      go_wp2_with fail
      refine bodyPost_ret (sc_res3 (p := 2) (a := 3) (b := 4) (ty := 25) rfl _ _ W.heap.size 25 #[.int .i64 s.st, .int .i64 s.rm, .slice pc s.cs.length kc, .slice pp s.ps.length pk, .slice tp s.ts.length tk] (0, 0) _ (.int .i64 0) (.int .i64 0) rfl rfl rfl (s5_row HSS.out.box) Tryd.underlying25 rfl (by kernel_rfl)) rfl ?_
      exact ParseOk.good (HR.out.trans HFIN.out) HB.out HSS.out
    · have hcond : (decide (a < t.size) = true ∧ decide ((a : Int) < (t.size : Int)) = true) ∨ (decide (a < t.size) = false ∧ decide ((a : Int) < (t.size : Int)) = false ∧ decide (n < 3) = true ∧ decide ((n : Int) < 3) = true) := by
        by_cases h : a < t.size
        · exact .inl ⟨decide_eq_true h, decide_eq_true (by omega)⟩
        · exact .inr ⟨decide_eq_false h, decide_eq_false (by omega), decide_eq_true (by have := HA.out; omega), decide_eq_true (by have := HA.out; omega)⟩
      have HEND := Lib.hid hend
      have WN := Lib.hid (show wrap64 ((n : Int) + 1) = ((n + 1 : Nat) : Int) by have h1 := HA.out; have h2 := HTS.out; simp only [wrap64]; omega)
      have WD := Lib.hid (sc_wordsAt t (by have := HTS.out; omega) (a : Int) (by have h1 := HA.out; have h2 := HTS.out; omega) x1 (HM.out x1 HB.out) (Nat.lt_of_lt_of_le H1.out HB.out.size))
      have HFF := Lib.hid (show F - n = (t.size - n) + 1 by have h1 := HA.out; have h2 := HF.out; omega)
      clear hend
      rcases hcond with ⟨hc1, hc1'⟩ | ⟨hc1, hc1', hc2, hc2'⟩
      all_goals
        go_upto_region 6 with fail
        rw [WN.out]
        go_wp2_with fail
        refine WD.out.mono ?_
        rintro e x2 ⟨hb2, hwd⟩
        have HB2 := Lib.hid (HB.out.trans (hb2.mono HB.out.size))
        have HS2 := Lib.hid (HS.out.below hb2)
        clear hb2
        rcases hwd with ⟨hnof, rfl⟩ | ⟨i, hfst, hwd⟩
        · have HFIN := Lib.hid (show prsN t (t.size + 1) 0 0 Sc.zero = .error (n + 1) by
            rw [HR.out, ← HP.out, HFF.out, prsN_line HEND.out (lineN_nof hnof)])
          obtain ⟨cv, pv, tv, us, ul, L, hS⟩ := HS2.out
          obtain ⟨m0, m1, m2, m3, m4⟩ := sc_cells5 hS.box
          obtain ⟨f0, f1, f2, f3, f4⟩ := frz5 hS.box
          have HSS := Lib.hid hS.box
          clear hS hnof
          go_wp2_with fail
          refine bodyPost_ret (sc_res3 (p := 2) (a := 3) (b := 4) (ty := 25) rfl _ _ W.heap.size 25 #[.int .i64 0, .int .i64 0, .slice none 0 0, .slice none 0 0, .slice none 0 0] (0, 0) _ (.int .i64 ((n + 1 : Nat) : Int)) (.int .i64 10) rfl rfl rfl (s5_row HSS.out) Tryd.underlying25 rfl (by kernel_rfl)) rfl ?_
          exact ParseOk.err HFIN.out HB2.out
        · rcases hwd with ⟨hw, rfl⟩ | ⟨l, v, hw, rfl, ho⟩
          · have HFIN := Lib.hid (show prsN t (t.size + 1) 0 0 Sc.zero = .error (n + 1) by
              rw [HR.out, ← HP.out, HFF.out, prsN_line HEND.out (lineN_bad hfst (by rw [Int.toNat_natCast] at hw; exact hw))])
            obtain ⟨cv, pv, tv, us, ul, L, hS⟩ := HS2.out
            obtain ⟨m0, m1, m2, m3, m4⟩ := sc_cells5 hS.box
            obtain ⟨f0, f1, f2, f3, f4⟩ := frz5 hS.box
            have HSS := Lib.hid hS.box
            clear hS hw hfst
            go_wp2_with fail
            refine bodyPost_ret (sc_res3 (p := 2) (a := 3) (b := 4) (ty := 25) rfl _ _ W.heap.size 25 #[.int .i64 0, .int .i64 0, .slice none 0 0, .slice none 0 0, .slice none 0 0] (0, 0) _ (.int .i64 ((n + 1 : Nat) : Int)) (.int .i64 10) rfl rfl rfl (s5_row HSS.out) Tryd.underlying25 rfl (by kernel_rfl)) rfl ?_
            exact ParseOk.err HFIN.out HB2.out
          · rw [Int.toNat_natCast] at hw
            by_cases hl0 : l = []
            · have HFIN := Lib.hid (show prsN t (t.size + 1) 0 0 Sc.zero = .error (n + 1) by
                rw [HR.out, ← HP.out, HFF.out, prsN_line HEND.out (by rw [lineN_wds hfst hw, hl0]; rfl)])
              have hd : decide (0 < l.length) = false := by rw [hl0]; rfl
              obtain ⟨cv, pv, tv, us, ul, L, hS⟩ := HS2.out
              obtain ⟨m0, m1, m2, m3, m4⟩ := sc_cells5 hS.box
              obtain ⟨f0, f1, f2, f3, f4⟩ := frz5 hS.box
              have HSS := Lib.hid hS.box
              clear hS hw hfst ho hl0
              rw [hd]
              go_wp2_with fail
              refine bodyPost_ret (sc_res3 (p := 2) (a := 3) (b := 4) (ty := 25) rfl _ _ W.heap.size 25 #[.int .i64 0, .int .i64 0, .slice none 0 0, .slice none 0 0, .slice none 0 0] (0, 0) _ (.int .i64 ((n + 1 : Nat) : Int)) (.int .i64 10) rfl rfl rfl (s5_row HSS.out) Tryd.underlying25 rfl (by kernel_rfl)) rfl ?_
              exact ParseOk.err HFIN.out HB2.out
            · have hpos := List.length_pos_iff.2 hl0
              have hd : decide (0 < l.length) = true := decide_eq_true hpos
              have HLN := Lib.hid (show lineN t a = some (l, i + 1) by rw [lineN_wds hfst hw]; cases l with | nil => exact absurd rfl hl0 | cons w ws => rfl)
              have hi : a ≤ i ∧ i < t.size := ⟨by have := hfst.2.1; omega, hfst.2.2.1⟩
              have HI := Lib.hid hi
              have hel := ext_len t a i
              have AD := Lib.hid (sc_add (W.heap.size + 1) W.heap.size s (n + 1) (by omega) v l hl0 x2 HS2.out (rowS_own ho) (by have h1 := (wds_len hw).1; have h2 := HTS.out; omega) (fun z hz => by have h1 := (wds_len hw).2 z hz; have h2 := HTS.out; omega) ⟨Nat.le_trans HZ.out.1 (by have h1 := HA.out; have h2 := HTS.out; omega), fun z hz => Nat.le_trans (HZ.out.2 z hz) (by have h1 := HA.out; have h2 := HTS.out; omega)⟩ (HE.out.below HB2.out) (pow10_bel HT_.out HB2.out))
              clear hw hfst ho hl0 hpos hi hel
              rw [hd]
              go_wp2_with fail
              refine AD.out.mono ?_
              rintro e x3 ⟨had, hb3⟩
              have HB3 := Lib.hid (HB2.out.trans hb3)
              clear hb3
              rcases had with ⟨s', hs', rfl, hS'⟩ | ⟨hs', rfl, y0, y1, y2, y3, y4, hbx⟩
              · have HS3 := Lib.hid hS'
                have HZ3 := Lib.hid (HZ.out.step hs')
                have HP3 := Lib.hid (show prsN t (F - (n + 1)) (n + 1) (i + 1) s' = R by
                  have e : F - (n + 1) = t.size - n := by have := HF.out; omega
                  rw [e, ← HP.out, HFF.out, prsN_step HEND.out HLN.out hs'])
                clear hS' hs'
                go_wp2_with fail
                go_roundw
                case rel => exact ⟨n + 1, i + 1, s', rfl, by simp, Lib.hid (by have h1 := HI.out; have h2 := HA.out; omega), HP3, HS3, HZ3, HB3⟩
                case measure => have h1 := HI.out; have h2 := HA.out; simp only [intOf]; omega
              · have HFIN := Lib.hid (show prsN t (t.size + 1) 0 0 Sc.zero = .error (n + 1) by
                  rw [HR.out, ← HP.out, HFF.out, prsN_bad HEND.out HLN.out hs'])
                have HSS := Lib.hid hbx
                obtain ⟨m0, m1, m2, m3, m4⟩ := sc_cells5 hbx
                obtain ⟨f0, f1, f2, f3, f4⟩ := frz5 hbx
                clear hbx hs'
                go_wp2_with fail
                refine bodyPost_ret (sc_res3 (p := 2) (a := 3) (b := 4) (ty := 25) rfl _ _ W.heap.size 25 #[.int .i64 0, .int .i64 0, .slice none 0 0, .slice none 0 0, .slice none 0 0] (0, 0) _ (.int .i64 ((n + 1 : Nat) : Int)) (.int .i64 10) rfl rfl rfl (s5_row HSS.out) Tryd.underlying25 rfl (by kernel_rfl)) rfl ?_
                exact ParseOk.err HFIN.out HB3.out
end Go.Proofs.YtoejflnlkapkiaaDoor
/- A contract over a listed variable that is handed the world's shape, too; bytealg.MaxLen holds some int. -/
namespace Go.Proofs.YtoejflnlkapkiaaDoor
open Go.ChangeShapes Go.WideShapes Go.ChangeAt Go.RowKit
variable {H : Type} {enc : TypeId × Value → H}

theorem returns_listed_shaped {a : Assume} {C : Checked} {os : Os} {f : FuncId} {fn : Func} {s : ChangeSpec} {conds : List PathCond} {apart fresh handsOn again : Bool} {X : World → Array Value → Prop}
    (hX : ∀ (w w' : World) (args : Array Value), w.heap = w'.heap → X w args → X w' args)
    (own : ownKnob C.prog.godebug = none) (started : os.Started) (noInit : C.prog.inits.idxOf? f = none) (hfn : C.prog.funcs[f]? = some fn)
    (witness : ∃ (w : World) (tape : Tape) (i : Input), w.os = os ∧ (w.forCall tape i).Shaped C.prog ∧ i.vars = [] ∧ Input.okWide C.prog (w.forCall tape i) .any w.heap.size f i ∧
      ((s.pre enc C.prog fn conds apart (w.forCall tape i).memory i.args ∧ X (w.forCall tape i).memory i.args) ∧ sizedMet enc C.prog fn (OpenSpec.ofChange s) apart (w.forCall tape i).memory i.args) ∧ a.holds C.prog (lone (Frame.enter C.prog f i.args .normal) [] (w.forCall tape i)))
    (contract : ∀ (W : World) (base : Nat) (args : Array Value) (ds gs : List (DataW H)) (before : List MemPlace),
      (∀ (j : Nat) t v, fn.params[j]? = some t → args[j]? = some v → Value.okWide C.prog W .any base t v) →
      DataW.Whole enc C.prog fn.params.toList s.vars apart W args.toList ds gs before → X W args → W.ShapedOpen C.prog →
      Calls C.prog f args W fun e W' => ∃ v, e = .returned v ∧ s.post enc C.prog fn apart fresh handsOn again W args v W') :
    ReturnsInHanded a C os f .any (fun w args => (s.pre enc C.prog fn conds apart w args ∧ X w args) ∧ sizedMet enc C.prog fn (OpenSpec.ofChange s) apart w args) (s.post enc C.prog fn apart fresh handsOn again) := by
  refine returnsInHanded_of_calls own started noInit witness ?_
  intro w tape i _ hsh _ hok hpre _
  obtain ⟨_, _, _, fn', hfn', _, _, _, _, hval⟩ := hok
  obtain rfl : fn' = fn := Option.some.inj (hfn'.symm.trans hfn)
  obtain ⟨⟨⟨ds, gs, before, hw, _⟩, hx⟩, _⟩ := hpre
  refine (contract (w.forCall tape i) w.heap.size i.args ds gs before hval (DataW.Whole.of_heap (w' := w.forCall tape i) (by rfl) hw) (hX _ _ _ (by rfl) hx) hsh).mono fun e W' ⟨v, he, hp⟩ => ?_
  subst he
  exact ChangeSpec.post_blind hp

theorem max_int {W : World} (h : W.ShapedOpen Tryd.prog) : ∃ m, W.cell? ⟨1, 0, none⟩ = some (.int .i64 m) :=
  cell_of_shapedOpen_int (t := 3) (zero := #[.int .i64 0]) h (of_decide_eq_true (by kernel_rfl)) (by kernel_rfl) rfl (by kernel_rfl) (by kernel_rfl) Tryd.underlying3

end Go.Proofs.YtoejflnlkapkiaaDoor
