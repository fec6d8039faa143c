/- Put together by program (merge2.py): Sci Sqr. -/
import Derived.Test.YtoejflnlkapkiaaDoorSy12
import Derived.Test.YtoejflnlkapkiaaDoorSy20
/- Reference 42's Own; the law's same. -/
namespace Go.Proofs.YtoejflnlkapkiaaDoor
open Go.ChangeShapes Go.WideShapes Go.ChangeAt Go.RowKit
set_option linter.unusedVariables false
set_option linter.unusedSimpArgs false
set_option maxRecDepth 100000 in
set_option maxHeartbeats 4000000 in
theorem r42_own (c : Cl) (x : Value) (W : World) (h : RowX W x c.xs) : Calls Tryd.prog 18 #[c.val x] W (OwnOk W c) := by
  obtain ⟨kd, n, dir, s, who, ar, xs⟩ := c
  obtain ⟨p, k, rfl, hr⟩ := h
  have HR := Lib.hid hr
  simp only at hr
  show Calls Tryd.prog 18 #[.agg #[.int .i64 kd, .int .i64 n, .int .i64 dir, .string s, .int .i64 who, .int .i64 ar, .slice p xs.length k]] W (OwnOk W ⟨kd, n, dir, s, who, ar, xs⟩)
  clear hr
  by_cases h1 : kd = 1
  · subst h1
    have ho : ownC ⟨1, n, dir, s, who, ar, xs⟩ = ⟨1, n, dir, ⟨#[]⟩, 0, 0, []⟩ := rfl
    go_enter Tryd.func18, Tryd.ntmps18
    go_wp2_with fail
    refine call_ret (c := ⟨1, n, dir, ⟨#[]⟩, 0, 0, []⟩) rfl _ _ (W.heap.size + 1) (.slice none 0 0) rfl rfl (tri _ _ _ _).1 ?_
    exact ⟨.slice none 0 0, by rw [ho], by rw [ho]; exact row_nilX _, (tri _ _ _ _).2⟩
  by_cases h2 : kd = 2
  · subst h2
    have ho : ownC ⟨2, n, dir, s, who, ar, xs⟩ = ⟨2, n, dir, ⟨#[]⟩, 0, 0, []⟩ := rfl
    go_enter Tryd.func18, Tryd.ntmps18
    go_wp2_with fail
    refine call_ret (c := ⟨2, n, dir, ⟨#[]⟩, 0, 0, []⟩) rfl _ _ (W.heap.size + 1) (.slice none 0 0) rfl rfl (tri _ _ _ _).1 ?_
    exact ⟨.slice none 0 0, by rw [ho], by rw [ho]; exact row_nilX _, (tri _ _ _ _).2⟩
  by_cases h3 : kd = 3
  · subst h3
    have ho : ownC ⟨3, n, dir, s, who, ar, xs⟩ = ⟨3, n, dir, ⟨#[]⟩, 0, 0, []⟩ := rfl
    go_enter Tryd.func18, Tryd.ntmps18
    go_wp2_with fail
    refine call_ret (c := ⟨3, n, dir, ⟨#[]⟩, 0, 0, []⟩) rfl _ _ (W.heap.size + 1) (.slice none 0 0) rfl rfl (tri _ _ _ _).1 ?_
    exact ⟨.slice none 0 0, by rw [ho], by rw [ho]; exact row_nilX _, (tri _ _ _ _).2⟩
  by_cases h4 : kd = 4
  · subst h4
    have ho : ownC ⟨4, n, dir, s, who, ar, xs⟩ = ⟨4, 0, 0, s, 0, 0, []⟩ := rfl
    go_enter Tryd.func18, Tryd.ntmps18
    go_wp2_with fail
    refine call_ret (c := ⟨4, 0, 0, s, 0, 0, []⟩) rfl _ _ (W.heap.size + 1) (.slice none 0 0) rfl rfl (tri _ _ _ _).1 ?_
    exact ⟨.slice none 0 0, by rw [ho], by rw [ho]; exact row_nilX _, (tri _ _ _ _).2⟩
  by_cases h7 : kd = 7
  · subst h7
    have ho : ownC ⟨7, n, dir, s, who, ar, xs⟩ = ⟨7, 0, 0, ⟨#[]⟩, who, ar, []⟩ := rfl
    go_enter Tryd.func18, Tryd.ntmps18
    go_wp2_with fail
    refine call_ret (c := ⟨7, 0, 0, ⟨#[]⟩, who, ar, []⟩) rfl _ _ (W.heap.size + 1) (.slice none 0 0) rfl rfl (tri _ _ _ _).1 ?_
    exact ⟨.slice none 0 0, by rw [ho], by rw [ho]; exact row_nilX _, (tri _ _ _ _).2⟩
  by_cases h6 : kd = 6
  · subst h6
    have ho : ownC ⟨6, n, dir, s, who, ar, xs⟩ = ⟨6, 0, 0, ⟨#[]⟩, who, ar, xs⟩ := rfl
    go_enter Tryd.func18, Tryd.ntmps18
    go_wp2_with fail
    refine call_ret (c := ⟨6, 0, 0, ⟨#[]⟩, who, ar, xs⟩) rfl _ _ (W.heap.size + 1) (.slice p xs.length k) rfl rfl (tri _ _ _ _).1 ?_
    exact ⟨.slice p xs.length k, by rw [ho], by rw [ho]; exact ⟨p, k, rfl, HR.out.below (tri _ _ _ _).2⟩, (tri _ _ _ _).2⟩
  by_cases h13 : 1 ≤ kd ∧ kd ≤ 3
  · omega
  · have e0 : decide (kd ≥ 1) = decide (1 ≤ kd) := rfl
    have e4 : (kd == 4) = false := by simp [h4]
    have e6 : (kd == 6) = false := by simp [h6]
    have e7 : (kd == 7) = false := by simp [h7]
    by_cases hge : 1 ≤ kd
    · have d1 : decide (1 ≤ kd) = true := decide_eq_true hge
      have d2 : decide (kd ≤ 3) = false := decide_eq_false (by omega)
      have ho : ownC ⟨kd, n, dir, s, who, ar, xs⟩ = ⟨kd, 0, 0, ⟨#[]⟩, 0, 0, []⟩ := by unfold ownC; simp only [h1, h2, h3, h4, h6, h7, false_or, if_false]
      clear h1 h2 h3 h4 h6 h7 h13 hge e0
      go_enter Tryd.func18, Tryd.ntmps18
      go_wp2_with fail
      refine call_ret (c := ⟨kd, 0, 0, ⟨#[]⟩, 0, 0, []⟩) rfl _ _ (W.heap.size + 1) (.slice none 0 0) rfl rfl (tri _ _ _ _).1 ?_
      exact ⟨.slice none 0 0, by rw [ho], by rw [ho]; exact row_nilX _, (tri _ _ _ _).2⟩
    have d1 : decide (1 ≤ kd) = false := decide_eq_false hge
    have ho : ownC ⟨kd, n, dir, s, who, ar, xs⟩ = ⟨kd, 0, 0, ⟨#[]⟩, 0, 0, []⟩ := by unfold ownC; simp only [h1, h2, h3, h4, h6, h7, false_or, if_false]
    clear h1 h2 h3 h4 h6 h7 h13 hge e0
    go_enter Tryd.func18, Tryd.ntmps18
    go_wp2_with fail
    refine call_ret (c := ⟨kd, 0, 0, ⟨#[]⟩, 0, 0, []⟩) rfl _ _ (W.heap.size + 1) (.slice none 0 0) rfl rfl (tri _ _ _ _).1 ?_
    exact ⟨.slice none 0 0, by rw [ho], by rw [ho]; exact row_nilX _, (tri _ _ _ _).2⟩
set_option maxRecDepth 100000 in
set_option maxHeartbeats 4000000 in
theorem l42_same (c : Cl) (x y : Value) (W : World) (hx : RowX W x c.xs) (hy : RowX W y c.xs) : Calls Tryd.prog 17 #[c.val x, c.val y] W fun e w' => e = .returned (.bool true) ∧ Below W.heap.size W w' := by
  obtain ⟨kd, n, dir, s, who, ar, xs⟩ := c
  obtain ⟨p, k, rfl, hr⟩ := hx
  obtain ⟨q, j, rfl, hq⟩ := hy
  show Calls Tryd.prog 17 #[.agg #[.int .i64 kd, .int .i64 n, .int .i64 dir, .string s, .int .i64 who, .int .i64 ar, .slice p xs.length k], .agg #[.int .i64 kd, .int .i64 n, .int .i64 dir, .string s, .int .i64 who, .int .i64 ar, .slice q xs.length j]] W _
  have SM := Lib.hid (fun (w : World) (hb : Below W.heap.size W w) => c_same (c := k) (d := j) (hr.below hb) (hq.below hb))
  obtain ⟨w0, hw0, r0, hB0, hs0⟩ := boxG W #[.int .i64 kd, .int .i64 n, .int .i64 dir, .string s, .int .i64 who, .int .i64 ar, .slice p xs.length k] 49
  obtain ⟨w1, hw1, r1, hB1, hs1⟩ := boxG w0 #[.int .i64 kd, .int .i64 n, .int .i64 dir, .string s, .int .i64 who, .int .i64 ar, .slice q xs.length j] 49
  obtain ⟨x0, x1, x2, x3, x4, x5, x6⟩ := cells7 ((hB1.block _ (by omega)).trans r0)
  obtain ⟨y0, y1, y2, y3, y4, y5, y6⟩ := cells7 r1
  have HB := Lib.hid (hB0.trans (hB1.mono (by omega)))
  clear hr hq r0 r1 hB0 hB1 hs0 hs1
  go_enter Tryd.func17, Tryd.ntmps17
  go_wp2_with fail
  refine (SM.out _ HB.out).mono ?_
  rintro e w2 ⟨rfl, hb2⟩
  have HB2 := Lib.hid (HB.out.trans (hb2.mono HB.out.size))
  clear hb2
  go_wp2_with fail
  go_ret
  exact ⟨rfl, HB2.out⟩
end Go.Proofs.YtoejflnlkapkiaaDoor
/- ScriptPrints: alike. By program (gensqr.py). -/
namespace Go.Proofs.YtoejflnlkapkiaaDoor
open Go.ChangeShapes Go.WideShapes Go.ChangeAt Go.RowKit
set_option linter.unusedVariables false
set_option linter.unusedSimpArgs false
set_option maxRecDepth 100000 in
set_option maxHeartbeats 8000000 in
theorem l42_alike (st rm : Int) (cv cv2 : Value) (cs : List (List Cl)) (pp tp qp sp : Option Addr) (pk tk qk sk : Nat) (ps ts : List Int) (W : World) (hX : RowCC W cv (cs.map (fun l => l.map ownC))) (hY : RowCC W cv2 cs) (hcl : cs.length ≤ 2000000) (hll : ∀ l ∈ cs, l.length ≤ 2000000)
    (hp : RowI W pp ps.length ps) (ht : RowI W tp ts.length ts) (hp2 : RowI W qp ps.length ps) (ht2 : RowI W sp ts.length ts) :
    Calls Tryd.prog 14 #[.agg #[.int .i64 st, .int .i64 rm, cv, .slice pp ps.length pk, .slice tp ts.length tk], .agg #[.int .i64 st, .int .i64 rm, cv2, .slice qp ps.length qk, .slice sp ts.length sk]] W fun e w' => e = .returned (.bool true) ∧ Below W.heap.size W w' := by
  obtain ⟨cp, cc, rfl, hx⟩ := id hX
  rw [List.length_map] at hX ⊢
  obtain ⟨cq, cd, rfl, hy⟩ := id hY
  obtain ⟨w0, hw0, r0, hB0, hs0⟩ := boxG W #[.int .i64 st, .int .i64 rm, .slice cp cs.length cc, .slice pp ps.length pk, .slice tp ts.length tk] 25
  obtain ⟨w1, hw1, r1, hB1, hs1⟩ := boxG w0 #[.int .i64 st, .int .i64 rm, .slice cq cs.length cd, .slice qp ps.length qk, .slice sp ts.length sk] 34
  have HF := Lib.hid (fun (u : World) (hu : Below w1.heap.size w1 u) => And.intro (sc_cells5 ((hu.block _ (by omega)).trans ((hB1.block _ (by omega)).trans r0))) (sc_cells5 ((hu.block _ (by omega)).trans r1)))
  have hBW : Below W.heap.size W w1 := hB0.trans (hB1.mono (by omega))
  have S1 := Lib.hid (fun (w : World) (h : Below w1.heap.size w1 w) => c_samei (c := pk) (d := qk) (hp.below (hBW.trans (h.mono hBW.size))) (hp2.below (hBW.trans (h.mono hBW.size))))
  have S2 := Lib.hid (fun (w : World) (h : Below w1.heap.size w1 w) => c_samei (c := tk) (d := sk) (ht.below (hBW.trans (h.mono hBW.size))) (ht2.below (hBW.trans (h.mono hBW.size))))
  have HX := Lib.hid (fun (w : World) (h : Below w1.heap.size w1 w) => hX.below (hBW.trans (h.mono hBW.size)))
  have HY := Lib.hid (fun (w : World) (h : Below w1.heap.size w1 w) => hY.below (hBW.trans (h.mono hBW.size)))
  have HB := Lib.hid hBW
  have HCL := Lib.hid hcl
  have HLL := Lib.hid hll
  obtain ⟨⟨x0, x1, x2, x3, x4⟩, ⟨y0, y1, y2, y3, y4⟩⟩ := HF.out w1 (Below.refl _ _)
  clear r0 r1 hB0 hB1 hs0 hs1 hX hY hcl hll hp ht hp2 ht2 hBW hx hy
  go_enter Tryd.func14, Tryd.ntmps14
  go_wp2_with fail
  refine (S1.out _ (Below.refl _ _)).mono ?_
  rintro e w2 ⟨rfl, hb2⟩
  obtain ⟨⟨x0, x1, x2, x3, x4⟩, ⟨y0, y1, y2, y3, y4⟩⟩ := HF.out w2 hb2
  have HB2 := Lib.hid hb2
  clear hb2
  go_wp2_with fail
  refine (S2.out _ HB2.out).mono ?_
  rintro e w3 ⟨rfl, hb3⟩
  have HB3 := Lib.hid (HB2.out.trans (hb3.mono HB2.out.size))
  obtain ⟨⟨x0, x1, x2, x3, x4⟩, ⟨y0, y1, y2, y3, y4⟩⟩ := HF.out w3 HB3.out
  clear hb3
  go_upto_region 4 with fail
  go_wp2_with fail
  go_loopw [5, 6] (fun i _ wr => ∃ (q : Nat), i = .int .i64 q ∧ Hid (q ≤ cs.length) ∧ Hid (Below w1.heap.size w1 wr)) (fun i _ _ => cs.length - (intOf i).toNat)
  case atStart => exact ⟨0, rfl, Lib.hid (Nat.zero_le _), HB3⟩
  case round =>
    obtain ⟨q, rfl, HQ, HB4⟩ := hrel
    obtain ⟨z1, rfl⟩ : ∃ w, w = wr := ⟨_, rfl⟩
    clear x0 x1 x2 x3 x4 y0 y1 y2 y3 y4
    obtain ⟨⟨x0, x1, x2, x3, x4⟩, ⟨y0, y1, y2, y3, y4⟩⟩ := HF.out z1 HB4.out
    have HBZ := Lib.hid (HB.out.trans (HB4.out.mono HB.out.size))
    by_cases hq : q < cs.length
    · obtain ⟨l, hl⟩ : ∃ l, cs[q]? = some l := ⟨_, List.getElem?_eq_getElem hq⟩
      have HLEN := Lib.hid (HLL.out l (List.mem_of_getElem? hl))
      have HLT := Lib.hid hq
      have hq0 : (0 : Int) ≤ (q : Int) := by omega
      have hqi : (q : Int) < (cs.length : Int) := by omega
      have WQ := Lib.hid (show wrap64 ((q : Int) + 1) = ((q + 1 : Nat) : Int) by have := HCL.out; simp only [wrap64]; omega)
      have hl2 : (cs.map (fun l => l.map ownC))[q]? = some (l.map ownC) := by rw [List.getElem?_map, hl]; rfl
      obtain ⟨a1, b1, e1, h1⟩ := HX.out w1 (Below.refl _ _)
      rw [List.length_map] at e1
      simp only [Value.slice.injEq] at e1
      obtain ⟨rfl, -, -⟩ := e1
      rcases h1 with h1 | ⟨g1, o1, rfl, hg1, h1⟩
      · rw [List.map_eq_nil_iff] at h1; rw [h1] at hq; simp at hq
      obtain ⟨u1, hu1, hr1⟩ := h1 q _ hl2
      obtain ⟨a2, b2, e2, h2⟩ := HY.out w1 (Below.refl _ _)
      simp only [Value.slice.injEq] at e2
      obtain ⟨rfl, -, -⟩ := e2
      rcases h2 with h2 | ⟨g2, o2, rfl, hg2, h2⟩
      · rw [h2] at hq; simp at hq
      obtain ⟨u2, hu2, hr2⟩ := h2 q _ hl
      have HU := Lib.hid (fun (w : World) (h : Below w1.heap.size w1 w) => And.intro ((h.cell (p := ⟨g1, o1 + q, none⟩) hg1).trans hu1) ((h.cell (p := ⟨g2, o2 + q, none⟩) hg2).trans hu2))
      have HR1 := Lib.hid (fun (w : World) (h : Below w1.heap.size w1 w) => hr1.below h)
      have HR2 := Lib.hid (fun (w : World) (h : Below w1.heap.size w1 w) => hr2.below h)
      obtain ⟨v1, v2⟩ := HU.out z1 HB4.out
      obtain ⟨lp, lc, rfl, -⟩ := hr1
      rw [List.length_map] at HU HR1 hu1 v1
      obtain ⟨mp, mc, rfl, -⟩ := hr2
      clear hl2 hq h1 h2 hu1 hu2
      go_wp2_with fail
      go_still_tail 12, (by kernel_rfl)
      change wpList _ _ _ _ _ z1.drew
      clear x0 x1 x2 x3 x4 y0 y1 y2 y3 y4 v1 v2
      obtain ⟨zd, hzd⟩ : ∃ zd, z1.drew = zd := ⟨_, rfl⟩
      have HBD := Lib.hid (show Below w1.heap.size w1 zd by rw [← hzd]; exact HB4.out.drew)
      rw [hzd]
      clear hzd
      go_wp2_with fail
      go_loopw [6] (fun j wr => ∃ (k : Nat), j = .int .i64 k ∧ Hid (k ≤ l.length) ∧ Hid (Below w1.heap.size w1 wr)) (fun j _ => l.length - (intOf j).toNat)
      case atStart => exact ⟨0, rfl, Lib.hid (Nat.zero_le _), HBD⟩
      case round =>
        obtain ⟨k, rfl, HKK, HB2⟩ := hrel
        obtain ⟨z2, rfl⟩ : ∃ w, w = wr := ⟨_, rfl⟩
        obtain ⟨⟨x0, x1, x2, x3, x4⟩, ⟨y0, y1, y2, y3, y4⟩⟩ := HF.out z2 HB2.out
        obtain ⟨v1, v2⟩ := HU.out z2 HB2.out
        by_cases hk : k < l.length
        · obtain ⟨c, hc⟩ : ∃ c, l[k]? = some c := ⟨_, List.getElem?_eq_getElem hk⟩
          have hk0 : (0 : Int) ≤ (k : Int) := by omega
          have hki : (k : Int) < (l.length : Int) := by omega
          have HKL := Lib.hid hk
          have WK := Lib.hid (show wrap64 ((k : Int) + 1) = ((k + 1 : Nat) : Int) by have := HLEN.out; simp only [wrap64]; omega)
          have hc2 : (l.map ownC)[k]? = some (ownC c) := by rw [List.getElem?_map, hc]; rfl
          obtain ⟨a3, b3, e3, h3⟩ := HR1.out w1 (Below.refl _ _)
          rw [List.length_map] at e3
          simp only [Value.slice.injEq] at e3
          obtain ⟨rfl, -, -⟩ := e3
          rcases h3 with h3 | ⟨g3, o3, rfl, hg3, h3⟩
          · rw [List.map_eq_nil_iff] at h3; rw [h3] at hk; simp at hk
          obtain ⟨-, i0, i1, i2, i3, i4, i5, xv, i6, hxv⟩ := h3 k _ hc2
          obtain ⟨a4, b4, e4, h4⟩ := HR2.out w1 (Below.refl _ _)
          simp only [Value.slice.injEq] at e4
          obtain ⟨rfl, -, -⟩ := e4
          rcases h4 with h4 | ⟨g4, o4, rfl, hg4, h4⟩
          · rw [h4] at hk; simp at hk
          obtain ⟨-, j0, j1, j2, j3, j4, j5, yv, j6, hyv⟩ := h4 k _ hc
          obtain ⟨d, hd⟩ : ∃ d, ownC c = d := ⟨_, rfl⟩
          rw [hd] at i0 i1 i2 i3 i4 i5 hxv
          have OW := Lib.hid (fun (w : World) (h : Below w1.heap.size w1 w) => (show Calls Tryd.prog 18 #[c.val yv] w fun e w' => ∃ xo, e = .returned (d.val xo) ∧ RowX w' xo d.xs ∧ Below w.heap.size w w' from by
            have h1 := r42_own c yv w (hyv.below h)
            unfold OwnOk at h1
            rw [hd] at h1
            exact h1))
          have SM := Lib.hid (fun (xo : Value) (w : World) (h : Below w1.heap.size w1 w) (hr : RowX w xo d.xs) => l42_same d xv xo w (hxv.below h) hr)
          have FX := Lib.hid (fun (w : World) (h : Below w1.heap.size w1 w) => And.intro (HF.out w h).1.2.2.1 (And.intro (HF.out w h).2.2.2.1 (And.intro (HU.out w h).1 (And.intro (HU.out w h).2
            (And.intro ((h.cell (p := ⟨g3, o3 + k * 7, none⟩) hg3).trans i0) (And.intro ((h.cell (p := ⟨g3, o3 + k * 7 + 1, none⟩) hg3).trans i1) (And.intro ((h.cell (p := ⟨g3, o3 + k * 7 + 2, none⟩) hg3).trans i2) (And.intro ((h.cell (p := ⟨g3, o3 + k * 7 + 3, none⟩) hg3).trans i3) (And.intro ((h.cell (p := ⟨g3, o3 + k * 7 + 4, none⟩) hg3).trans i4) (And.intro ((h.cell (p := ⟨g3, o3 + k * 7 + 5, none⟩) hg3).trans i5) (And.intro ((h.cell (p := ⟨g3, o3 + k * 7 + 6, none⟩) hg3).trans i6)
            (And.intro ((h.cell (p := ⟨g4, o4 + k * 7, none⟩) hg4).trans j0) (And.intro ((h.cell (p := ⟨g4, o4 + k * 7 + 1, none⟩) hg4).trans j1) (And.intro ((h.cell (p := ⟨g4, o4 + k * 7 + 2, none⟩) hg4).trans j2) (And.intro ((h.cell (p := ⟨g4, o4 + k * 7 + 3, none⟩) hg4).trans j3) (And.intro ((h.cell (p := ⟨g4, o4 + k * 7 + 4, none⟩) hg4).trans j4) (And.intro ((h.cell (p := ⟨g4, o4 + k * 7 + 5, none⟩) hg4).trans j5) ((h.cell (p := ⟨g4, o4 + k * 7 + 6, none⟩) hg4).trans j6))))))))))))))))))
          obtain ⟨xp, xk, rfl, -⟩ := hxv
          obtain ⟨yp, yk, rfl, -⟩ := hyv
          clear hc2 hk h3 h4 i0 i1 i2 i3 i4 i5 i6 j0 j1 j2 j3 j4 j5 j6 hd hc
          unfold Cl.val at OW
          (try simp only at OW)
          go_upto_region 11 with fail
          refine wp_region_held_drew (S := fun w' => Below w1.heap.size w1 w') (by kernel_rfl) HB2.out.drew (fun hHeld => ?_)
          refine wpAnyH_take (i := 0) (v := ?v1) rfl (by kernel_rfl) (by kernel_rfl) (by kernel_rfl) (fun _ _ _ h => h) (Or.inl ⟨by kernel_rfl, ?hy1⟩) (by assumption) ?rest1
          case hy1 => intro w hSw; (try dsimp only at hSw); obtain ⟨p1, p2, p3, p4, x0, x1, x2, x3, x4, x5, x6, y0, y1, y2, y3, y4, y5, y6⟩ := FX.out w hSw; go_simp; (first | done | with_reducible rfl)
          (try simp only [Act.put, List.getElem_toArray, List.getElem_cons_zero, List.getElem_cons_succ, List.setIfInBounds_toArray, List.set_cons_zero, List.set_cons_succ])
          refine wpAnyH_take (i := 1) (v := ?v2) rfl (by kernel_rfl) (by kernel_rfl) (by kernel_rfl) (fun _ _ _ h => h) (Or.inl ⟨by kernel_rfl, ?hy2⟩) (by assumption) ?rest2
          case hy2 => intro w hSw; (try dsimp only at hSw); obtain ⟨p1, p2, p3, p4, x0, x1, x2, x3, x4, x5, x6, y0, y1, y2, y3, y4, y5, y6⟩ := FX.out w hSw; go_simp; (first | done | with_reducible rfl)
          (try simp only [Act.put, List.getElem_toArray, List.getElem_cons_zero, List.getElem_cons_succ, List.setIfInBounds_toArray, List.set_cons_zero, List.set_cons_succ])
          refine wpAnyH_take (i := 2) (v := ?v3) rfl (by kernel_rfl) (by kernel_rfl) (by kernel_rfl) (fun _ _ _ h => h) (Or.inl ⟨by kernel_rfl, ?hy3⟩) (by assumption) ?rest3
          case hy3 => intro w hSw; (try dsimp only at hSw); obtain ⟨p1, p2, p3, p4, x0, x1, x2, x3, x4, x5, x6, y0, y1, y2, y3, y4, y5, y6⟩ := FX.out w hSw; go_simp; (first | done | with_reducible rfl)
          (try simp only [Act.put, List.getElem_toArray, List.getElem_cons_zero, List.getElem_cons_succ, List.setIfInBounds_toArray, List.set_cons_zero, List.set_cons_succ])
          refine wpAnyH_take (i := 3) (v := ?v4) rfl (by kernel_rfl) (by kernel_rfl) (by kernel_rfl) (fun _ _ _ h => h) (Or.inl ⟨by kernel_rfl, ?hy4⟩) (by assumption) ?rest4
          case hy4 => intro w hSw; (try dsimp only at hSw); obtain ⟨p1, p2, p3, p4, x0, x1, x2, x3, x4, x5, x6, y0, y1, y2, y3, y4, y5, y6⟩ := FX.out w hSw; go_simp; (first | done | with_reducible rfl)
          (try simp only [Act.put, List.getElem_toArray, List.getElem_cons_zero, List.getElem_cons_succ, List.setIfInBounds_toArray, List.set_cons_zero, List.set_cons_succ])
          refine wpAnyH_take (i := 4) (v := ?v5) rfl (by kernel_rfl) (by kernel_rfl) (by kernel_rfl) (fun _ _ _ h => h) (Or.inl ⟨by kernel_rfl, ?hy5⟩) (by assumption) ?rest5
          case hy5 => intro w hSw; (try dsimp only at hSw); obtain ⟨p1, p2, p3, p4, x0, x1, x2, x3, x4, x5, x6, y0, y1, y2, y3, y4, y5, y6⟩ := FX.out w hSw; go_simp; (first | done | with_reducible rfl)
          (try simp only [Act.put, List.getElem_toArray, List.getElem_cons_zero, List.getElem_cons_succ, List.setIfInBounds_toArray, List.set_cons_zero, List.set_cons_succ])
          refine wpAnyH_take (i := 5) (v := ?v6) rfl (by kernel_rfl) (by kernel_rfl) (by kernel_rfl) (fun _ _ _ h => h) (Or.inl ⟨by kernel_rfl, ?hy6⟩) (by assumption) ?rest6
          case hy6 => intro w hSw; (try dsimp only at hSw); obtain ⟨p1, p2, p3, p4, x0, x1, x2, x3, x4, x5, x6, y0, y1, y2, y3, y4, y5, y6⟩ := FX.out w hSw; go_simp; (first | done | with_reducible rfl)
          (try simp only [Act.put, List.getElem_toArray, List.getElem_cons_zero, List.getElem_cons_succ, List.setIfInBounds_toArray, List.set_cons_zero, List.set_cons_succ])
          refine wpAnyH_take (i := 6) (v := ?v7) rfl (by kernel_rfl) (by kernel_rfl) (by kernel_rfl) (fun _ _ _ h => h) (Or.inl ⟨by kernel_rfl, ?hy7⟩) (by assumption) ?rest7
          case hy7 => intro w hSw; (try dsimp only at hSw); obtain ⟨p1, p2, p3, p4, x0, x1, x2, x3, x4, x5, x6, y0, y1, y2, y3, y4, y5, y6⟩ := FX.out w hSw; go_simp; (first | done | with_reducible rfl)
          (try simp only [Act.put, List.getElem_toArray, List.getElem_cons_zero, List.getElem_cons_succ, List.setIfInBounds_toArray, List.set_cons_zero, List.set_cons_succ])
          refine wpAnyH_take (i := 7) (v := ?v8) rfl (by kernel_rfl) (by kernel_rfl) (by kernel_rfl) (fun _ _ _ h => h) (Or.inl ⟨by kernel_rfl, ?hy8⟩) (by assumption) ?rest8
          case hy8 => intro w hSw; (try dsimp only at hSw); obtain ⟨p1, p2, p3, p4, x0, x1, x2, x3, x4, x5, x6, y0, y1, y2, y3, y4, y5, y6⟩ := FX.out w hSw; go_simp; (first | done | with_reducible rfl)
          (try simp only [Act.put, List.getElem_toArray, List.getElem_cons_zero, List.getElem_cons_succ, List.setIfInBounds_toArray, List.set_cons_zero, List.set_cons_succ])
          refine wpAnyH_take (i := 8) (v := ?v9) rfl (by kernel_rfl) (by kernel_rfl) (by kernel_rfl) (fun _ _ _ h => h) (Or.inl ⟨by kernel_rfl, ?hy9⟩) (by assumption) ?rest9
          case hy9 => intro w hSw; (try dsimp only at hSw); obtain ⟨p1, p2, p3, p4, x0, x1, x2, x3, x4, x5, x6, y0, y1, y2, y3, y4, y5, y6⟩ := FX.out w hSw; go_simp; (first | done | with_reducible rfl)
          (try simp only [Act.put, List.getElem_toArray, List.getElem_cons_zero, List.getElem_cons_succ, List.setIfInBounds_toArray, List.set_cons_zero, List.set_cons_succ])
          refine wpAnyH_take (i := 9) (v := ?v10) rfl (by kernel_rfl) (by kernel_rfl) (by kernel_rfl) (fun _ _ _ h => h) (Or.inl ⟨by kernel_rfl, ?hy10⟩) (by assumption) ?rest10
          case hy10 => intro w hSw; (try dsimp only at hSw); obtain ⟨p1, p2, p3, p4, x0, x1, x2, x3, x4, x5, x6, y0, y1, y2, y3, y4, y5, y6⟩ := FX.out w hSw; go_simp; (first | done | with_reducible rfl)
          (try simp only [Act.put, List.getElem_toArray, List.getElem_cons_zero, List.getElem_cons_succ, List.setIfInBounds_toArray, List.set_cons_zero, List.set_cons_succ])
          refine wpAnyH_take (i := 10) (v := ?v11) rfl (by kernel_rfl) (by kernel_rfl) (by kernel_rfl) (fun _ _ _ h => h) (Or.inl ⟨by kernel_rfl, ?hy11⟩) (by assumption) ?rest11
          case hy11 => intro w hSw; (try dsimp only at hSw); obtain ⟨p1, p2, p3, p4, x0, x1, x2, x3, x4, x5, x6, y0, y1, y2, y3, y4, y5, y6⟩ := FX.out w hSw; go_simp; (first | done | with_reducible rfl)
          (try simp only [Act.put, List.getElem_toArray, List.getElem_cons_zero, List.getElem_cons_succ, List.setIfInBounds_toArray, List.set_cons_zero, List.set_cons_succ])
          refine wpAnyH_take (i := 11) (v := ?v12) rfl (by kernel_rfl) (by kernel_rfl) (by kernel_rfl) (fun _ _ _ h => h) (Or.inl ⟨by kernel_rfl, ?hy12⟩) (by assumption) ?rest12
          case hy12 => intro w hSw; (try dsimp only at hSw); obtain ⟨p1, p2, p3, p4, x0, x1, x2, x3, x4, x5, x6, y0, y1, y2, y3, y4, y5, y6⟩ := FX.out w hSw; go_simp; (first | done | with_reducible rfl)
          (try simp only [Act.put, List.getElem_toArray, List.getElem_cons_zero, List.getElem_cons_succ, List.setIfInBounds_toArray, List.set_cons_zero, List.set_cons_succ])
          refine wpAnyH_take (i := 12) (v := ?v13) rfl (by kernel_rfl) (by kernel_rfl) (by kernel_rfl) (fun _ _ _ h => h) (Or.inl ⟨by kernel_rfl, ?hy13⟩) (by assumption) ?rest13
          case hy13 => intro w hSw; (try dsimp only at hSw); obtain ⟨p1, p2, p3, p4, x0, x1, x2, x3, x4, x5, x6, y0, y1, y2, y3, y4, y5, y6⟩ := FX.out w hSw; go_simp; (first | done | with_reducible rfl)
          (try simp only [Act.put, List.getElem_toArray, List.getElem_cons_zero, List.getElem_cons_succ, List.setIfInBounds_toArray, List.set_cons_zero, List.set_cons_succ])
          refine wpAnyH_take (i := 13) (v := ?v14) rfl (by kernel_rfl) (by kernel_rfl) (by kernel_rfl) (fun _ _ _ h => h) (Or.inl ⟨by kernel_rfl, ?hy14⟩) (by assumption) ?rest14
          case hy14 => intro w hSw; (try dsimp only at hSw); obtain ⟨p1, p2, p3, p4, x0, x1, x2, x3, x4, x5, x6, y0, y1, y2, y3, y4, y5, y6⟩ := FX.out w hSw; go_simp; (first | done | with_reducible rfl)
          (try simp only [Act.put, List.getElem_toArray, List.getElem_cons_zero, List.getElem_cons_succ, List.setIfInBounds_toArray, List.set_cons_zero, List.set_cons_succ])
          refine wpAnyH_take (i := 14) (v := ?v15) rfl (by kernel_rfl) (by kernel_rfl) (by kernel_rfl) (fun _ _ _ h => h) (Or.inl ⟨by kernel_rfl, ?hy15⟩) (by assumption) ?rest15
          case hy15 => intro w hSw; (try dsimp only at hSw); obtain ⟨p1, p2, p3, p4, x0, x1, x2, x3, x4, x5, x6, y0, y1, y2, y3, y4, y5, y6⟩ := FX.out w hSw; go_simp; (first | done | with_reducible rfl)
          (try simp only [Act.put, List.getElem_toArray, List.getElem_cons_zero, List.getElem_cons_succ, List.setIfInBounds_toArray, List.set_cons_zero, List.set_cons_succ])
          refine wpAnyH_take (i := 15) (v := ?v16) rfl (by kernel_rfl) (by kernel_rfl) (by kernel_rfl) (fun _ _ _ h => h) (Or.inl ⟨by kernel_rfl, ?hy16⟩) (by assumption) ?rest16
          case hy16 => intro w hSw; (try dsimp only at hSw); obtain ⟨p1, p2, p3, p4, x0, x1, x2, x3, x4, x5, x6, y0, y1, y2, y3, y4, y5, y6⟩ := FX.out w hSw; go_simp; (first | done | with_reducible rfl)
          (try simp only [Act.put, List.getElem_toArray, List.getElem_cons_zero, List.getElem_cons_succ, List.setIfInBounds_toArray, List.set_cons_zero, List.set_cons_succ])
          refine wpAnyH_ready (rs := [16]) (by kernel_rfl) (by simp) ?_
          refine AllReadyH.cons rfl (fun K hK => ?_) AllReadyH.nil
          go_simp
          go_at_call 18
          with_reducible refine (OW.out _ hHeld).mono ?_
          rintro e wo ⟨xo, rfl, hro, hbo⟩
          have HBN := Lib.hid (hHeld.trans (hbo.mono hHeld.size))
          have HRO := Lib.hid hro
          obtain ⟨po, ko, rfl, -⟩ := hro
          clear hbo
          (try go_wp2_with fail)
          refine hK.out _ _ HBN.out (fun hHeld2 => ?_)
          clear hK K hHeld
          have hHeld := hHeld2
          clear hHeld2
          (try simp only [Act.put, List.getElem_toArray, List.getElem_cons_zero, List.getElem_cons_succ, List.setIfInBounds_toArray, List.set_cons_zero, List.set_cons_succ])
          have SMW := Lib.hid (SM.out _ _ HBN.out HRO.out)
          clear HRO
          (try simp only [Cl.val] at SMW)
          (try simp only [Cl.val])
          refine wpAnyH_ready (rs := [17]) (by kernel_rfl) (by simp) ?_
          refine AllReadyH.cons rfl (fun K hK => ?_) AllReadyH.nil
          go_simp
          go_at_call 17
          with_reducible refine SMW.out.mono ?_
          rintro e ws ⟨rfl, hbs⟩
          have HBM := Lib.hid (HBN.out.trans (hbs.mono HBN.out.size))
          have HBN := HBM
          clear hbs
          (try go_wp2_with fail)
          refine hK.out _ _ HBN.out (fun hHeld2 => ?_)
          clear hK K hHeld
          have hHeld := hHeld2
          clear hHeld2
          (try simp only [Act.put, List.getElem_toArray, List.getElem_cons_zero, List.getElem_cons_succ, List.setIfInBounds_toArray, List.set_cons_zero, List.set_cons_succ])
          refine wpAnyH_take (i := 18) (v := ?v17) rfl (by kernel_rfl) (by kernel_rfl) (by kernel_rfl) (fun _ _ _ h => h) (Or.inl ⟨by kernel_rfl, ?hy17⟩) (by assumption) ?rest17
          case hy17 => intro w hSw; (try dsimp only at hSw); go_simp; (first | done | with_reducible rfl)
          (try simp only [Act.put, List.getElem_toArray, List.getElem_cons_zero, List.getElem_cons_succ, List.setIfInBounds_toArray, List.set_cons_zero, List.set_cons_succ])
          refine wpAnyH_done (by kernel_rfl) ?_ _
          clear x0 x1 x2 x3 x4 y0 y1 y2 y3 y4 v1 v2
          go_wp2_with fail
          go_roundw
          case rel => exact ⟨k + 1, by first | rw [WK.out] | simp, Lib.hid HKL.out, HBN⟩
          case measure => first | exact sc_meas' l.length k HKL.out | (rw [WK.out]; exact sc_meas l.length k HKL.out)
        · have h9 : k = l.length := by have := HKK.out; omega
          subst h9
          have hki : ¬ (l.length : Int) < (l.length : Int) := by omega
          go_wp2_with fail
          go_roundw
          case rel => exact ⟨q + 1, by first | rw [WQ.out] | simp, Lib.hid HLT.out, HB2⟩
          case measure => first | exact sc_meas' cs.length q HLT.out | (rw [WQ.out]; exact sc_meas cs.length q HLT.out)
    · have h9 : q = cs.length := by have := HQ.out; omega
      subst h9
      have hqi : ¬ (cs.length : Int) < (cs.length : Int) := by omega
      go_wp2_with fail
      go_ret
      exact ⟨rfl, HBZ.out⟩
end Go.Proofs.YtoejflnlkapkiaaDoor
