/- Reference 46's Clients; like and none of the law. By program (genslh.py). -/
import Derived.Test.YthnpbfboedgmpaaSlg
import Derived.Test.YthnpbfboedgmpaaSlf
import Derived.StillTailTactics
namespace Go.Proofs.Ythnpbfboedgmpaa
open Go.ChangeShapes Go.WideShapes Go.ChangeAt Go.RowKit
set_option linter.unusedVariables false
set_option linter.unusedSimpArgs false
theorem sl_meas (n k : Nat) (h : k < n) : n - (intOf (.int .i64 ((k + 1 : Nat) : Int))).toNat < n - (intOf (.int .i64 (k : Int))).toNat := by simp only [intOf]; omega
theorem sl_meas' (n k : Nat) (h : k < n) : n - (intOf (.int .i64 ((k : Int) + 1))).toNat < n - (intOf (.int .i64 (k : Int))).toNat := by simp only [intOf]; omega
set_option maxRecDepth 100000 in
set_option maxHeartbeats 16000000 in
theorem r46_clients (st rm : Int) (cp cq pp qp tp sp : Option Addr) (ck cd pn pk qn qk tk sk : Nat) (cs : List (List Cl)) (ts : List Int) (W : World) (hX : RowCC W (.slice cp cs.length ck) cs) (hY : RowCC W (.slice cq cs.length cd) cs) (hcl : cs.length ≤ 2000000) (hll : ∀ l ∈ cs, l.length ≤ 2000000)
    (ht : RowI W tp ts.length ts) (ht2 : RowI W sp ts.length ts) (htl : ts.length ≤ 2000000) :
    Calls Try.prog 7 #[.agg #[.int .i64 st, .int .i64 rm, .slice cp cs.length ck, .slice pp pn pk, .slice tp ts.length tk], .agg #[.int .i64 st, .int .i64 rm, .slice cq cs.length cd, .slice qp qn qk, .slice sp ts.length sk]] W fun e w' => e = .returned (.bool true) ∧ Below W.heap.size W w' := by
  obtain ⟨w0, hw0, r0, hB0, hs0⟩ := boxG W #[.int .i64 st, .int .i64 rm, .slice cp cs.length ck, .slice pp pn pk, .slice tp ts.length tk] 30
  obtain ⟨w1, hw1, r1, hB1, hs1⟩ := boxG w0 #[.int .i64 st, .int .i64 rm, .slice cq cs.length cd, .slice qp qn qk, .slice sp ts.length sk] 30
  have HF := Lib.hid (fun (u : World) (hu : Below w1.heap.size w1 u) => And.intro (sc_cells5 ((hu.block _ (by omega)).trans ((hB1.block W.heap.size (by omega)).trans r0))) (sc_cells5 ((hu.block _ (by omega)).trans r1)))
  have hBW : Below W.heap.size W w1 := hB0.trans (hB1.mono (by omega))
  have HX := Lib.hid (fun (w : World) (h : Below w1.heap.size w1 w) => hX.below (hBW.trans (h.mono hBW.size)))
  have HY := Lib.hid (fun (w : World) (h : Below w1.heap.size w1 w) => hY.below (hBW.trans (h.mono hBW.size)))
  have HT1 := Lib.hid (ht.below hBW)
  have HT2 := Lib.hid (ht2.below hBW)
  have HB := Lib.hid hBW
  have HCL := Lib.hid hcl
  have HLL := Lib.hid hll
  have HTL := Lib.hid htl
  obtain ⟨⟨x0, x1, x2, x3, x4⟩, ⟨y0, y1, y2, y3, y4⟩⟩ := HF.out w1 (Below.refl _ _)
  clear r0 r1 hB0 hB1 hs0 hs1 hX hY hcl hll ht ht2 hBW htl
  go_enter Try.func7, Try.ntmps7
  go_wp2_with fail
  clear hw0 hw1 x0 x1 x2 x3 x4 y0 y1 y2 y3 y4
  go_loopw [5] (fun i wr => ∃ (q : Nat), i = .int .i64 q ∧ Hid (q ≤ ts.length) ∧ Hid (Below w1.heap.size w1 wr)) (fun i _ => ts.length - (intOf i).toNat)
  case atStart => exact ⟨0, rfl, Lib.hid (Nat.zero_le _), Lib.hid (Below.refl _ _)⟩
  case round =>
    obtain ⟨q, rfl, HQ, HB4⟩ := hrel
    obtain ⟨z1, rfl⟩ : ∃ w, w = wr := ⟨_, rfl⟩
    obtain ⟨⟨x0, x1, x2, x3, x4⟩, ⟨y0, y1, y2, y3, y4⟩⟩ := HF.out z1 HB4.out
    by_cases hq : q < ts.length
    · have hq0 : (0 : Int) ≤ (q : Int) := by omega
      have hqi : (q : Int) < (ts.length : Int) := by omega
      have HLT := Lib.hid hq
      have WQ := Lib.hid (show wrap64 ((q : Int) + 1) = ((q + 1 : Nat) : Int) by have := HTL.out; simp only [wrap64]; omega)
      rcases HT1.out.reads with h1 | ⟨g1, o1, rfl, hg1, h1⟩
      · rw [h1] at hq; simp at hq
      rcases HT2.out.reads with h2 | ⟨g2, o2, rfl, hg2, h2⟩
      · rw [h2] at hq; simp at hq
      obtain ⟨y, hy⟩ : ∃ y, ts.getD q 0 = y := ⟨_, rfl⟩
      have v1 := (HB4.out.cell (p := ⟨g1, o1 + q, none⟩) hg1).trans (h1 q hq)
      have v2 := (HB4.out.cell (p := ⟨g2, o2 + q, none⟩) hg2).trans (h2 q hq)
      rw [hy] at v1 v2
      clear h1 h2 hy hq
      go_wp2_with fail
      go_region
      clear x0 x1 x2 x3 x4 y0 y1 y2 y3 y4 v1 v2
      go_wp2_with fail
      go_roundw
      case rel => exact ⟨q + 1, by first | rw [WQ.out] | simp, Lib.hid HLT.out, Lib.hid HB4.out.drew⟩
      case measure => first | exact sl_meas' ts.length q HLT.out | (rw [WQ.out]; exact sl_meas ts.length q HLT.out)
    · have h9 : q = ts.length := by have := HQ.out; omega
      subst h9
      have hqi : ¬ (ts.length : Int) < (ts.length : Int) := by omega
      have HB3 := Lib.hid HB4.out
      clear hq
      go_upto_region 9 with fail
      go_loopw [6, 7] (fun i _ wr => ∃ (q : Nat), i = .int .i64 q ∧ Hid (q ≤ cs.length) ∧ Hid (Below w1.heap.size w1 wr)) (fun i _ _ => cs.length - (intOf i).toNat)
      case atStart => exact ⟨0, rfl, Lib.hid (Nat.zero_le _), HB3⟩
      case round =>
        obtain ⟨q, rfl, HQ, HB4⟩ := hrel
        obtain ⟨z1, rfl⟩ : ∃ w, w = wr := ⟨_, rfl⟩
        clear x0 x1 x2 x3 x4 y0 y1 y2 y3 y4
        obtain ⟨⟨x0, x1, x2, x3, x4⟩, ⟨y0, y1, y2, y3, y4⟩⟩ := HF.out z1 HB4.out
        have HBZ := Lib.hid (HB.out.trans (HB4.out.mono HB.out.size))
        by_cases hq : q < cs.length
        · obtain ⟨l, hl⟩ : ∃ l, cs[q]? = some l := ⟨_, List.getElem?_eq_getElem hq⟩
          have HLEN := Lib.hid (HLL.out l (List.mem_of_getElem? hl))
          have HLT := Lib.hid hq
          have hq0 : (0 : Int) ≤ (q : Int) := by omega
          have hqi : (q : Int) < (cs.length : Int) := by omega
          have WQ := Lib.hid (show wrap64 ((q : Int) + 1) = ((q + 1 : Nat) : Int) by have := HCL.out; simp only [wrap64]; omega)
          have hl2 := hl
          obtain ⟨a1, b1, e1, h1⟩ := HX.out w1 (Below.refl _ _)
          simp only [Value.slice.injEq] at e1
          obtain ⟨rfl, -, -⟩ := e1
          rcases h1 with h1 | ⟨g1, o1, rfl, hg1, h1⟩
          · rw [h1] at hq; simp at hq
          obtain ⟨u1, hu1, hr1⟩ := h1 q _ hl2
          obtain ⟨a2, b2, e2, h2⟩ := HY.out w1 (Below.refl _ _)
          simp only [Value.slice.injEq] at e2
          obtain ⟨rfl, -, -⟩ := e2
          rcases h2 with h2 | ⟨g2, o2, rfl, hg2, h2⟩
          · rw [h2] at hq; simp at hq
          obtain ⟨u2, hu2, hr2⟩ := h2 q _ hl
          have HU := Lib.hid (fun (w : World) (h : Below w1.heap.size w1 w) => And.intro ((h.cell (p := ⟨g1, o1 + q, none⟩) hg1).trans hu1) ((h.cell (p := ⟨g2, o2 + q, none⟩) hg2).trans hu2))
          have HR1 := Lib.hid (fun (w : World) (h : Below w1.heap.size w1 w) => hr1.below h)
          have HR2 := Lib.hid (fun (w : World) (h : Below w1.heap.size w1 w) => hr2.below h)
          obtain ⟨v1, v2⟩ := HU.out z1 HB4.out
          obtain ⟨lp, lc, rfl, -⟩ := hr1
          obtain ⟨mp, mc, rfl, -⟩ := hr2
          clear hl2 hq h1 h2 hu1 hu2
          go_wp2_with fail
          go_still_tail 12, (by kernel_rfl)
          change wpList _ _ _ _ _ z1.drew
          clear x0 x1 x2 x3 x4 y0 y1 y2 y3 y4 v1 v2
          obtain ⟨zd, hzd⟩ : ∃ zd, z1.drew = zd := ⟨_, rfl⟩
          have HBD := Lib.hid (show Below w1.heap.size w1 zd by rw [← hzd]; exact HB4.out.drew)
          rw [hzd]
          clear hzd
          go_wp2_with fail
          go_loopw [7] (fun j wr => ∃ (k : Nat), j = .int .i64 k ∧ Hid (k ≤ l.length) ∧ Hid (Below w1.heap.size w1 wr)) (fun j _ => l.length - (intOf j).toNat)
          case atStart => exact ⟨0, rfl, Lib.hid (Nat.zero_le _), HBD⟩
          case round =>
            obtain ⟨k, rfl, HKK, HB2⟩ := hrel
            obtain ⟨z2, rfl⟩ : ∃ w, w = wr := ⟨_, rfl⟩
            obtain ⟨⟨x0, x1, x2, x3, x4⟩, ⟨y0, y1, y2, y3, y4⟩⟩ := HF.out z2 HB2.out
            obtain ⟨v1, v2⟩ := HU.out z2 HB2.out
            by_cases hk : k < l.length
            · obtain ⟨c, hc⟩ : ∃ c, l[k]? = some c := ⟨_, List.getElem?_eq_getElem hk⟩
              have hk0 : (0 : Int) ≤ (k : Int) := by omega
              have hki : (k : Int) < (l.length : Int) := by omega
              have HKL := Lib.hid hk
              have WK := Lib.hid (show wrap64 ((k : Int) + 1) = ((k + 1 : Nat) : Int) by have := HLEN.out; simp only [wrap64]; omega)
              have hc2 := hc
              obtain ⟨a3, b3, e3, h3⟩ := HR1.out w1 (Below.refl _ _)
              simp only [Value.slice.injEq] at e3
              obtain ⟨rfl, -, -⟩ := e3
              rcases h3 with h3 | ⟨g3, o3, rfl, hg3, h3⟩
              · rw [h3] at hk; simp at hk
              obtain ⟨-, i0, i1, i2, i3, i4, i5, xv, i6, hxv⟩ := h3 k _ hc2
              obtain ⟨a4, b4, e4, h4⟩ := HR2.out w1 (Below.refl _ _)
              simp only [Value.slice.injEq] at e4
              obtain ⟨rfl, -, -⟩ := e4
              rcases h4 with h4 | ⟨g4, o4, rfl, hg4, h4⟩
              · rw [h4] at hk; simp at hk
              obtain ⟨-, j0, j1, j2, j3, j4, j5, yv, j6, hyv⟩ := h4 k _ hc
              have ON := Lib.hid (fun (w : World) (h : Below w1.heap.size w1 w) => And.intro (hxv.below h) (hyv.below h))
              have FX := Lib.hid (fun (w : World) (h : Below w1.heap.size w1 w) => And.intro (HF.out w h).1.2.2.1 (And.intro (HF.out w h).2.2.2.1 (And.intro (HU.out w h).1 (And.intro (HU.out w h).2
                (And.intro ((h.cell (p := ⟨g3, o3 + k * 7, none⟩) hg3).trans i0) (And.intro ((h.cell (p := ⟨g3, o3 + k * 7 + 1, none⟩) hg3).trans i1) (And.intro ((h.cell (p := ⟨g3, o3 + k * 7 + 2, none⟩) hg3).trans i2) (And.intro ((h.cell (p := ⟨g3, o3 + k * 7 + 3, none⟩) hg3).trans i3) (And.intro ((h.cell (p := ⟨g3, o3 + k * 7 + 4, none⟩) hg3).trans i4) (And.intro ((h.cell (p := ⟨g3, o3 + k * 7 + 5, none⟩) hg3).trans i5) (And.intro ((h.cell (p := ⟨g3, o3 + k * 7 + 6, none⟩) hg3).trans i6)
                (And.intro ((h.cell (p := ⟨g4, o4 + k * 7, none⟩) hg4).trans j0) (And.intro ((h.cell (p := ⟨g4, o4 + k * 7 + 1, none⟩) hg4).trans j1) (And.intro ((h.cell (p := ⟨g4, o4 + k * 7 + 2, none⟩) hg4).trans j2) (And.intro ((h.cell (p := ⟨g4, o4 + k * 7 + 3, none⟩) hg4).trans j3) (And.intro ((h.cell (p := ⟨g4, o4 + k * 7 + 4, none⟩) hg4).trans j4) (And.intro ((h.cell (p := ⟨g4, o4 + k * 7 + 5, none⟩) hg4).trans j5) ((h.cell (p := ⟨g4, o4 + k * 7 + 6, none⟩) hg4).trans j6))))))))))))))))))
              obtain ⟨xp, xk, rfl, -⟩ := hxv
              obtain ⟨yp, yk, rfl, -⟩ := hyv
              have ON := Lib.hid (fun (w : World) (h : Below w1.heap.size w1 w) => r37_one c.kd c.n c.dir c.s c.who c.at' c.xs xp yp xk yk w (by
                obtain ⟨p', c', e, hr⟩ := (ON.out w h).1
                simp only [Value.slice.injEq] at e
                obtain ⟨rfl, -, -⟩ := e
                exact hr) (by
                obtain ⟨p', c', e, hr⟩ := (ON.out w h).2
                simp only [Value.slice.injEq] at e
                obtain ⟨rfl, -, -⟩ := e
                exact hr))
              clear hk h3 h4 i0 i1 i2 i3 i4 i5 i6 j0 j1 j2 j3 j4 j5 j6 hc hc2
              go_upto_region 16 with fail
              refine wp_region_held_drew (S := fun w' => Below w1.heap.size w1 w') (by kernel_rfl) HB2.out.drew (fun hHeld => ?_)
              refine wpAnyH_take (i := 0) (v := ?v1) rfl (by kernel_rfl) (by kernel_rfl) (by kernel_rfl) (fun _ _ _ h => h) (Or.inl ⟨by kernel_rfl, ?hy1⟩) (by assumption) ?rest1
              case hy1 => intro w hSw; (try dsimp only at hSw); obtain ⟨p1, p2, p3, p4, x0, x1, x2, x3, x4, x5, x6, y0, y1, y2, y3, y4, y5, y6⟩ := FX.out w hSw; go_simp; (first | done | with_reducible rfl)
              (try simp only [Act.put, List.getElem_toArray, List.getElem_cons_zero, List.getElem_cons_succ, List.setIfInBounds_toArray, List.set_cons_zero, List.set_cons_succ])
              refine wpAnyH_take (i := 1) (v := ?v2) rfl (by kernel_rfl) (by kernel_rfl) (by kernel_rfl) (fun _ _ _ h => h) (Or.inl ⟨by kernel_rfl, ?hy2⟩) (by assumption) ?rest2
              case hy2 => intro w hSw; (try dsimp only at hSw); obtain ⟨p1, p2, p3, p4, x0, x1, x2, x3, x4, x5, x6, y0, y1, y2, y3, y4, y5, y6⟩ := FX.out w hSw; go_simp; (first | done | with_reducible rfl)
              (try simp only [Act.put, List.getElem_toArray, List.getElem_cons_zero, List.getElem_cons_succ, List.setIfInBounds_toArray, List.set_cons_zero, List.set_cons_succ])
              refine wpAnyH_take (i := 2) (v := ?v3) rfl (by kernel_rfl) (by kernel_rfl) (by kernel_rfl) (fun _ _ _ h => h) (Or.inl ⟨by kernel_rfl, ?hy3⟩) (by assumption) ?rest3
              case hy3 => intro w hSw; (try dsimp only at hSw); obtain ⟨p1, p2, p3, p4, x0, x1, x2, x3, x4, x5, x6, y0, y1, y2, y3, y4, y5, y6⟩ := FX.out w hSw; go_simp; (first | done | with_reducible rfl)
              (try simp only [Act.put, List.getElem_toArray, List.getElem_cons_zero, List.getElem_cons_succ, List.setIfInBounds_toArray, List.set_cons_zero, List.set_cons_succ])
              refine wpAnyH_take (i := 3) (v := ?v4) rfl (by kernel_rfl) (by kernel_rfl) (by kernel_rfl) (fun _ _ _ h => h) (Or.inl ⟨by kernel_rfl, ?hy4⟩) (by assumption) ?rest4
              case hy4 => intro w hSw; (try dsimp only at hSw); obtain ⟨p1, p2, p3, p4, x0, x1, x2, x3, x4, x5, x6, y0, y1, y2, y3, y4, y5, y6⟩ := FX.out w hSw; go_simp; (first | done | with_reducible rfl)
              (try simp only [Act.put, List.getElem_toArray, List.getElem_cons_zero, List.getElem_cons_succ, List.setIfInBounds_toArray, List.set_cons_zero, List.set_cons_succ])
              refine wpAnyH_take (i := 4) (v := ?v5) rfl (by kernel_rfl) (by kernel_rfl) (by kernel_rfl) (fun _ _ _ h => h) (Or.inl ⟨by kernel_rfl, ?hy5⟩) (by assumption) ?rest5
              case hy5 => intro w hSw; (try dsimp only at hSw); obtain ⟨p1, p2, p3, p4, x0, x1, x2, x3, x4, x5, x6, y0, y1, y2, y3, y4, y5, y6⟩ := FX.out w hSw; go_simp; (first | done | with_reducible rfl)
              (try simp only [Act.put, List.getElem_toArray, List.getElem_cons_zero, List.getElem_cons_succ, List.setIfInBounds_toArray, List.set_cons_zero, List.set_cons_succ])
              refine wpAnyH_take (i := 5) (v := ?v6) rfl (by kernel_rfl) (by kernel_rfl) (by kernel_rfl) (fun _ _ _ h => h) (Or.inl ⟨by kernel_rfl, ?hy6⟩) (by assumption) ?rest6
              case hy6 => intro w hSw; (try dsimp only at hSw); obtain ⟨p1, p2, p3, p4, x0, x1, x2, x3, x4, x5, x6, y0, y1, y2, y3, y4, y5, y6⟩ := FX.out w hSw; go_simp; (first | done | with_reducible rfl)
              (try simp only [Act.put, List.getElem_toArray, List.getElem_cons_zero, List.getElem_cons_succ, List.setIfInBounds_toArray, List.set_cons_zero, List.set_cons_succ])
              refine wpAnyH_take (i := 6) (v := ?v7) rfl (by kernel_rfl) (by kernel_rfl) (by kernel_rfl) (fun _ _ _ h => h) (Or.inl ⟨by kernel_rfl, ?hy7⟩) (by assumption) ?rest7
              case hy7 => intro w hSw; (try dsimp only at hSw); obtain ⟨p1, p2, p3, p4, x0, x1, x2, x3, x4, x5, x6, y0, y1, y2, y3, y4, y5, y6⟩ := FX.out w hSw; go_simp; (first | done | with_reducible rfl)
              (try simp only [Act.put, List.getElem_toArray, List.getElem_cons_zero, List.getElem_cons_succ, List.setIfInBounds_toArray, List.set_cons_zero, List.set_cons_succ])
              refine wpAnyH_take (i := 7) (v := ?v8) rfl (by kernel_rfl) (by kernel_rfl) (by kernel_rfl) (fun _ _ _ h => h) (Or.inl ⟨by kernel_rfl, ?hy8⟩) (by assumption) ?rest8
              case hy8 => intro w hSw; (try dsimp only at hSw); obtain ⟨p1, p2, p3, p4, x0, x1, x2, x3, x4, x5, x6, y0, y1, y2, y3, y4, y5, y6⟩ := FX.out w hSw; go_simp; (first | done | with_reducible rfl)
              (try simp only [Act.put, List.getElem_toArray, List.getElem_cons_zero, List.getElem_cons_succ, List.setIfInBounds_toArray, List.set_cons_zero, List.set_cons_succ])
              refine wpAnyH_take (i := 8) (v := ?v9) rfl (by kernel_rfl) (by kernel_rfl) (by kernel_rfl) (fun _ _ _ h => h) (Or.inl ⟨by kernel_rfl, ?hy9⟩) (by assumption) ?rest9
              case hy9 => intro w hSw; (try dsimp only at hSw); obtain ⟨p1, p2, p3, p4, x0, x1, x2, x3, x4, x5, x6, y0, y1, y2, y3, y4, y5, y6⟩ := FX.out w hSw; go_simp; (first | done | with_reducible rfl)
              (try simp only [Act.put, List.getElem_toArray, List.getElem_cons_zero, List.getElem_cons_succ, List.setIfInBounds_toArray, List.set_cons_zero, List.set_cons_succ])
              refine wpAnyH_take (i := 9) (v := ?v10) rfl (by kernel_rfl) (by kernel_rfl) (by kernel_rfl) (fun _ _ _ h => h) (Or.inl ⟨by kernel_rfl, ?hy10⟩) (by assumption) ?rest10
              case hy10 => intro w hSw; (try dsimp only at hSw); obtain ⟨p1, p2, p3, p4, x0, x1, x2, x3, x4, x5, x6, y0, y1, y2, y3, y4, y5, y6⟩ := FX.out w hSw; go_simp; (first | done | with_reducible rfl)
              (try simp only [Act.put, List.getElem_toArray, List.getElem_cons_zero, List.getElem_cons_succ, List.setIfInBounds_toArray, List.set_cons_zero, List.set_cons_succ])
              refine wpAnyH_take (i := 10) (v := ?v11) rfl (by kernel_rfl) (by kernel_rfl) (by kernel_rfl) (fun _ _ _ h => h) (Or.inl ⟨by kernel_rfl, ?hy11⟩) (by assumption) ?rest11
              case hy11 => intro w hSw; (try dsimp only at hSw); obtain ⟨p1, p2, p3, p4, x0, x1, x2, x3, x4, x5, x6, y0, y1, y2, y3, y4, y5, y6⟩ := FX.out w hSw; go_simp; (first | done | with_reducible rfl)
              (try simp only [Act.put, List.getElem_toArray, List.getElem_cons_zero, List.getElem_cons_succ, List.setIfInBounds_toArray, List.set_cons_zero, List.set_cons_succ])
              refine wpAnyH_take (i := 11) (v := ?v12) rfl (by kernel_rfl) (by kernel_rfl) (by kernel_rfl) (fun _ _ _ h => h) (Or.inl ⟨by kernel_rfl, ?hy12⟩) (by assumption) ?rest12
              case hy12 => intro w hSw; (try dsimp only at hSw); obtain ⟨p1, p2, p3, p4, x0, x1, x2, x3, x4, x5, x6, y0, y1, y2, y3, y4, y5, y6⟩ := FX.out w hSw; go_simp; (first | done | with_reducible rfl)
              (try simp only [Act.put, List.getElem_toArray, List.getElem_cons_zero, List.getElem_cons_succ, List.setIfInBounds_toArray, List.set_cons_zero, List.set_cons_succ])
              refine wpAnyH_take (i := 12) (v := ?v13) rfl (by kernel_rfl) (by kernel_rfl) (by kernel_rfl) (fun _ _ _ h => h) (Or.inl ⟨by kernel_rfl, ?hy13⟩) (by assumption) ?rest13
              case hy13 => intro w hSw; (try dsimp only at hSw); obtain ⟨p1, p2, p3, p4, x0, x1, x2, x3, x4, x5, x6, y0, y1, y2, y3, y4, y5, y6⟩ := FX.out w hSw; go_simp; (first | done | with_reducible rfl)
              (try simp only [Act.put, List.getElem_toArray, List.getElem_cons_zero, List.getElem_cons_succ, List.setIfInBounds_toArray, List.set_cons_zero, List.set_cons_succ])
              refine wpAnyH_take (i := 13) (v := ?v14) rfl (by kernel_rfl) (by kernel_rfl) (by kernel_rfl) (fun _ _ _ h => h) (Or.inl ⟨by kernel_rfl, ?hy14⟩) (by assumption) ?rest14
              case hy14 => intro w hSw; (try dsimp only at hSw); obtain ⟨p1, p2, p3, p4, x0, x1, x2, x3, x4, x5, x6, y0, y1, y2, y3, y4, y5, y6⟩ := FX.out w hSw; go_simp; (first | done | with_reducible rfl)
              (try simp only [Act.put, List.getElem_toArray, List.getElem_cons_zero, List.getElem_cons_succ, List.setIfInBounds_toArray, List.set_cons_zero, List.set_cons_succ])
              refine wpAnyH_take (i := 14) (v := ?v15) rfl (by kernel_rfl) (by kernel_rfl) (by kernel_rfl) (fun _ _ _ h => h) (Or.inl ⟨by kernel_rfl, ?hy15⟩) (by assumption) ?rest15
              case hy15 => intro w hSw; (try dsimp only at hSw); obtain ⟨p1, p2, p3, p4, x0, x1, x2, x3, x4, x5, x6, y0, y1, y2, y3, y4, y5, y6⟩ := FX.out w hSw; go_simp; (first | done | with_reducible rfl)
              (try simp only [Act.put, List.getElem_toArray, List.getElem_cons_zero, List.getElem_cons_succ, List.setIfInBounds_toArray, List.set_cons_zero, List.set_cons_succ])
              refine wpAnyH_take (i := 15) (v := ?v16) rfl (by kernel_rfl) (by kernel_rfl) (by kernel_rfl) (fun _ _ _ h => h) (Or.inl ⟨by kernel_rfl, ?hy16⟩) (by assumption) ?rest16
              case hy16 => intro w hSw; (try dsimp only at hSw); obtain ⟨p1, p2, p3, p4, x0, x1, x2, x3, x4, x5, x6, y0, y1, y2, y3, y4, y5, y6⟩ := FX.out w hSw; go_simp; (first | done | with_reducible rfl)
              (try simp only [Act.put, List.getElem_toArray, List.getElem_cons_zero, List.getElem_cons_succ, List.setIfInBounds_toArray, List.set_cons_zero, List.set_cons_succ])
              refine wpAnyH_take (i := 16) (v := ?v17) rfl (by kernel_rfl) (by kernel_rfl) (by kernel_rfl) (fun _ _ _ h => h) (Or.inl ⟨by kernel_rfl, ?hy17⟩) (by assumption) ?rest17
              case hy17 => intro w hSw; (try dsimp only at hSw); obtain ⟨p1, p2, p3, p4, x0, x1, x2, x3, x4, x5, x6, y0, y1, y2, y3, y4, y5, y6⟩ := FX.out w hSw; go_simp; (first | done | with_reducible rfl)
              (try simp only [Act.put, List.getElem_toArray, List.getElem_cons_zero, List.getElem_cons_succ, List.setIfInBounds_toArray, List.set_cons_zero, List.set_cons_succ])
              refine wpAnyH_take (i := 17) (v := ?v18) rfl (by kernel_rfl) (by kernel_rfl) (by kernel_rfl) (fun _ _ _ h => h) (Or.inl ⟨by kernel_rfl, ?hy18⟩) (by assumption) ?rest18
              case hy18 => intro w hSw; (try dsimp only at hSw); obtain ⟨p1, p2, p3, p4, x0, x1, x2, x3, x4, x5, x6, y0, y1, y2, y3, y4, y5, y6⟩ := FX.out w hSw; go_simp; (first | done | with_reducible rfl)
              (try simp only [Act.put, List.getElem_toArray, List.getElem_cons_zero, List.getElem_cons_succ, List.setIfInBounds_toArray, List.set_cons_zero, List.set_cons_succ])
              refine wpAnyH_ready (rs := [18]) (by kernel_rfl) (by simp) ?_
              refine AllReadyH.cons rfl (fun K hK => ?_) AllReadyH.nil
              go_simp
              go_at_call 20
              with_reducible refine (ON.out _ hHeld).mono ?_
              rintro e wo ⟨rfl, hbo⟩
              have HBN := Lib.hid (hHeld.trans (hbo.mono hHeld.size))
              clear hbo
              (try go_wp2_with fail)
              refine hK.out _ _ HBN.out (fun hHeld2 => ?_)
              clear hK K hHeld
              have hHeld := hHeld2
              clear hHeld2
              (try simp only [Act.put, List.getElem_toArray, List.getElem_cons_zero, List.getElem_cons_succ, List.setIfInBounds_toArray, List.set_cons_zero, List.set_cons_succ])
              refine wpAnyH_take (i := 19) (v := ?v19) rfl (by kernel_rfl) (by kernel_rfl) (by kernel_rfl) (fun _ _ _ h => h) (Or.inl ⟨by kernel_rfl, ?hy19⟩) (by assumption) ?rest19
              case hy19 => intro w hSw; (try dsimp only at hSw); go_simp; (first | done | with_reducible rfl)
              (try simp only [Act.put, List.getElem_toArray, List.getElem_cons_zero, List.getElem_cons_succ, List.setIfInBounds_toArray, List.set_cons_zero, List.set_cons_succ])
              refine wpAnyH_done (by kernel_rfl) ?_ _
              clear x0 x1 x2 x3 x4 y0 y1 y2 y3 y4 v1 v2
              go_wp2_with fail
              go_roundw
              case rel => exact ⟨k + 1, by first | rw [WK.out] | simp, Lib.hid HKL.out, HBN⟩
              case measure => first | exact sl_meas' l.length k HKL.out | (rw [WK.out]; exact sl_meas l.length k HKL.out)
            · have h9 : k = l.length := by have := HKK.out; omega
              subst h9
              have hki : ¬ (l.length : Int) < (l.length : Int) := by omega
              go_wp2_with fail
              go_roundw
              case rel => exact ⟨q + 1, by first | rw [WQ.out] | simp, Lib.hid HLT.out, HB2⟩
              case measure => first | exact sl_meas' cs.length q HLT.out | (rw [WQ.out]; exact sl_meas cs.length q HLT.out)
        · have h9 : q = cs.length := by have := HQ.out; omega
          subst h9
          have hqi : ¬ (cs.length : Int) < (cs.length : Int) := by omega
          go_wp2_with fail
          go_ret
          exact ⟨rfl, HBZ.out⟩
end Go.Proofs.Ythnpbfboedgmpaa
