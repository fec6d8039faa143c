/- The reference of layer 32: Get. -/
import Derived.Test.YtncpikaegcookaaLs3
namespace Go.Proofs.Ytncpikaegcookaa
open Go.ChangeShapes Go.WideShapes Go.ChangeAt Go.RowKit
set_option linter.unusedVariables false
set_option linter.unusedSimpArgs false
theorem results_l3 {P : Program} {fn : Func} {p a b : Tmp} {ty : TypeId} (h : fn.results = #[.cell p ty, .tmp a, .tmp b]) (tmps : Array Value) (w : World) (g : Nat) (t : TypeId) (cs : Array Value) (fr : Nat × Nat) (d : TypeDesc) (x y : Value)
    (hp : tmps.getD p undef = .pointer (some ⟨g, 0, none⟩)) (ha : tmps.getD a undef = x) (hb : tmps.getD b undef = y) (hg : w.heap[g]? = some (.cells cs t fr))
    (hu : P.underlying ty = some d) (hd : (match d with | .struct _ | .array _ _ => true | _ => false) = true) (hi : (P.info? ty).map (·.size) = some cs.size) :
    (results fn tmps).run P w = .ok (.tuple #[.agg cs, x, y]) w := by
  have e : tmps[p]?.getD undef = .pointer (some ⟨g, 0, none⟩) := by simpa using hp
  have ea : tmps[a]?.getD undef = x := by simpa using ha
  have eb : tmps[b]?.getD undef = y := by simpa using hb
  simp [results, h, e, ea, eb, asAddr, run_loadVar_row w g t ty cs fr d hg hu hd hi]
theorem getN_front {s : List (Int × Int)} {k : Int} (h : (valN s k).2 = true) : getN s k = (k, (valN s k).1) :: delN s k := by
  cases hv : vidx s k with
  | none => rw [valN_none hv] at h; cases h
  | some j =>
    obtain ⟨p, hp, hk⟩ := vidx_some hv
    rw [getN_some hv hp, valN_some hv hp, delN_some hv, ← hk]
theorem getN_miss {s : List (Int × Int)} {k : Int} (h : (valN s k).2 = false) : getN s k = s := by
  cases hv : vidx s k with
  | none => rw [getN_none hv]
  | some j =>
    obtain ⟨p, hp, hk⟩ := vidx_some hv
    rw [valN_some hv hp] at h; cases h
set_option maxRecDepth 100000 in
set_option maxHeartbeats 8000000 in
theorem r32_get (room : Int) (s : List (Int × Int)) (pk : Option Addr) (ck : Nat) (pv : Option Addr) (cv : Nat) (k : Int) (W : World) (h : LR W s pk ck pv cv) (hn : s.length ≤ 65) :
    Calls Try.prog 11 #[lrv room s.length pk ck pv cv, .int .i64 k] W fun e w' => (∃ qk dk qv dv, e = .returned (.tuple #[lrv room (getN s k).length qk dk qv dv, .int .i64 (valN s k).1, .bool (valN s k).2]) ∧ LR w' (getN s k) qk dk qv dv ∧ Near W.heap.size pk qk ∧ Near W.heap.size pv qv) ∧ Below W.heap.size W w' := by
  have H := Lib.hid h
  clear h
  unfold lrv
  obtain ⟨x0, hx0, r0, r1, hB, hs⟩ := clone_start W (.int .i64 room) (.slice pk s.length ck) (.slice pv s.length cv) (.int .i64 0) (.slice none 0 0) (.slice none 0 0) 32
  have HD := Lib.hid (show DS W x0 (.int .i64 room) (.slice pk s.length ck) (.slice pv s.length cv) from ⟨r0, r1, hB⟩)
  have CP := Lib.hid (r32_peek room s pk ck pv cv k x0 (H.out.below hB))
  have CF := Lib.hid (fun a w (hb : Below W.heap.size W w) => r32_front room s pk ck pv cv k a w (H.out.below hb) hn)
  unfold lrv at CP CF
  go_enter Try.func11, Try.ntmps11
  go_upto_region 1 with fail
  rw [← hx0]
  clear hx0 hB hs
  obtain ⟨g0, g1, g2, f0, f1, f2⟩ := row_cells3 r0
  have hl := g_lt r0
  clear r0 r1
  go_wp2_with fail
  refine (CP.out).mono ?_
  rintro e x1 ⟨rfl, hb1⟩
  have HD1 := Lib.hid (HD.out.next hb1)
  clear g0 g1 g2 f0 f1 f2 hb1 hl hn
  obtain ⟨g0, g1, g2, f0, f1, f2⟩ := row_cells3 HD1.out.d0
  obtain ⟨q0, q1, q2, e0, e1, e2⟩ := row_cells3 HD1.out.d1
  have hl0 := g_lt HD1.out.d0
  have hl1 := g_lt HD1.out.d1
  obtain ⟨a, ha⟩ : ∃ a, (valN s k).1 = a := ⟨_, rfl⟩
  cases hv : (valN s k).2 with
  | false =>
    have HG := Lib.hid (getN_miss hv)
    have HA := Lib.hid (And.intro ha hv)
    have HZ := Lib.hid (row_put3 (a := .int .i64 room) (b := .slice pk s.length ck) (c := .slice pv s.length cv) HD1.out.d1)
    have HZB := Lib.hid (below_put3 (g := W.heap.size + 1) HD1.out.be (by omega) (.int .i64 room) (.slice pk s.length ck) (.slice pv s.length cv))
    rw [ha]
    clear hv ha
    go_wp2_with fail
    refine bodyPost_ret (results_l3 (p := 4) (a := 5) (b := 6) (ty := 32) rfl _ _ _ 32 #[.int .i64 room, .slice pk s.length ck, .slice pv s.length cv] (0, 0) _ (.int .i64 a) (.bool false) rfl rfl rfl HZ.out Try.underlying32 rfl (by kernel_rfl)) rfl ?_
    exact ⟨⟨pk, ck, pv, cv, by rw [HG.out, HA.out.1, HA.out.2], by rw [HG.out]; exact H.out.below HZB.out, .inl rfl, .inl rfl⟩, HZB.out⟩
  | true =>
    have HG := Lib.hid (getN_front hv)
    have HA := Lib.hid (And.intro ha hv)
    rw [ha]
    clear hv
    go_wp2_with fail
    refine (CF.out a _ HD1.out.be).mono ?_
    rintro e x2 ⟨⟨pd, cd, pe, ce, rfl, h2, hfd, hfe⟩, hb2⟩
    have HFD := Lib.hid (And.intro hfd hfe)
    have HL1 := Lib.hid hl1
    have HD2 := Lib.hid (HD1.out.next hb2)
    have H2 := Lib.hid h2
    obtain ⟨s2, hs2⟩ : ∃ s2, (k, a) :: delN s k = s2 := ⟨_, rfl⟩
    rw [HA.out.1, hs2] at HG
    rw [hs2] at H2 ⊢
    clear hs2 h2 hb2 hfd hfe g0 g1 g2 f0 f1 f2 q0 q1 q2 e0 e1 e2 hl0 hl1 ha
    obtain ⟨g0, g1, g2, f0, f1, f2⟩ := row_cells3 HD2.out.d0
    have hl0 := g_lt HD2.out.d0
    have hd1 : (((x2.setCell ⟨W.heap.size, 0, none⟩ (.int .i64 room)).setCell ⟨W.heap.size, 1, none⟩ (.slice pd s2.length cd)).setCell ⟨W.heap.size, 2, none⟩ (.slice pe s2.length ce)).heap[W.heap.size + 1]? = some (.cells #[.int .i64 0, .slice none 0 0, .slice none 0 0] 32 (0, 0)) := by
      rw [heap_setCell_other _ _ _ _ (by show W.heap.size + 1 ≠ W.heap.size; omega), heap_setCell_other _ _ _ _ (by show W.heap.size + 1 ≠ W.heap.size; omega), heap_setCell_other _ _ _ _ (by show W.heap.size + 1 ≠ W.heap.size; omega)]; exact HD2.out.d1
    have HD3 := Lib.hid (show DS W (((x2.setCell ⟨W.heap.size, 0, none⟩ (.int .i64 room)).setCell ⟨W.heap.size, 1, none⟩ (.slice pd s2.length cd)).setCell ⟨W.heap.size, 2, none⟩ (.slice pe s2.length ce)) (.int .i64 room) (.slice pd s2.length cd) (.slice pe s2.length ce) from ⟨row_put3 HD2.out.d0, hd1, below_put3 HD2.out.be (Nat.le_refl _) _ _ _⟩)
    have H3 := Lib.hid (H2.out.put3 (p' := pd) (n' := s2.length) (c' := cd) (q' := pe) (m' := s2.length) (d' := ce) HD2.out.d0)
    clear hd1
    obtain ⟨x3, hx3⟩ : ∃ x3, x3 = ((x2.setCell ⟨W.heap.size, 0, none⟩ (.int .i64 room)).setCell ⟨W.heap.size, 1, none⟩ (.slice pd s2.length cd)).setCell ⟨W.heap.size, 2, none⟩ (.slice pe s2.length ce) := ⟨_, rfl⟩
    rw [← hx3] at HD3 H3
    go_upto_region 4 with fail
    rw [← hx3]
    clear hx3 g0 g1 g2 f0 f1 f2 hl0
    obtain ⟨g0, g1, g2, f0, f1, f2⟩ := row_cells3 HD3.out.d0
    obtain ⟨q0, q1, q2, e0, e1, e2⟩ := row_cells3 HD3.out.d1
    have hl0 := g_lt HD3.out.d0
    have hl1 := g_lt HD3.out.d1
    have HZ := Lib.hid (row_put3 (a := .int .i64 room) (b := .slice pd s2.length cd) (c := .slice pe s2.length ce) HD3.out.d1)
    have HZB := Lib.hid (below_put3 (g := W.heap.size + 1) HD3.out.be (by omega) (.int .i64 room) (.slice pd s2.length cd) (.slice pe s2.length ce))
    have HLZ := Lib.hid (((H3.out.far (X := W.heap.size + 1) (o := 0) (u := .int .i64 room) HFD.out.1 HFD.out.2 HL1.out).far (X := W.heap.size + 1) (o := 1) (u := .slice pd s2.length cd) HFD.out.1 HFD.out.2 HL1.out).far (X := W.heap.size + 1) (o := 2) (u := .slice pe s2.length ce) HFD.out.1 HFD.out.2 HL1.out)
    go_wp2_with fail
    refine bodyPost_ret (results_l3 (p := 4) (a := 5) (b := 6) (ty := 32) rfl _ _ _ 32 #[.int .i64 room, .slice pd s2.length cd, .slice pe s2.length ce] (0, 0) _ (.int .i64 a) (.bool true) rfl rfl rfl HZ.out Try.underlying32 rfl (by kernel_rfl)) rfl ?_
    exact ⟨⟨pd, cd, pe, ce, by rw [HG.out, HA.out.1, HA.out.2], by rw [HG.out]; exact HLZ.out, .inr (HFD.out.1.mono HD1.out.be.size), .inr (HFD.out.2.mono HD1.out.be.size)⟩, HZB.out⟩
end Go.Proofs.Ytncpikaegcookaa
