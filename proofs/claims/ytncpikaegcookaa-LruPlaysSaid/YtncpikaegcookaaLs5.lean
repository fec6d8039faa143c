/- The reference of layer 32: Put. -/
import Derived.Test.YtncpikaegcookaaLs4
import Derived.Test.YtncpikaegcookaaGatet
import Derived.Deep.Cut
namespace Go.Proofs.Ytncpikaegcookaa
open Go.ChangeShapes Go.WideShapes Go.ChangeAt Go.RowKit
set_option linter.unusedVariables false
set_option linter.unusedSimpArgs false
theorem take_last {α : Type} (l : List α) (n : Nat) (h : l.length = n + 1) : l.eraseIdx n = l.take n := by
  rw [List.eraseIdx_eq_take_drop_succ, List.drop_of_length_le (by omega), List.append_nil]
theorem put_case {room : Int} {s : List (Int × Int)} {k v : Int} (hr : (s.length : Int) ≤ room) :
    (((((k, v) :: delN s k).length : Int) - 1 ≠ room) ∧ putL room s k v = (k, v) :: delN s k ∧ putV room s k v = valN s k) ∨
    (∃ (n : Nat) (x : Int), ((k, v) :: delN s k).length = n + 1 ∧ (n : Int) = room ∧ putL room s k v = ((k, v) :: delN s k).take n ∧ putV room s k v = (x, true) ∧ (((k, v) :: delN s k).map Prod.snd)[n]? = some x) := by
  cases hv : vidx s k with
  | some j =>
    have hj := vidx_lt hv
    refine .inl ⟨?_, by rw [(putL_some hv).1, delN_some hv], (putL_some hv).2⟩
    rw [delN_some hv, List.length_cons, List.length_eraseIdx, if_pos hj]; omega
  | none =>
    by_cases h1 : (s.length : Int) + 1 ≤ room
    · refine .inl ⟨?_, by rw [(putL_room hv h1).1, delN_none hv], by rw [(putL_room hv h1).2, valN_none hv]⟩
      rw [delN_none hv, List.length_cons]; omega
    · obtain ⟨p, hp⟩ : ∃ p, ((k, v) :: s)[s.length]? = some p := ⟨_, List.getElem?_eq_getElem (by simp)⟩
      refine .inr ⟨s.length, p.2, by rw [delN_none hv]; rfl, by omega, ?_, ?_, ?_⟩
      · rw [(putL_full hv h1).1, delN_none hv, take_last _ _ rfl]
      · rw [(putL_full hv h1).2, hp]; rfl
      · rw [delN_none hv, List.getElem?_map, hp]; rfl
set_option maxRecDepth 100000 in
set_option maxHeartbeats 8000000 in
theorem r32_put (room : Int) (s : List (Int × Int)) (pk : Option Addr) (ck : Nat) (pv : Option Addr) (cv : Nat) (k v : Int) (W : World) (h : LR W s pk ck pv cv) (hn : s.length ≤ 64) (hr : (s.length : Int) ≤ room) :
    Calls Try.prog 15 #[lrv room s.length pk ck pv cv, .int .i64 k, .int .i64 v] W fun e w' => (∃ qk dk qv dv, e = .returned (.tuple #[lrv room (putL room s k v).length qk dk qv dv, .int .i64 (putV room s k v).1, .bool (putV room s k v).2]) ∧ LR w' (putL room s k v) qk dk qv dv ∧ Fresh W.heap.size qk ∧ Fresh W.heap.size qv) ∧ Below W.heap.size W w' := by
  have H := Lib.hid h
  clear h
  unfold lrv
  obtain ⟨x0, hx0, r0, r1, hB, hs⟩ := clone_start W (.int .i64 room) (.slice pk s.length ck) (.slice pv s.length cv) (.int .i64 0) (.slice none 0 0) (.slice none 0 0) 32
  have HD := Lib.hid (show DS W x0 (.int .i64 room) (.slice pk s.length ck) (.slice pv s.length cv) from ⟨r0, r1, hB⟩)
  have CP := Lib.hid (r32_peek room s pk ck pv cv k x0 (H.out.below hB))
  have CF := Lib.hid (fun w (hb : Below W.heap.size W w) => r32_front room s pk ck pv cv k v w (H.out.below hb) (by omega))
  have HC := Lib.hid (put_case (k := k) (v := v) hr)
  have HN := Lib.hid (show ((k, v) :: delN s k).length ≤ 65 by have := delN_len s k; rw [List.length_cons]; omega)
  unfold lrv at CP CF
  go_enter Try.func15, Try.ntmps15
  go_upto_region 1 with fail
  rw [← hx0]
  clear hx0 hB hs
  obtain ⟨g0, g1, g2, f0, f1, f2⟩ := row_cells3 r0
  have hl := g_lt r0
  clear r0 r1
  go_upto_region 2 with fail
  go_wp2_with fail
  refine (CP.out).mono ?_
  rintro e x1 ⟨rfl, hb1⟩
  have HD1 := Lib.hid (HD.out.next hb1)
  clear g0 g1 g2 f0 f1 f2 hb1 hl hn hr
  obtain ⟨g0, g1, g2, f0, f1, f2⟩ := row_cells3 HD1.out.d0
  have hl0 := g_lt HD1.out.d0
  have hl1 := g_lt HD1.out.d1
  obtain ⟨a, ha⟩ : ∃ a, (valN s k).1 = a := ⟨_, rfl⟩
  obtain ⟨c, hc⟩ : ∃ c, (valN s k).2 = c := ⟨_, rfl⟩
  rw [ha, hc]
  go_wp2_with fail
  refine (CF.out _ HD1.out.be).mono ?_
  rintro e x2 ⟨⟨pd, cd, pe, ce, rfl, h2, hfd, hfe⟩, hb2⟩
  have HFD := Lib.hid (And.intro hfd hfe)
  have HL1 := Lib.hid hl1
  have HD2 := Lib.hid (HD1.out.next hb2)
  have H2 := Lib.hid h2
  obtain ⟨s2, hs2⟩ : ∃ s2, (k, v) :: delN s k = s2 := ⟨_, rfl⟩
  have HM0 := Lib.hid (show 1 ≤ s2.length by rw [← hs2, List.length_cons]; omega)
  rw [hs2] at HC HN H2 ⊢
  have HV := Lib.hid (And.intro ha hc)
  clear hs2 h2 hb2 hfd hfe g0 g1 g2 f0 f1 f2 hl0 hl1 ha hc
  obtain ⟨g0, g1, g2, f0, f1, f2⟩ := row_cells3 HD2.out.d0
  have hl0 := g_lt HD2.out.d0
  have hd1 : (((x2.setCell ⟨W.heap.size, 0, none⟩ (.int .i64 room)).setCell ⟨W.heap.size, 1, none⟩ (.slice pd s2.length cd)).setCell ⟨W.heap.size, 2, none⟩ (.slice pe s2.length ce)).heap[W.heap.size + 1]? = some (.cells #[.int .i64 0, .slice none 0 0, .slice none 0 0] 32 (0, 0)) := by
    rw [heap_setCell_other _ _ _ _ (by show W.heap.size + 1 ≠ W.heap.size; omega), heap_setCell_other _ _ _ _ (by show W.heap.size + 1 ≠ W.heap.size; omega), heap_setCell_other _ _ _ _ (by show W.heap.size + 1 ≠ W.heap.size; omega)]; exact HD2.out.d1
  have HD3 := Lib.hid (show DS W (((x2.setCell ⟨W.heap.size, 0, none⟩ (.int .i64 room)).setCell ⟨W.heap.size, 1, none⟩ (.slice pd s2.length cd)).setCell ⟨W.heap.size, 2, none⟩ (.slice pe s2.length ce)) (.int .i64 room) (.slice pd s2.length cd) (.slice pe s2.length ce) from ⟨row_put3 HD2.out.d0, hd1, below_put3 HD2.out.be (Nat.le_refl _) _ _ _⟩)
  have H3 := Lib.hid (H2.out.put3 (p' := pd) (n' := s2.length) (c' := cd) (q' := pe) (m' := s2.length) (d' := ce) HD2.out.d0)
  clear hd1
  obtain ⟨x3, hx3⟩ : ∃ x3, x3 = ((x2.setCell ⟨W.heap.size, 0, none⟩ (.int .i64 room)).setCell ⟨W.heap.size, 1, none⟩ (.slice pd s2.length cd)).setCell ⟨W.heap.size, 2, none⟩ (.slice pe s2.length ce) := ⟨_, rfl⟩
  rw [← hx3] at HD3 H3
  go_upto_region 3 with fail
  rw [← hx3]
  clear hx3 g0 g1 g2 f0 f1 f2 hl0
  obtain ⟨g0, g1, g2, f0, f1, f2⟩ := row_cells3 HD3.out.d0
  obtain ⟨q0, q1, q2, e0, e1, e2⟩ := row_cells3 HD3.out.d1
  have hl0 := g_lt HD3.out.d0
  have hl1 := g_lt HD3.out.d1
  obtain ⟨m, hm⟩ : ∃ m, s2.length = m + 1 := ⟨s2.length - 1, by have := HM0.out; omega⟩
  have WR : wrap64 ((s2.length : Int) - 1) = (m : Int) := by have := HN.out; simp only [wrap64]; omega
  have WR2 : IntKind.i64.wrap ((s2.length : Int) - 1) = (m : Int) := by have := HN.out; simp only [IntKind.wrap_i64]; omega
  have HM := Lib.hid hm
  clear hm
  rcases HC.out with ⟨h1, h2, h3⟩ | ⟨n, x, h1, h2, h3, h4, h5⟩
  · have hq : ((m : Int) == room) = false := by have := HM.out; simp only [beq_eq_false_iff_ne, ne_eq]; omega
    have HZ := Lib.hid (row_put3 (a := .int .i64 room) (b := .slice pd s2.length cd) (c := .slice pe s2.length ce) HD3.out.d1)
    have HZB := Lib.hid (below_put3 (g := W.heap.size + 1) HD3.out.be (by omega) (.int .i64 room) (.slice pd s2.length cd) (.slice pe s2.length ce))
    have HLZ := Lib.hid (((H3.out.far (X := W.heap.size + 1) (o := 0) (u := .int .i64 room) HFD.out.1 HFD.out.2 HL1.out).far (X := W.heap.size + 1) (o := 1) (u := .slice pd s2.length cd) HFD.out.1 HFD.out.2 HL1.out).far (X := W.heap.size + 1) (o := 2) (u := .slice pe s2.length ce) HFD.out.1 HFD.out.2 HL1.out)
    have HG := Lib.hid (And.intro h2 h3)
    clear h1 h2 h3
    go_wp2_with fail
    refine bodyPost_ret (results_l3 (p := 6) (a := 7) (b := 8) (ty := 32) rfl _ _ _ 32 #[.int .i64 room, .slice pd s2.length cd, .slice pe s2.length ce] (0, 0) _ (.int .i64 a) (.bool c) rfl rfl rfl HZ.out Try.underlying32 rfl (by kernel_rfl)) rfl ?_
    exact ⟨⟨pd, cd, pe, ce, by rw [HG.out.1, HG.out.2, HV.out.1, HV.out.2], by rw [HG.out.1]; exact HLZ.out, HFD.out.1.mono HD1.out.be.size, HFD.out.2.mono HD1.out.be.size⟩, HZB.out⟩
  · have hq : ((m : Int) == room) = true := by have := HM.out; simp only [beq_iff_eq]; omega
    obtain ⟨b, o, rfl, hb, hcx⟩ := reads_at H3.out.v h5
    have hnm : n = m := by have := HM.out; omega
    subst hnm
    have hn0 : (0 : Int) ≤ (n : Int) := by omega
    have hn1 : (n : Int) < (s2.length : Int) := by omega
    have hck := H3.out.ck
    have hcv := H3.out.cv
    have hn2 : (n : Int) ≤ (cd : Int) := by omega
    have hn3 : (n : Int) ≤ (ce : Int) := by omega
    have HG := Lib.hid (And.intro h3 h4)
    have HK := Lib.hid (And.intro hck hcv)
    clear h1 h2 h3 h4 h5 hck hcv
    go_upto_region 6 with fail
    --A
    refine region_gate (fun w' => w' = x3.drew) 9 (by kernel_rfl) rfl (fun hHeld => ?_)
    clear hHeld
    refine gate_take (i := 0) (v := ?v0) rfl (by kernel_rfl) (by kernel_rfl) (by kernel_rfl) (by kernel_rfl) (by kernel_rfl) (fun _ _ _ h => h) (Or.inl ⟨by kernel_rfl, ?hy0⟩) rfl ?rest0
    case hy0 => intro w hSw; subst hSw; go_simp; (first | done | with_reducible rfl)
    (try simp only [Act.put, List.getElem_toArray, List.getElem_cons_zero, List.getElem_cons_succ, List.setIfInBounds_toArray, List.set_cons_zero, List.set_cons_succ])
    refine gate_take (i := 1) (v := ?v1) rfl (by kernel_rfl) (by kernel_rfl) (by kernel_rfl) (by kernel_rfl) (by kernel_rfl) (fun _ _ _ h => h) (Or.inl ⟨by kernel_rfl, ?hy1⟩) rfl ?rest1
    case hy1 => intro w hSw; subst hSw; go_simp; (first | done | with_reducible rfl)
    (try simp only [Act.put, List.getElem_toArray, List.getElem_cons_zero, List.getElem_cons_succ, List.setIfInBounds_toArray, List.set_cons_zero, List.set_cons_succ])
    refine gate_take (i := 2) (v := ?v2) rfl (by kernel_rfl) (by kernel_rfl) (by kernel_rfl) (by kernel_rfl) (by kernel_rfl) (fun _ _ _ h => h) (Or.inl ⟨by kernel_rfl, ?hy2⟩) rfl ?rest2
    case hy2 => intro w hSw; subst hSw; go_simp; (first | done | with_reducible rfl)
    (try simp only [Act.put, List.getElem_toArray, List.getElem_cons_zero, List.getElem_cons_succ, List.setIfInBounds_toArray, List.set_cons_zero, List.set_cons_succ])
    refine gate_take (i := 3) (v := ?v3) rfl (by kernel_rfl) (by kernel_rfl) (by kernel_rfl) (by kernel_rfl) (by kernel_rfl) (fun _ _ _ h => h) (Or.inl ⟨by kernel_rfl, ?hy3⟩) rfl ?rest3
    case hy3 => intro w hSw; subst hSw; go_simp; (first | done | with_reducible rfl)
    (try simp only [Act.put, List.getElem_toArray, List.getElem_cons_zero, List.getElem_cons_succ, List.setIfInBounds_toArray, List.set_cons_zero, List.set_cons_succ])
    refine gate_take (i := 4) (v := ?v4) rfl (by kernel_rfl) (by kernel_rfl) (by kernel_rfl) (by kernel_rfl) (by kernel_rfl) (fun _ _ _ h => h) (Or.inl ⟨by kernel_rfl, ?hy4⟩) rfl ?rest4
    case hy4 => intro w hSw; subst hSw; go_simp; (first | done | with_reducible rfl)
    (try simp only [Act.put, List.getElem_toArray, List.getElem_cons_zero, List.getElem_cons_succ, List.setIfInBounds_toArray, List.set_cons_zero, List.set_cons_succ])
    refine gate_take (i := 5) (v := ?v5) rfl (by kernel_rfl) (by kernel_rfl) (by kernel_rfl) (by kernel_rfl) (by kernel_rfl) (fun _ _ _ h => h) (Or.inl ⟨by kernel_rfl, ?hy5⟩) rfl ?rest5
    case hy5 => intro w hSw; subst hSw; go_simp; (first | done | with_reducible rfl)
    (try simp only [Act.put, List.getElem_toArray, List.getElem_cons_zero, List.getElem_cons_succ, List.setIfInBounds_toArray, List.set_cons_zero, List.set_cons_succ])
    refine gate_takeF (i := 6) (v := ?v6) rfl (by kernel_rfl) (by kernel_rfl) (by kernel_rfl) (by kernel_rfl) (fun _ _ _ h => h) (Or.inl ⟨by kernel_rfl, ?hy6⟩) rfl ?rest6
    case hy6 => intro w hSw; clear hSw; go_simp; (first | done | with_reducible rfl)
    (try simp only [Act.put, List.getElem_toArray, List.getElem_cons_zero, List.getElem_cons_succ, List.setIfInBounds_toArray, List.set_cons_zero, List.set_cons_succ])
    refine gate_takeF (i := 7) (v := ?v7) rfl (by kernel_rfl) (by kernel_rfl) (by kernel_rfl) (by kernel_rfl) (fun _ _ _ h => h) (Or.inl ⟨by kernel_rfl, ?hy7⟩) rfl ?rest7
    case hy7 => intro w hSw; clear hSw; go_simp; (first | done | with_reducible rfl)
    (try simp only [Act.put, List.getElem_toArray, List.getElem_cons_zero, List.getElem_cons_succ, List.setIfInBounds_toArray, List.set_cons_zero, List.set_cons_succ])
    refine gate_take (i := 8) (v := ?v8) rfl (by kernel_rfl) (by kernel_rfl) (by kernel_rfl) (by kernel_rfl) (by kernel_rfl) (fun _ _ _ h => h) (Or.inl ⟨by kernel_rfl, ?hy8⟩) rfl ?rest8
    case hy8 => intro w hSw; subst hSw; go_simp; (first | done | with_reducible rfl)
    (try simp only [Act.put, List.getElem_toArray, List.getElem_cons_zero, List.getElem_cons_succ, List.setIfInBounds_toArray, List.set_cons_zero, List.set_cons_succ])
    refine gate_past (i := 9) rfl (by kernel_rfl) (by kernel_rfl) (fun K hK => ?_)
    go_simp
    refine hK.out _ _ ?_
    clear hK K
    (try simp only [Act.put, List.getElem_toArray, List.getElem_cons_zero, List.getElem_cons_succ, List.setIfInBounds_toArray, List.set_cons_zero, List.set_cons_succ])
    refine gate_takeP (i := 10) (v := ?v10) rfl (by kernel_rfl) (by kernel_rfl) (by kernel_rfl) (by kernel_rfl) (by kernel_rfl) (fun _ _ _ h => h) (Or.inl ⟨by kernel_rfl, ?hy10⟩) ?rest10
    case hy10 => intro w hSw; clear hSw; go_simp; (first | done | with_reducible rfl)
    (try simp only [Act.put, List.getElem_toArray, List.getElem_cons_zero, List.getElem_cons_succ, List.setIfInBounds_toArray, List.set_cons_zero, List.set_cons_succ])
    refine gate_past (i := 11) rfl (by kernel_rfl) (by kernel_rfl) (fun K hK => ?_)
    go_simp
    refine hK.out _ _ ?_
    clear hK K
    (try simp only [Act.put, List.getElem_toArray, List.getElem_cons_zero, List.getElem_cons_succ, List.setIfInBounds_toArray, List.set_cons_zero, List.set_cons_succ])
    refine gate_done (by kernel_rfl) ?_ _
    --B
    have HTL := Lib.hid (show (s2.take n).length = n by rw [List.length_take]; have := HM.out; omega)
    have HT := Lib.hid (show LR x3 (s2.take n) pd cd (some ⟨b, o, none⟩) ce from ⟨by rw [List.map_take]; exact reads_take H3.out.k n, by rw [List.map_take]; exact reads_take H3.out.v n, by rw [HTL.out]; have := HK.out; have := HM.out; omega, by rw [HTL.out]; have := HK.out; have := HM.out; omega, by rw [HTL.out]; have := HN.out; have := HM.out; omega⟩)
    have HL0 := Lib.hid (Nat.lt_trans (Nat.lt_succ_self W.heap.size) HL1.out)
    obtain ⟨x4, hx4⟩ : ∃ x4, x4 = ((x3.setCell ⟨W.heap.size, 1, none⟩ (.slice pd n cd)).setCell ⟨W.heap.size, 2, none⟩ (.slice (some ⟨b, o, none⟩) n ce)).drew := ⟨_, rfl⟩
    have HT4 := Lib.hid (show LR x4 (s2.take n) pd cd (some ⟨b, o, none⟩) ce by rw [hx4]; exact ((HT.out.far HFD.out.1 HFD.out.2 HL0.out).far HFD.out.1 HFD.out.2 HL0.out).below ((Below.refl _ _).drew))
    have HD4 := Lib.hid (show DS W x4 (.int .i64 room) (.slice pd n cd) (.slice (some ⟨b, o, none⟩) n ce) from by
      rw [hx4]
      refine ⟨?_, ?_, (((HD3.out.be.setCell (p := ⟨W.heap.size, 1, none⟩) (Nat.le_refl _) _).setCell (p := ⟨W.heap.size, 2, none⟩) (Nat.le_refl _) _).drew)⟩
      · show ((x3.setCell ⟨W.heap.size, 1, none⟩ (.slice pd n cd)).setCell ⟨W.heap.size, 2, none⟩ (.slice (some ⟨b, o, none⟩) n ce)).heap[W.heap.size]? = _
        rw [row_setCell3 (row_setCell3 HD3.out.d0 _) _]; rfl
      · show ((x3.setCell ⟨W.heap.size, 1, none⟩ (.slice pd n cd)).setCell ⟨W.heap.size, 2, none⟩ (.slice (some ⟨b, o, none⟩) n ce)).heap[W.heap.size + 1]? = _
        rw [heap_setCell_other _ _ _ _ (by show W.heap.size + 1 ≠ W.heap.size; omega), heap_setCell_other _ _ _ _ (by show W.heap.size + 1 ≠ W.heap.size; omega)]; exact HD3.out.d1)
    rw [← hx4]
    clear hx4 g0 g1 g2 f0 f1 f2 q0 q1 q2 e0 e1 e2 hl0 hl1 hcx hb
    obtain ⟨g0, g1, g2, f0, f1, f2⟩ := row_cells3 HD4.out.d0
    obtain ⟨q0, q1, q2, e0, e1, e2⟩ := row_cells3 HD4.out.d1
    have hl0 := g_lt HD4.out.d0
    have hl1 := g_lt HD4.out.d1
    have HZ := Lib.hid (row_put3 (a := .int .i64 room) (b := .slice pd n cd) (c := .slice (some ⟨b, o, none⟩) n ce) HD4.out.d1)
    have HZB := Lib.hid (below_put3 (g := W.heap.size + 1) HD4.out.be (by omega) (.int .i64 room) (.slice pd n cd) (.slice (some ⟨b, o, none⟩) n ce))
    have HLZ := Lib.hid (((HT4.out.far (X := W.heap.size + 1) (o := 0) (u := .int .i64 room) HFD.out.1 HFD.out.2 HL1.out).far (X := W.heap.size + 1) (o := 1) (u := .slice pd n cd) HFD.out.1 HFD.out.2 HL1.out).far (X := W.heap.size + 1) (o := 2) (u := .slice (some ⟨b, o, none⟩) n ce) HFD.out.1 HFD.out.2 HL1.out)
    go_wp2_with fail
    refine bodyPost_ret (results_l3 (p := 6) (a := 7) (b := 8) (ty := 32) rfl _ _ _ 32 #[.int .i64 room, .slice pd n cd, .slice (some ⟨b, o, none⟩) n ce] (0, 0) _ (.int .i64 x) (.bool true) rfl rfl rfl HZ.out Try.underlying32 rfl (by kernel_rfl)) rfl ?_
    exact ⟨⟨pd, cd, _, ce, by rw [HG.out.1, HG.out.2, HTL.out], by rw [HG.out.1]; exact HLZ.out, HFD.out.1.mono HD1.out.be.size, HFD.out.2.mono HD1.out.be.size⟩, HZB.out⟩
end Go.Proofs.Ytncpikaegcookaa
