/- Law 37: HistAhead. By program (genha.py). -/
import Derived.Test.YtofgkhoemgimeaaHoh
import Derived.Test.YtofgkhoemgimeaaHog
import Derived.Deep.DeepCutAuto
namespace Go.Proofs.Ytofgkhoemgimeaa
open Go.ChangeShapes Go.WideShapes Go.ChangeAt Go.RowKit
set_option linter.unusedVariables false
set_option linter.unusedSimpArgs false
theorem ovP_self (a : Ov) : OvP a a := ⟨rfl, rfl, rfl, rfl, rfl, rfl, rfl, rfl, rfl, rfl, rfl, rfl, rfl, rfl, rfl, cmpN_self _ _ _, rfl⟩
theorem step_wanted {ops : Array Oper} {o : Oper} {a : Act} {w : World} {K : Act → World → Prop} {Q : Exit → Act → World → Prop} {E' : Prop} (hw : Region.wanted o (yielded ops a.tmps) = true) (h : o.wp Try.prog a w K Q) :
    if Region.wanted o (yielded ops a.tmps) = true then Oper.wp Try.prog o a w K Q else E' := by
  rw [if_pos hw]; exact h
namespace histAhead
set_option maxRecDepth 100000 in
set_option maxHeartbeats 16000000 in
theorem walk (W : World) (cs0 : Array Value) (y0 : Ov) (hV0 : OvVal W W.heap.size cs0 y0) (hB0 : y0.big 1048576) (cs1 : Array Value) (y1 : Ov) (hV1 : OvVal W W.heap.size cs1 y1) (hB1 : y1.big 1048576) (cs2 : Array Value) (y2 : Ov) (hV2 : OvVal W W.heap.size cs2 y2) (hB2 : y2.big 1048576) :
    Calls Try.prog 5 #[.agg cs0, .agg cs1, .agg cs2] W fun e W' => e = .returned (.bool true) ∧ Below W.heap.size W W' := by
  obtain ⟨w0, hw0, r0, b0, -⟩ := box_ov W hV0.n
  obtain ⟨w1, hw1, r1, b1, -⟩ := box_ov w0 hV1.n
  obtain ⟨w2, hw2, r2, b2, -⟩ := box_ov w1 hV2.n
  have r0' := (b2.block _ (Nat.lt_of_lt_of_le (g_lt r0) b1.size)).trans ((b1.block _ (g_lt r0)).trans r0)
  have r1' := (b2.block _ (g_lt r1)).trans r1
  have B2 := Lib.hid ((b0.trans (b1.mono b0.size)).trans (b2.mono (Nat.le_trans b0.size b1.size)))
  have LT := Lib.hid (show W.heap.size < w2.heap.size ∧ w0.heap.size < w2.heap.size ∧ w1.heap.size < w2.heap.size from ⟨g_lt r0', g_lt r1', g_lt r2⟩)
  have RX := Lib.hid (fun (w : World) (h : Below w2.heap.size w2 w) => (show w.rangeAt W.heap.size 0 cs0.toList ∧ w.rangeAt w0.heap.size 0 cs1.toList ∧ w.rangeAt w1.heap.size 0 cs2.toList from
    ⟨range_ov ((h.block _ LT.out.1).trans r0'), range_ov ((h.block _ LT.out.2.1).trans r1'), range_ov ((h.block _ LT.out.2.2).trans r2)⟩))
  have C1 := Lib.hid (fun (w : World) (h : Below w2.heap.size w2 w) => And.intro (cell_ov ((h.block _ LT.out.2.1).trans r1') hV1.fr) (cell_ov ((h.block _ LT.out.2.1).trans r1') hV1.to))
  have HV := Lib.hid (fun (w : World) (h : Below w2.heap.size w2 w) => (show OvVal w W.heap.size cs0 y0 ∧ OvVal w W.heap.size cs1 y1 ∧ OvVal w W.heap.size cs2 y2 from
    ⟨hV0.below (Nat.le_refl _) (B2.out.trans (h.mono B2.out.size)), hV1.below (Nat.le_refl _) (B2.out.trans (h.mono B2.out.size)), hV2.below (Nat.le_refl _) (B2.out.trans (h.mono B2.out.size))⟩))
  have LB := Lib.hid (fun (w : World) (h : Below w2.heap.size w2 w) => Nat.le_trans B2.out.size h.size)
  have N0 := Lib.hid hV0.n
  have N1 := Lib.hid hV1.n
  have N2 := Lib.hid hV2.n
  have SZ0 := Lib.hid (show (Try.prog.info? 41).map (·.size) = some cs0.toList.length by rw [Array.length_toList, N0.out]; exact op_size)
  have SZ1 := Lib.hid (show (Try.prog.info? 41).map (·.size) = some cs1.toList.length by rw [Array.length_toList, N1.out]; exact op_size)
  have SZ2 := Lib.hid (show (Try.prog.info? 41).map (·.size) = some cs2.toList.length by rw [Array.length_toList, N2.out]; exact op_size)
  obtain ⟨P1, hP1⟩ : ∃ P, ahdB y0.to y1.fr = P := ⟨_, rfl⟩
  obtain ⟨P2, hP2⟩ : ∃ P, ahdB y1.to y2.fr = P := ⟨_, rfl⟩
  obtain ⟨P3, hP3⟩ : ∃ P, ahdB y0.to y2.fr = P := ⟨_, rfl⟩
  have AH := Lib.hid (fun (w : World) (h : Below w2.heap.size w2 w) => (show
    (Calls Try.prog 19 #[.agg cs0, .agg cs1] w fun e w' => e = .returned (.bool P1) ∧ Below w.heap.size w w') ∧
    (Calls Try.prog 19 #[.agg cs1, .agg cs2] w fun e w' => e = .returned (.bool P2) ∧ Below w.heap.size w w') ∧
    (Calls Try.prog 19 #[.agg cs0, .agg cs2] w fun e w' => e = .returned (.bool P3) ∧ Below w.heap.size w w') ∧
    (Calls Try.prog 20 #[.agg cs0, .agg cs1] w fun e w' => e = .returned (.bool P1) ∧ Below w.heap.size w w') ∧
    (Calls Try.prog 20 #[.agg cs1, .agg cs2] w fun e w' => e = .returned (.bool P2) ∧ Below w.heap.size w w') ∧
    (Calls Try.prog 20 #[.agg cs0, .agg cs2] w fun e w' => e = .returned (.bool P3) ∧ Below w.heap.size w w') from by
    obtain ⟨v0, v1, v2⟩ := HV.out w h
    rw [← hP1, ← hP2, ← hP3]
    exact ⟨hist_ahead v0 v1, hist_ahead v1 v2, hist_ahead v0 v2, r37_ahead v0 v1, r37_ahead v1 v2, r37_ahead v0 v2⟩))
  have HPP := Lib.hid (show P1 = true → P2 = true → P3 = false → y1.to ≤ y1.fr from by
    rw [← hP1, ← hP2, ← hP3]
    unfold ahdB
    intro g1 g2 g3
    have g1 := of_decide_eq_true g1
    have g2 := of_decide_eq_true g2
    have g3 := of_decide_eq_false g3
    by_cases hn : y0.to < y2.fr
    · exact absurd ⟨g1.1, hn⟩ g3
    · omega)
  obtain ⟨Q, hQ⟩ : ∃ Q, decide (OvP y1 y2) = Q := ⟨_, rfl⟩
  have SQ := Lib.hid (show ovsB [y0, y1] [y0, y2] = Q from by
    rw [ovsB, ovsB, ovsB, decide_eq_true (ovP_self y0), Bool.true_and, Bool.and_true]; exact hQ)
  have ON := Lib.hid (fun (w : World) (h : Below w2.heap.size w2 w) => (show Calls Try.prog 22 #[.agg cs1, .agg cs2] w fun e w' => e = .returned (.bool Q) ∧ Below w.heap.size w w' from by
    obtain ⟨v0, v1, v2⟩ := HV.out w h
    rw [← hQ]
    exact OvVal.one v1 v2 (LB.out w h)))
  obtain ⟨D, hD⟩ : ∃ D, gN [y0, y1, y2] = D := ⟨_, rfl⟩
  obtain ⟨x3, hx3⟩ : ∃ x3, w2.alloc (.cells (([cs0, cs1, cs2] : List (Array Value)).flatMap (·.toList)).toArray 41) = x3 := ⟨_, rfl⟩
  have B3 := Lib.hid (show Below w2.heap.size w2 x3 from hx3 ▸ (Below.refl _ _).alloc (Nat.le_refl _) _)
  have GR := Lib.hid (show Calls Try.prog 7 #[.slice (some ⟨w2.heap.size, 0, none⟩) 3 3] x3 fun e w' => e = .returned (.bool D) ∧ Below x3.heap.size x3 w' from by
    have hHeld := Below.refl w2.heap.size w2
    rw [← hD]
    refine l37_great [y0, y1, y2] _ W.heap.size x3 (ops_row (css := [cs0, cs1, cs2]) (l := [y0, y1, y2]) (LB.out _ hHeld) rfl (fun i cs x h1 h2 => by
      match i, h1, h2 with
      | 0, h1, h2 => simp at h1 h2; subst h1 h2; exact (HV.out _ hHeld).1
      | 1, h1, h2 => simp at h1 h2; subst h1 h2; exact (HV.out _ hHeld).2.1
      | 2, h1, h2 => simp at h1 h2; subst h1 h2; exact (HV.out _ hHeld).2.2) hx3) (fun x hx => ?_) (Nat.le_trans (LB.out _ hHeld) B3.out.size) (by simp)
    simp at hx
    rcases hx with rfl | rfl | rfl
    · have := hB0.cnt; omega
    · have := hB1.cnt; omega
    · have := hB2.cnt; omega)
  have X3 := Lib.hid hx3
  obtain ⟨q0, q1, q2⟩ := RX.out w2 (Below.refl _ _)
  have n0 := N0.out
  have n1 := N1.out
  have n2 := N2.out
  clear hx3 hD hQ hP1 hP2 hP3 hV0 hV1 hV2 hB0 hB1 hB2 r0 r1 r2 r0' r1' b0 b1 b2
  go_enter Try.func5, Try.ntmps5
  go_wp2_with (first | refine wpl_opw rfl _ rfl W.heap.size 0 rfl n0 q0 ?_ | refine wpl_opw rfl _ rfl w0.heap.size 0 rfl n1 q1 ?_ | refine wpl_opw rfl _ rfl w1.heap.size 0 rfl n2 q2 ?_ | refine wpl_ops rfl 3 _ rfl [cs0, cs1, cs2] rfl (by omega) (by simp [N0.out, N1.out, N2.out]) (by kernel_rfl) X3.out ?_)
  refine GR.out.mono ?_
  rintro e z1 ⟨rfl, hb1⟩
  have HZ := Lib.hid (B3.out.trans (hb1.mono B3.out.size))
  clear hb1 q0 q1 q2 hw0 hw1 hw2
  cases D
  case true =>
    go_wp2_with fail
    refine (live37 _).mono ?_
    rintro e z2 ⟨rfl, hb2⟩
    have HF := Lib.hid (B2.out.trans ((HZ.out.trans (hb2.mono HZ.out.size)).mono B2.out.size))
    clear hb2
    go_wp2_with fail
    go_ret
    exact ⟨rfl, HF.out⟩
  case false =>
    go_upto_region 3 with fail
    have Hz0 := HZ.out.trans ((Below.refl z1.heap.size z1).drew.mono HZ.out.size)
    refine wp_region_held_drew (S := fun w' => Below w2.heap.size w2 w') (by kernel_rfl) Hz0 (fun hHeld => ?_)
    refine wpAnyH_take (i := 0) (v := .agg cs0) rfl (by kernel_rfl) (by kernel_rfl) (by kernel_rfl) (fun _ _ _ h => h) (yieldsIf_load_mid (by kernel_rfl) 41 _ rfl (W.heap.size) 0 rfl cs0.toList _ (fun w h => (RX.out _ h).1) Try.underlying41 rfl (SZ0.out)) (by assumption) ?_
    (try simp only [Act.put, List.getElem_toArray, List.getElem_cons_zero, List.getElem_cons_succ, List.setIfInBounds_toArray, List.set_cons_zero, List.set_cons_succ])
    refine wpAnyH_take (i := 1) (v := .agg cs1) rfl (by kernel_rfl) (by kernel_rfl) (by kernel_rfl) (fun _ _ _ h => h) (yieldsIf_load_mid (by kernel_rfl) 41 _ rfl (w0.heap.size) 0 rfl cs1.toList _ (fun w h => (RX.out _ h).2.1) Try.underlying41 rfl (SZ1.out)) (by assumption) ?_
    (try simp only [Act.put, List.getElem_toArray, List.getElem_cons_zero, List.getElem_cons_succ, List.setIfInBounds_toArray, List.set_cons_zero, List.set_cons_succ])
    refine wpAnyH_take (i := 3) (v := .agg cs1) rfl (by kernel_rfl) (by kernel_rfl) (by kernel_rfl) (fun _ _ _ h => h) (yieldsIf_load_mid (by kernel_rfl) 41 _ rfl (w0.heap.size) 0 rfl cs1.toList _ (fun w h => (RX.out _ h).2.1) Try.underlying41 rfl (SZ1.out)) (by assumption) ?_
    (try simp only [Act.put, List.getElem_toArray, List.getElem_cons_zero, List.getElem_cons_succ, List.setIfInBounds_toArray, List.set_cons_zero, List.set_cons_succ])
    refine wpAnyH_take (i := 4) (v := .agg cs2) rfl (by kernel_rfl) (by kernel_rfl) (by kernel_rfl) (fun _ _ _ h => h) (yieldsIf_load_mid (by kernel_rfl) 41 _ rfl (w1.heap.size) 0 rfl cs2.toList _ (fun w h => (RX.out _ h).2.2) Try.underlying41 rfl (SZ2.out)) (by assumption) ?_
    (try simp only [Act.put, List.getElem_toArray, List.getElem_cons_zero, List.getElem_cons_succ, List.setIfInBounds_toArray, List.set_cons_zero, List.set_cons_succ])
    refine wpAnyH_take (i := 6) (v := .agg cs0) rfl (by kernel_rfl) (by kernel_rfl) (by kernel_rfl) (fun _ _ _ h => h) (yieldsIf_load_mid (by kernel_rfl) 41 _ rfl (W.heap.size) 0 rfl cs0.toList _ (fun w h => (RX.out _ h).1) Try.underlying41 rfl (SZ0.out)) (by assumption) ?_
    (try simp only [Act.put, List.getElem_toArray, List.getElem_cons_zero, List.getElem_cons_succ, List.setIfInBounds_toArray, List.set_cons_zero, List.set_cons_succ])
    refine wpAnyH_take (i := 7) (v := .agg cs2) rfl (by kernel_rfl) (by kernel_rfl) (by kernel_rfl) (fun _ _ _ h => h) (yieldsIf_load_mid (by kernel_rfl) 41 _ rfl (w1.heap.size) 0 rfl cs2.toList _ (fun w h => (RX.out _ h).2.2) Try.underlying41 rfl (SZ2.out)) (by assumption) ?_
    (try simp only [Act.put, List.getElem_toArray, List.getElem_cons_zero, List.getElem_cons_succ, List.setIfInBounds_toArray, List.set_cons_zero, List.set_cons_succ])
    refine wpAnyH_ready (rs := [2]) (by kernel_rfl) (by simp) ?_
    refine AllReadyH.cons rfl (fun K hK => ?_) AllReadyH.nil
    go_simp
    refine ((AH.out _ hHeld).1).mono ?_
    rintro e u ⟨rfl, hb⟩
    (try go_wp2_with fail)
    refine hK.out _ _ (hHeld.trans (hb.mono hHeld.size)) (fun hHeld2 => ?_)
    clear hK K hHeld
    have hHeld := hHeld2
    clear hHeld2
    (try simp only [Act.put, List.getElem_toArray, List.getElem_cons_zero, List.getElem_cons_succ, List.setIfInBounds_toArray, List.set_cons_zero, List.set_cons_succ])
    refine wpAnyH_ready (rs := [5]) (by kernel_rfl) (by simp) ?_
    refine AllReadyH.cons rfl (fun K hK => ?_) AllReadyH.nil
    go_simp
    refine ((AH.out _ hHeld).2.1).mono ?_
    rintro e u ⟨rfl, hb⟩
    (try go_wp2_with fail)
    refine hK.out _ _ (hHeld.trans (hb.mono hHeld.size)) (fun hHeld2 => ?_)
    clear hK K hHeld
    have hHeld := hHeld2
    clear hHeld2
    (try simp only [Act.put, List.getElem_toArray, List.getElem_cons_zero, List.getElem_cons_succ, List.setIfInBounds_toArray, List.set_cons_zero, List.set_cons_succ])
    refine wpAnyH_ready (rs := [8]) (by kernel_rfl) (by simp) ?_
    refine AllReadyH.cons rfl (fun K hK => ?_) AllReadyH.nil
    go_simp
    refine ((AH.out _ hHeld).2.2.1).mono ?_
    rintro e u ⟨rfl, hb⟩
    (try go_wp2_with fail)
    refine hK.out _ _ (hHeld.trans (hb.mono hHeld.size)) (fun hHeld2 => ?_)
    clear hK K hHeld
    have hHeld := hHeld2
    clear hHeld2
    (try simp only [Act.put, List.getElem_toArray, List.getElem_cons_zero, List.getElem_cons_succ, List.setIfInBounds_toArray, List.set_cons_zero, List.set_cons_succ])
    refine wpAnyH_take (i := 9) (v := ?v1) rfl (by kernel_rfl) (by kernel_rfl) (by kernel_rfl) (fun _ _ _ h => h) (Or.inl ⟨by kernel_rfl, ?hy1⟩) (by assumption) ?rest1
    case hy1 => intro w hSw; (try dsimp only at hSw); go_simp; (first | done | with_reducible rfl)
    (try simp only [Act.put, List.getElem_toArray, List.getElem_cons_zero, List.getElem_cons_succ, List.setIfInBounds_toArray, List.set_cons_zero, List.set_cons_succ])
    refine wpAnyH_take (i := 10) (v := ?v2) rfl (by kernel_rfl) (by kernel_rfl) (by kernel_rfl) (fun _ _ _ h => h) (Or.inl ⟨by kernel_rfl, ?hy2⟩) (by assumption) ?rest2
    case hy2 => intro w hSw; (try dsimp only at hSw); go_simp; (first | done | with_reducible rfl)
    (try simp only [Act.put, List.getElem_toArray, List.getElem_cons_zero, List.getElem_cons_succ, List.setIfInBounds_toArray, List.set_cons_zero, List.set_cons_succ])
    refine wpAnyH_take (i := 11) (v := ?v3) rfl (by kernel_rfl) (by kernel_rfl) (by kernel_rfl) (fun _ _ _ h => h) (Or.inl ⟨by kernel_rfl, ?hy3⟩) (by assumption) ?rest3
    case hy3 => intro w hSw; (try dsimp only at hSw); go_simp; (first | done | with_reducible rfl)
    (try simp only [Act.put, List.getElem_toArray, List.getElem_cons_zero, List.getElem_cons_succ, List.setIfInBounds_toArray, List.set_cons_zero, List.set_cons_succ])
    refine wpAnyH_done (by kernel_rfl) ?_ _
    obtain ⟨z2, hz2⟩ : ∃ z, Below w2.heap.size w2 z ∧ z = u := ⟨u, hHeld, rfl⟩
    rw [← hz2.2]
    have HZ2 := Lib.hid hz2.1
    clear hz2 hHeld
    have e1 : (P1 != P1) = false := by cases P1 <;> rfl
    have e2 : (P2 != P2) = false := by cases P2 <;> rfl
    have e3 : (P3 != P3) = false := by cases P3 <;> rfl
    obtain ⟨q0, q1, q2⟩ := RX.out z2 HZ2.out
    go_wp2_with (first | refine wpl_opw rfl _ rfl W.heap.size 0 rfl n0 q0 ?_ | refine wpl_opw rfl _ rfl w0.heap.size 0 rfl n1 q1 ?_ | refine wpl_opw rfl _ rfl w1.heap.size 0 rfl n2 q2 ?_)
    refine (AH.out z2 HZ2.out).2.2.2.1.mono ?_
    rintro e z3 ⟨rfl, hb⟩
    have HZ3 := Lib.hid (HZ2.out.trans (hb.mono HZ2.out.size))
    clear hb q0 q1 q2
    obtain ⟨q0, q1, q2⟩ := RX.out z3 HZ3.out
    go_wp2_with (first | refine wpl_opw rfl _ rfl W.heap.size 0 rfl n0 q0 ?_ | refine wpl_opw rfl _ rfl w0.heap.size 0 rfl n1 q1 ?_ | refine wpl_opw rfl _ rfl w1.heap.size 0 rfl n2 q2 ?_)
    refine (AH.out z3 HZ3.out).2.2.2.2.1.mono ?_
    rintro e z4 ⟨rfl, hb⟩
    have HZ4 := Lib.hid (HZ3.out.trans (hb.mono HZ3.out.size))
    clear hb q0 q1 q2
    obtain ⟨q0, q1, q2⟩ := RX.out z4 HZ4.out
    go_wp2_with (first | refine wpl_opw rfl _ rfl W.heap.size 0 rfl n0 q0 ?_ | refine wpl_opw rfl _ rfl w0.heap.size 0 rfl n1 q1 ?_ | refine wpl_opw rfl _ rfl w1.heap.size 0 rfl n2 q2 ?_)
    refine (AH.out z4 HZ4.out).2.2.2.2.2.mono ?_
    rintro e z5 ⟨rfl, hb⟩
    have HZ5 := Lib.hid (HZ4.out.trans (hb.mono HZ4.out.size))
    clear hb q0 q1 q2
    go_upto_region 6 with fail
    go_cut [58] (fun x wx => x = .bool false ∧ Hid (Below w2.heap.size w2 wx))
    case first =>
      obtain ⟨c17, c18⟩ := C1.out z5 HZ5.out
      have hp := HPP.out
      cases P1
      case false =>
        clear hp
        go_wp2_with fail
        go_meet
        case rel => exact ⟨rfl, HZ5⟩
      cases P2
      case false =>
        clear hp
        go_wp2_with fail
        go_meet
        case rel => exact ⟨rfl, HZ5⟩
      cases P3
      case true =>
        clear hp
        go_wp2_with fail
        go_meet
        case rel => exact ⟨rfl, HZ5⟩
      case false =>
        have hle := hp rfl rfl rfl
        have hcmp : ¬ y1.fr < y1.to := by omega
        clear hp hle
        go_wp2_with fail
        go_meet
        case rel => exact ⟨rfl, HZ5⟩
    case rest =>
      obtain ⟨rfl, HZ6⟩ := hcut
      obtain ⟨z6, rfl⟩ : ∃ z, z = wc := ⟨_, rfl⟩
      go_upto_region 8 with fail
      have Hz0 := HZ6.out.trans ((Below.refl z6.heap.size z6).drew.mono HZ6.out.size)
      refine wp_region_held_drew (S := fun w' => Below w2.heap.size w2 w') (by kernel_rfl) Hz0 (fun hHeld => ?_)
      generalize z6.drew = u at *
      have hqq : (Q == Q) = true := by cases Q <;> rfl
      refine wpAnyH_take (i := 0) (v := .agg cs0) rfl (by kernel_rfl) (by kernel_rfl) (by kernel_rfl) (fun _ _ _ h => h) (yieldsIf_load_mid (by kernel_rfl) 41 _ rfl (W.heap.size) 0 rfl cs0.toList _ (fun w h => (RX.out _ h).1) Try.underlying41 rfl (SZ0.out)) (by assumption) ?_
      (try simp only [Act.put, List.getElem_toArray, List.getElem_cons_zero, List.getElem_cons_succ, List.setIfInBounds_toArray, List.set_cons_zero, List.set_cons_succ])
      refine wpAnyH_take (i := 1) (v := .agg cs1) rfl (by kernel_rfl) (by kernel_rfl) (by kernel_rfl) (fun _ _ _ h => h) (yieldsIf_load_mid (by kernel_rfl) 41 _ rfl (w0.heap.size) 0 rfl cs1.toList _ (fun w h => (RX.out _ h).2.1) Try.underlying41 rfl (SZ1.out)) (by assumption) ?_
      (try simp only [Act.put, List.getElem_toArray, List.getElem_cons_zero, List.getElem_cons_succ, List.setIfInBounds_toArray, List.set_cons_zero, List.set_cons_succ])
      refine wpAnyH_take (i := 3) (v := .agg cs0) rfl (by kernel_rfl) (by kernel_rfl) (by kernel_rfl) (fun _ _ _ h => h) (yieldsIf_load_mid (by kernel_rfl) 41 _ rfl (W.heap.size) 0 rfl cs0.toList _ (fun w h => (RX.out _ h).1) Try.underlying41 rfl (SZ0.out)) (by assumption) ?_
      (try simp only [Act.put, List.getElem_toArray, List.getElem_cons_zero, List.getElem_cons_succ, List.setIfInBounds_toArray, List.set_cons_zero, List.set_cons_succ])
      refine wpAnyH_take (i := 4) (v := .agg cs2) rfl (by kernel_rfl) (by kernel_rfl) (by kernel_rfl) (fun _ _ _ h => h) (yieldsIf_load_mid (by kernel_rfl) 41 _ rfl (w1.heap.size) 0 rfl cs2.toList _ (fun w h => (RX.out _ h).2.2) Try.underlying41 rfl (SZ2.out)) (by assumption) ?_
      (try simp only [Act.put, List.getElem_toArray, List.getElem_cons_zero, List.getElem_cons_succ, List.setIfInBounds_toArray, List.set_cons_zero, List.set_cons_succ])
      refine wpAnyH_take (i := 7) (v := .agg cs1) rfl (by kernel_rfl) (by kernel_rfl) (by kernel_rfl) (fun _ _ _ h => h) (yieldsIf_load_mid (by kernel_rfl) 41 _ rfl (w0.heap.size) 0 rfl cs1.toList _ (fun w h => (RX.out _ h).2.1) Try.underlying41 rfl (SZ1.out)) (by assumption) ?_
      (try simp only [Act.put, List.getElem_toArray, List.getElem_cons_zero, List.getElem_cons_succ, List.setIfInBounds_toArray, List.set_cons_zero, List.set_cons_succ])
      refine wpAnyH_take (i := 8) (v := .agg cs2) rfl (by kernel_rfl) (by kernel_rfl) (by kernel_rfl) (fun _ _ _ h => h) (yieldsIf_load_mid (by kernel_rfl) 41 _ rfl (w1.heap.size) 0 rfl cs2.toList _ (fun w h => (RX.out _ h).2.2) Try.underlying41 rfl (SZ2.out)) (by assumption) ?_
      (try simp only [Act.put, List.getElem_toArray, List.getElem_cons_zero, List.getElem_cons_succ, List.setIfInBounds_toArray, List.set_cons_zero, List.set_cons_succ])
      refine wpAnyH_ready (rs := [2, 5]) (by kernel_rfl) (by simp) ?_
      refine AllReadyH.cons rfl (fun K hK => ?_) (AllReadyH.cons rfl (fun K hK => ?_) AllReadyH.nil)
      · obtain ⟨ua, hua⟩ : ∃ z, u.alloc (.cells (([cs0, cs1] : List (Array Value)).flatMap (·.toList)).toArray 41) = z := ⟨_, rfl⟩
        have bua : Below u.heap.size u ua := hua ▸ (Below.refl _ _).alloc (Nat.le_refl _) _
        have Rua := Lib.hid (ops_row (css := [cs0, cs1]) (l := [y0, y1]) (w := u) (lim := W.heap.size) (LB.out _ hHeld) rfl (fun i cs x h1 h2 => by
          match i, h1, h2 with
          | 0, h1, h2 => simp at h1 h2; subst h1 h2; exact (HV.out _ hHeld).1
          | 1, h1, h2 => simp at h1 h2; subst h1 h2; exact (HV.out _ hHeld).2.1) hua)
        refine step_plain rfl (wp_ops 2 _ rfl [cs0, cs1] rfl (by omega) (by simp [N0.out, N1.out, N2.out]) (by kernel_rfl) ?_)
        rw [hua]
        refine hK.out _ _ (hHeld.trans (bua.mono hHeld.size)) (fun hHeld2 => ?_)
        clear hK K hHeld
        have hHeld := hHeld2
        clear hHeld2
        (try simp only [Act.put, List.getElem_toArray, List.getElem_cons_zero, List.getElem_cons_succ, List.setIfInBounds_toArray, List.set_cons_zero, List.set_cons_succ])
        refine wpAnyH_ready (rs := [5]) (by kernel_rfl) (by simp) ?_
        refine AllReadyH.cons rfl (fun K hK => ?_) AllReadyH.nil
        have hA := hHeld
        obtain ⟨ub, hub⟩ : ∃ z, ua.alloc (.cells (([cs0, cs2] : List (Array Value)).flatMap (·.toList)).toArray 41) = z := ⟨_, rfl⟩
        have bub : Below ua.heap.size ua ub := hub ▸ (Below.refl _ _).alloc (Nat.le_refl _) _
        have Rub := Lib.hid (ops_row (css := [cs0, cs2]) (l := [y0, y2]) (w := ua) (lim := W.heap.size) (LB.out _ hHeld) rfl (fun i cs x h1 h2 => by
          match i, h1, h2 with
          | 0, h1, h2 => simp at h1 h2; subst h1 h2; exact (HV.out _ hHeld).1
          | 1, h1, h2 => simp at h1 h2; subst h1 h2; exact (HV.out _ hHeld).2.2) hub)
        refine step_plain rfl (wp_ops 2 _ rfl [cs0, cs2] rfl (by omega) (by simp [N0.out, N1.out, N2.out]) (by kernel_rfl) ?_)
        rw [hub]
        refine hK.out _ _ (hHeld.trans (bub.mono hHeld.size)) (fun hHeld2 => ?_)
        clear hK K hHeld
        have hHeld := hHeld2
        clear hHeld2
        (try simp only [Act.put, List.getElem_toArray, List.getElem_cons_zero, List.getElem_cons_succ, List.setIfInBounds_toArray, List.set_cons_zero, List.set_cons_succ])
        have SM := Lib.hid (show Calls Try.prog 21 #[.slice (some ⟨u.heap.size, 0, none⟩) 2 2, .slice (some ⟨ua.heap.size, 0, none⟩) 2 2] ub fun e w' => e = .returned (.bool Q) ∧ Below ub.heap.size ub w' from SQ.out ▸ hist_Same [y0, y1] [y0, y2] _ _ W.heap.size ub (Rua.out.below (LB.out _ hA) bub) Rub.out (LB.out _ hHeld) (by simp))
        clear hua hub bua bub Rua Rub hA
        refine wpAnyH_ready (rs := [6]) (by kernel_rfl) (by simp) ?_
        refine AllReadyH.cons rfl (fun K hK => ?_) AllReadyH.nil
        go_simp
        refine (SM.out).mono ?_
        rintro e u ⟨rfl, hb⟩
        (try go_wp2_with fail)
        refine hK.out _ _ (hHeld.trans (hb.mono hHeld.size)) (fun hHeld2 => ?_)
        clear hK K hHeld
        have hHeld := hHeld2
        clear hHeld2
        (try simp only [Act.put, List.getElem_toArray, List.getElem_cons_zero, List.getElem_cons_succ, List.setIfInBounds_toArray, List.set_cons_zero, List.set_cons_succ])
        clear SM
        refine wpAnyH_ready (rs := [9]) (by kernel_rfl) (by simp) ?_
        refine AllReadyH.cons rfl (fun K hK => ?_) AllReadyH.nil
        go_simp
        refine ((ON.out _ hHeld)).mono ?_
        rintro e u ⟨rfl, hb⟩
        (try go_wp2_with fail)
        refine hK.out _ _ (hHeld.trans (hb.mono hHeld.size)) (fun hHeld2 => ?_)
        clear hK K hHeld
        have hHeld := hHeld2
        clear hHeld2
        (try simp only [Act.put, List.getElem_toArray, List.getElem_cons_zero, List.getElem_cons_succ, List.setIfInBounds_toArray, List.set_cons_zero, List.set_cons_succ])
        refine wpAnyH_take (i := 10) (v := ?v4) rfl (by kernel_rfl) (by kernel_rfl) (by kernel_rfl) (fun _ _ _ h => h) (Or.inl ⟨by kernel_rfl, ?hy4⟩) (by assumption) ?rest4
        case hy4 => intro w hSw; (try dsimp only at hSw); go_simp; (first | done | with_reducible rfl)
        (try simp only [Act.put, List.getElem_toArray, List.getElem_cons_zero, List.getElem_cons_succ, List.setIfInBounds_toArray, List.set_cons_zero, List.set_cons_succ])
        refine wpAnyH_take (i := 11) (v := ?v5) rfl (by kernel_rfl) (by kernel_rfl) (by kernel_rfl) (fun _ _ _ h => h) (Or.inl ⟨by kernel_rfl, ?hy5⟩) (by assumption) ?rest5
        case hy5 => intro w hSw; (try dsimp only at hSw); go_simp; (first | done | with_reducible rfl)
        (try simp only [Act.put, List.getElem_toArray, List.getElem_cons_zero, List.getElem_cons_succ, List.setIfInBounds_toArray, List.set_cons_zero, List.set_cons_succ])
        refine wpAnyH_take (i := 12) (v := .agg cs0) rfl (by kernel_rfl) (by kernel_rfl) (by kernel_rfl) (fun _ _ _ h => h) (yieldsIf_load_mid (by kernel_rfl) 41 _ rfl (W.heap.size) 0 rfl cs0.toList _ (fun w h => (RX.out _ h).1) Try.underlying41 rfl (SZ0.out)) (by assumption) ?_
        (try simp only [Act.put, List.getElem_toArray, List.getElem_cons_zero, List.getElem_cons_succ, List.setIfInBounds_toArray, List.set_cons_zero, List.set_cons_succ])
        refine wpAnyH_ready (rs := [13]) (by kernel_rfl) (by simp) ?_
        refine AllReadyH.cons rfl (fun K hK => ?_) AllReadyH.nil
        obtain ⟨uc, huc⟩ : ∃ z, u.alloc (.cells (([cs0] : List (Array Value)).flatMap (·.toList)).toArray 41) = z := ⟨_, rfl⟩
        have buc : Below u.heap.size u uc := huc ▸ (Below.refl _ _).alloc (Nat.le_refl _) _
        have Ruc := Lib.hid (ops_row (css := [cs0]) (l := [y0]) (w := u) (lim := W.heap.size) (LB.out _ hHeld) rfl (fun i cs x h1 h2 => by
          match i, h1, h2 with
          | 0, h1, h2 => simp at h1 h2; subst h1 h2; exact (HV.out _ hHeld).1) huc)
        refine step_wanted (by kernel_rfl) (wp_ops 1 _ rfl [cs0] rfl (by omega) (by simp [N0.out, N1.out, N2.out]) (by kernel_rfl) ?_)
        rw [huc]
        refine hK.out _ _ (hHeld.trans (buc.mono hHeld.size)) (fun hHeld2 => ?_)
        clear hK K hHeld
        have hHeld := hHeld2
        clear hHeld2
        (try simp only [Act.put, List.getElem_toArray, List.getElem_cons_zero, List.getElem_cons_succ, List.setIfInBounds_toArray, List.set_cons_zero, List.set_cons_succ])
        have SM := Lib.hid (show Calls Try.prog 21 #[.slice (some ⟨u.heap.size, 0, none⟩) 1 1, .slice none 0 0] uc fun e w' => e = .returned (.bool false) ∧ Below uc.heap.size uc w' from hist_Same [y0] [] _ _ W.heap.size uc Ruc.out ⟨none, 0, rfl, .inl rfl⟩ (LB.out _ hHeld) (by simp))
        clear huc buc Ruc
        refine wpAnyH_ready (rs := [14]) (by kernel_rfl) (by simp) ?_
        refine AllReadyH.cons rfl (fun K hK => ?_) AllReadyH.nil
        go_simp
        refine (SM.out).mono ?_
        rintro e u ⟨rfl, hb⟩
        (try go_wp2_with fail)
        refine hK.out _ _ (hHeld.trans (hb.mono hHeld.size)) (fun hHeld2 => ?_)
        clear hK K hHeld
        have hHeld := hHeld2
        clear hHeld2
        (try simp only [Act.put, List.getElem_toArray, List.getElem_cons_zero, List.getElem_cons_succ, List.setIfInBounds_toArray, List.set_cons_zero, List.set_cons_succ])
        clear SM
        refine wpAnyH_take (i := 15) (v := ?v6) rfl (by kernel_rfl) (by kernel_rfl) (by kernel_rfl) (fun _ _ _ h => h) (Or.inl ⟨by kernel_rfl, ?hy6⟩) (by assumption) ?rest6
        case hy6 => intro w hSw; (try dsimp only at hSw); go_simp; (first | done | with_reducible rfl)
        (try simp only [Act.put, List.getElem_toArray, List.getElem_cons_zero, List.getElem_cons_succ, List.setIfInBounds_toArray, List.set_cons_zero, List.set_cons_succ])
        refine wpAnyH_take (i := 16) (v := ?v7) rfl (by kernel_rfl) (by kernel_rfl) (by kernel_rfl) (fun _ _ _ h => h) (Or.inl ⟨by kernel_rfl, ?hy7⟩) (by assumption) ?rest7
        case hy7 => intro w hSw; (try dsimp only at hSw); go_simp; (first | done | with_reducible rfl)
        (try simp only [Act.put, List.getElem_toArray, List.getElem_cons_zero, List.getElem_cons_succ, List.setIfInBounds_toArray, List.set_cons_zero, List.set_cons_succ])
        refine wpAnyH_take (i := 17) (v := ?v8) rfl (by kernel_rfl) (by kernel_rfl) (by kernel_rfl) (fun _ _ _ h => h) (Or.inl ⟨by kernel_rfl, ?hy8⟩) (by assumption) ?rest8
        case hy8 => intro w hSw; (try dsimp only at hSw); go_simp; (first | done | with_reducible rfl)
        (try simp only [Act.put, List.getElem_toArray, List.getElem_cons_zero, List.getElem_cons_succ, List.setIfInBounds_toArray, List.set_cons_zero, List.set_cons_succ])
        refine wpAnyH_ready (rs := [18]) (by kernel_rfl) (by simp) ?_
        refine AllReadyH.cons rfl (fun K hK => ?_) AllReadyH.nil
        go_simp
        refine ((live37 _)).mono ?_
        rintro e u ⟨rfl, hb⟩
        (try go_wp2_with fail)
        refine hK.out _ _ (hHeld.trans (hb.mono hHeld.size)) (fun hHeld2 => ?_)
        clear hK K hHeld
        have hHeld := hHeld2
        clear hHeld2
        (try simp only [Act.put, List.getElem_toArray, List.getElem_cons_zero, List.getElem_cons_succ, List.setIfInBounds_toArray, List.set_cons_zero, List.set_cons_succ])
        refine wpAnyH_take (i := 19) (v := ?v9) rfl (by kernel_rfl) (by kernel_rfl) (by kernel_rfl) (fun _ _ _ h => h) (Or.inl ⟨by kernel_rfl, ?hy9⟩) (by assumption) ?rest9
        case hy9 => intro w hSw; (try dsimp only at hSw); go_simp; (first | done | with_reducible rfl)
        (try simp only [Act.put, List.getElem_toArray, List.getElem_cons_zero, List.getElem_cons_succ, List.setIfInBounds_toArray, List.set_cons_zero, List.set_cons_succ])
        refine wpAnyH_take (i := 20) (v := ?v10) rfl (by kernel_rfl) (by kernel_rfl) (by kernel_rfl) (fun _ _ _ h => h) (Or.inl ⟨by kernel_rfl, ?hy10⟩) (by assumption) ?rest10
        case hy10 => intro w hSw; (try dsimp only at hSw); go_simp; (first | done | with_reducible rfl)
        (try simp only [Act.put, List.getElem_toArray, List.getElem_cons_zero, List.getElem_cons_succ, List.setIfInBounds_toArray, List.set_cons_zero, List.set_cons_succ])
        refine wpAnyH_done (by kernel_rfl) ?_ _
        have HF := Lib.hid (B2.out.trans (hHeld.mono B2.out.size))
        go_wp2_with fail
        go_ret
        exact ⟨rfl, HF.out⟩
      · obtain ⟨ua, hua⟩ : ∃ z, u.alloc (.cells (([cs0, cs2] : List (Array Value)).flatMap (·.toList)).toArray 41) = z := ⟨_, rfl⟩
        have bua : Below u.heap.size u ua := hua ▸ (Below.refl _ _).alloc (Nat.le_refl _) _
        have Rua := Lib.hid (ops_row (css := [cs0, cs2]) (l := [y0, y2]) (w := u) (lim := W.heap.size) (LB.out _ hHeld) rfl (fun i cs x h1 h2 => by
          match i, h1, h2 with
          | 0, h1, h2 => simp at h1 h2; subst h1 h2; exact (HV.out _ hHeld).1
          | 1, h1, h2 => simp at h1 h2; subst h1 h2; exact (HV.out _ hHeld).2.2) hua)
        refine step_plain rfl (wp_ops 2 _ rfl [cs0, cs2] rfl (by omega) (by simp [N0.out, N1.out, N2.out]) (by kernel_rfl) ?_)
        rw [hua]
        refine hK.out _ _ (hHeld.trans (bua.mono hHeld.size)) (fun hHeld2 => ?_)
        clear hK K hHeld
        have hHeld := hHeld2
        clear hHeld2
        (try simp only [Act.put, List.getElem_toArray, List.getElem_cons_zero, List.getElem_cons_succ, List.setIfInBounds_toArray, List.set_cons_zero, List.set_cons_succ])
        refine wpAnyH_ready (rs := [2]) (by kernel_rfl) (by simp) ?_
        refine AllReadyH.cons rfl (fun K hK => ?_) AllReadyH.nil
        have hA := hHeld
        obtain ⟨ub, hub⟩ : ∃ z, ua.alloc (.cells (([cs0, cs1] : List (Array Value)).flatMap (·.toList)).toArray 41) = z := ⟨_, rfl⟩
        have bub : Below ua.heap.size ua ub := hub ▸ (Below.refl _ _).alloc (Nat.le_refl _) _
        have Rub := Lib.hid (ops_row (css := [cs0, cs1]) (l := [y0, y1]) (w := ua) (lim := W.heap.size) (LB.out _ hHeld) rfl (fun i cs x h1 h2 => by
          match i, h1, h2 with
          | 0, h1, h2 => simp at h1 h2; subst h1 h2; exact (HV.out _ hHeld).1
          | 1, h1, h2 => simp at h1 h2; subst h1 h2; exact (HV.out _ hHeld).2.1) hub)
        refine step_plain rfl (wp_ops 2 _ rfl [cs0, cs1] rfl (by omega) (by simp [N0.out, N1.out, N2.out]) (by kernel_rfl) ?_)
        rw [hub]
        refine hK.out _ _ (hHeld.trans (bub.mono hHeld.size)) (fun hHeld2 => ?_)
        clear hK K hHeld
        have hHeld := hHeld2
        clear hHeld2
        (try simp only [Act.put, List.getElem_toArray, List.getElem_cons_zero, List.getElem_cons_succ, List.setIfInBounds_toArray, List.set_cons_zero, List.set_cons_succ])
        have SM := Lib.hid (show Calls Try.prog 21 #[.slice (some ⟨ua.heap.size, 0, none⟩) 2 2, .slice (some ⟨u.heap.size, 0, none⟩) 2 2] ub fun e w' => e = .returned (.bool Q) ∧ Below ub.heap.size ub w' from SQ.out ▸ hist_Same [y0, y1] [y0, y2] _ _ W.heap.size ub Rub.out (Rua.out.below (LB.out _ hA) bub) (LB.out _ hHeld) (by simp))
        clear hua hub bua bub Rua Rub hA
        refine wpAnyH_ready (rs := [6]) (by kernel_rfl) (by simp) ?_
        refine AllReadyH.cons rfl (fun K hK => ?_) AllReadyH.nil
        go_simp
        refine (SM.out).mono ?_
        rintro e u ⟨rfl, hb⟩
        (try go_wp2_with fail)
        refine hK.out _ _ (hHeld.trans (hb.mono hHeld.size)) (fun hHeld2 => ?_)
        clear hK K hHeld
        have hHeld := hHeld2
        clear hHeld2
        (try simp only [Act.put, List.getElem_toArray, List.getElem_cons_zero, List.getElem_cons_succ, List.setIfInBounds_toArray, List.set_cons_zero, List.set_cons_succ])
        clear SM
        refine wpAnyH_ready (rs := [9]) (by kernel_rfl) (by simp) ?_
        refine AllReadyH.cons rfl (fun K hK => ?_) AllReadyH.nil
        go_simp
        refine ((ON.out _ hHeld)).mono ?_
        rintro e u ⟨rfl, hb⟩
        (try go_wp2_with fail)
        refine hK.out _ _ (hHeld.trans (hb.mono hHeld.size)) (fun hHeld2 => ?_)
        clear hK K hHeld
        have hHeld := hHeld2
        clear hHeld2
        (try simp only [Act.put, List.getElem_toArray, List.getElem_cons_zero, List.getElem_cons_succ, List.setIfInBounds_toArray, List.set_cons_zero, List.set_cons_succ])
        refine wpAnyH_take (i := 10) (v := ?v11) rfl (by kernel_rfl) (by kernel_rfl) (by kernel_rfl) (fun _ _ _ h => h) (Or.inl ⟨by kernel_rfl, ?hy11⟩) (by assumption) ?rest11
        case hy11 => intro w hSw; (try dsimp only at hSw); go_simp; (first | done | with_reducible rfl)
        (try simp only [Act.put, List.getElem_toArray, List.getElem_cons_zero, List.getElem_cons_succ, List.setIfInBounds_toArray, List.set_cons_zero, List.set_cons_succ])
        refine wpAnyH_take (i := 11) (v := ?v12) rfl (by kernel_rfl) (by kernel_rfl) (by kernel_rfl) (fun _ _ _ h => h) (Or.inl ⟨by kernel_rfl, ?hy12⟩) (by assumption) ?rest12
        case hy12 => intro w hSw; (try dsimp only at hSw); go_simp; (first | done | with_reducible rfl)
        (try simp only [Act.put, List.getElem_toArray, List.getElem_cons_zero, List.getElem_cons_succ, List.setIfInBounds_toArray, List.set_cons_zero, List.set_cons_succ])
        refine wpAnyH_take (i := 12) (v := .agg cs0) rfl (by kernel_rfl) (by kernel_rfl) (by kernel_rfl) (fun _ _ _ h => h) (yieldsIf_load_mid (by kernel_rfl) 41 _ rfl (W.heap.size) 0 rfl cs0.toList _ (fun w h => (RX.out _ h).1) Try.underlying41 rfl (SZ0.out)) (by assumption) ?_
        (try simp only [Act.put, List.getElem_toArray, List.getElem_cons_zero, List.getElem_cons_succ, List.setIfInBounds_toArray, List.set_cons_zero, List.set_cons_succ])
        refine wpAnyH_ready (rs := [13]) (by kernel_rfl) (by simp) ?_
        refine AllReadyH.cons rfl (fun K hK => ?_) AllReadyH.nil
        obtain ⟨uc, huc⟩ : ∃ z, u.alloc (.cells (([cs0] : List (Array Value)).flatMap (·.toList)).toArray 41) = z := ⟨_, rfl⟩
        have buc : Below u.heap.size u uc := huc ▸ (Below.refl _ _).alloc (Nat.le_refl _) _
        have Ruc := Lib.hid (ops_row (css := [cs0]) (l := [y0]) (w := u) (lim := W.heap.size) (LB.out _ hHeld) rfl (fun i cs x h1 h2 => by
          match i, h1, h2 with
          | 0, h1, h2 => simp at h1 h2; subst h1 h2; exact (HV.out _ hHeld).1) huc)
        refine step_wanted (by kernel_rfl) (wp_ops 1 _ rfl [cs0] rfl (by omega) (by simp [N0.out, N1.out, N2.out]) (by kernel_rfl) ?_)
        rw [huc]
        refine hK.out _ _ (hHeld.trans (buc.mono hHeld.size)) (fun hHeld2 => ?_)
        clear hK K hHeld
        have hHeld := hHeld2
        clear hHeld2
        (try simp only [Act.put, List.getElem_toArray, List.getElem_cons_zero, List.getElem_cons_succ, List.setIfInBounds_toArray, List.set_cons_zero, List.set_cons_succ])
        have SM := Lib.hid (show Calls Try.prog 21 #[.slice (some ⟨u.heap.size, 0, none⟩) 1 1, .slice none 0 0] uc fun e w' => e = .returned (.bool false) ∧ Below uc.heap.size uc w' from hist_Same [y0] [] _ _ W.heap.size uc Ruc.out ⟨none, 0, rfl, .inl rfl⟩ (LB.out _ hHeld) (by simp))
        clear huc buc Ruc
        refine wpAnyH_ready (rs := [14]) (by kernel_rfl) (by simp) ?_
        refine AllReadyH.cons rfl (fun K hK => ?_) AllReadyH.nil
        go_simp
        refine (SM.out).mono ?_
        rintro e u ⟨rfl, hb⟩
        (try go_wp2_with fail)
        refine hK.out _ _ (hHeld.trans (hb.mono hHeld.size)) (fun hHeld2 => ?_)
        clear hK K hHeld
        have hHeld := hHeld2
        clear hHeld2
        (try simp only [Act.put, List.getElem_toArray, List.getElem_cons_zero, List.getElem_cons_succ, List.setIfInBounds_toArray, List.set_cons_zero, List.set_cons_succ])
        clear SM
        refine wpAnyH_take (i := 15) (v := ?v13) rfl (by kernel_rfl) (by kernel_rfl) (by kernel_rfl) (fun _ _ _ h => h) (Or.inl ⟨by kernel_rfl, ?hy13⟩) (by assumption) ?rest13
        case hy13 => intro w hSw; (try dsimp only at hSw); go_simp; (first | done | with_reducible rfl)
        (try simp only [Act.put, List.getElem_toArray, List.getElem_cons_zero, List.getElem_cons_succ, List.setIfInBounds_toArray, List.set_cons_zero, List.set_cons_succ])
        refine wpAnyH_take (i := 16) (v := ?v14) rfl (by kernel_rfl) (by kernel_rfl) (by kernel_rfl) (fun _ _ _ h => h) (Or.inl ⟨by kernel_rfl, ?hy14⟩) (by assumption) ?rest14
        case hy14 => intro w hSw; (try dsimp only at hSw); go_simp; (first | done | with_reducible rfl)
        (try simp only [Act.put, List.getElem_toArray, List.getElem_cons_zero, List.getElem_cons_succ, List.setIfInBounds_toArray, List.set_cons_zero, List.set_cons_succ])
        refine wpAnyH_take (i := 17) (v := ?v15) rfl (by kernel_rfl) (by kernel_rfl) (by kernel_rfl) (fun _ _ _ h => h) (Or.inl ⟨by kernel_rfl, ?hy15⟩) (by assumption) ?rest15
        case hy15 => intro w hSw; (try dsimp only at hSw); go_simp; (first | done | with_reducible rfl)
        (try simp only [Act.put, List.getElem_toArray, List.getElem_cons_zero, List.getElem_cons_succ, List.setIfInBounds_toArray, List.set_cons_zero, List.set_cons_succ])
        refine wpAnyH_ready (rs := [18]) (by kernel_rfl) (by simp) ?_
        refine AllReadyH.cons rfl (fun K hK => ?_) AllReadyH.nil
        go_simp
        refine ((live37 _)).mono ?_
        rintro e u ⟨rfl, hb⟩
        (try go_wp2_with fail)
        refine hK.out _ _ (hHeld.trans (hb.mono hHeld.size)) (fun hHeld2 => ?_)
        clear hK K hHeld
        have hHeld := hHeld2
        clear hHeld2
        (try simp only [Act.put, List.getElem_toArray, List.getElem_cons_zero, List.getElem_cons_succ, List.setIfInBounds_toArray, List.set_cons_zero, List.set_cons_succ])
        refine wpAnyH_take (i := 19) (v := ?v16) rfl (by kernel_rfl) (by kernel_rfl) (by kernel_rfl) (fun _ _ _ h => h) (Or.inl ⟨by kernel_rfl, ?hy16⟩) (by assumption) ?rest16
        case hy16 => intro w hSw; (try dsimp only at hSw); go_simp; (first | done | with_reducible rfl)
        (try simp only [Act.put, List.getElem_toArray, List.getElem_cons_zero, List.getElem_cons_succ, List.setIfInBounds_toArray, List.set_cons_zero, List.set_cons_succ])
        refine wpAnyH_take (i := 20) (v := ?v17) rfl (by kernel_rfl) (by kernel_rfl) (by kernel_rfl) (fun _ _ _ h => h) (Or.inl ⟨by kernel_rfl, ?hy17⟩) (by assumption) ?rest17
        case hy17 => intro w hSw; (try dsimp only at hSw); go_simp; (first | done | with_reducible rfl)
        (try simp only [Act.put, List.getElem_toArray, List.getElem_cons_zero, List.getElem_cons_succ, List.setIfInBounds_toArray, List.set_cons_zero, List.set_cons_succ])
        refine wpAnyH_done (by kernel_rfl) ?_ _
        have HF := Lib.hid (B2.out.trans (hHeld.mono B2.out.size))
        go_wp2_with fail
        go_ret
        exact ⟨rfl, HF.out⟩
end histAhead
end Go.Proofs.Ytofgkhoemgimeaa
