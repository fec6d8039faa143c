/- Reference 13's At, one step further. -/
import Derived.Test.YtfjioflggkmhcaaAtr
namespace Go.Proofs.Ytfjioflggkmhcaa
open Go.ChangeShapes Go.WideShapes Go.ChangeAt Go.RowKit
set_option linter.unusedVariables false
set_option linter.unusedSimpArgs false
set_option maxRecDepth 100000 in
set_option maxHeartbeats 4000000 in
theorem r13_atmore (k n k' n' : Int) (g h m c m' c' j : Nat) (p' : Option Addr) (b o t d lim : Nat) (O : Option (Int × Int × Fo)) (W : World) (hj : j < m) (hm : m ≤ 9223372036854775807) (ht : t ≤ 17592186044415) (hd : t ≤ d + 1) (hd2 : d ≤ 9223372036854775807)
    (hP : W.cell? ⟨b, o, none⟩ = some (.int .i64 (j : Int))) (q0 : W.cell? ⟨g, h + j * 3, none⟩ = some (.int .i64 k')) (q1 : W.cell? ⟨g, h + j * 3 + 1, none⟩ = some (.int .i64 n')) (q2 : W.cell? ⟨g, h + j * 3 + 2, none⟩ = some (.slice p' m' c')) (hl : lim ≤ W.heap.size)
    (CL : ∀ w', Below W.heap.size W w' → Calls Try.prog 27 #[.agg #[.int .i64 k', .int .i64 n', .slice p' m' c'], .slice (some ⟨b, o + 1, none⟩) t (d + 1)] w' fun e w'' => AtG lim O e w'' ∧ Below w'.heap.size w' w'') :
    Calls Try.prog 27 #[.agg #[.int .i64 k, .int .i64 n, .slice (some ⟨g, h, none⟩) m c], (.slice (some ⟨b, o, none⟩) (t + 1) (d + 2))] W fun e w' => AtG lim O e w' ∧ Below W.heap.size W w' := by
  obtain ⟨w0, hw0, r0, r1, hB, hs⟩ := clone_start W (.int .i64 k) (.int .i64 n) (.slice (some ⟨g, h, none⟩) m c) (.int .i64 0) (.int .i64 0) (.slice none 0 0) 24
  obtain ⟨x0, x1, x2, _, _, _⟩ := row_cells3 r0
  have lP := block_lt_of_cell hP
  have lq := block_lt_of_cell q0
  have lx := block_lt_of_cell x0
  have l1 : W.heap.size + 1 < w0.heap.size := by omega
  have p0 := (hB.cell (p := ⟨b, o, none⟩) lP).trans hP
  have q0 := (hB.cell (p := ⟨g, h + j * 3, none⟩) lq).trans q0
  have q1 := (hB.cell (p := ⟨g, h + j * 3 + 1, none⟩) lq).trans q1
  have q2 := (hB.cell (p := ⟨g, h + j * 3 + 2, none⟩) lq).trans q2
  have lP0 : b < w0.heap.size := Nat.lt_of_lt_of_le (show b < W.heap.size from lP) (by omega)
  have lq0 : g < w0.heap.size := Nat.lt_of_lt_of_le (show g < W.heap.size from lq) (by omega)
  have CL := Lib.hid (fun w' (hb : Below w0.heap.size w0 w') => CL w' (hB.trans (hb.mono hB.size)))
  have MK := Lib.hid (fun w' (hb : Below w0.heap.size w0 w') => (show w'.cell? ⟨W.heap.size, 0, none⟩ = some (.int .i64 k) ∧ w'.cell? ⟨W.heap.size, 1, none⟩ = some (.int .i64 n) ∧ w'.cell? ⟨W.heap.size, 2, none⟩ = some (.slice (some ⟨g, h, none⟩) m c) ∧ w'.cell? ⟨b, o, none⟩ = some (.int .i64 (j : Int)) ∧ w'.cell? ⟨g, h + j * 3, none⟩ = some (.int .i64 k') ∧ w'.cell? ⟨g, h + j * 3 + 1, none⟩ = some (.int .i64 n') ∧ w'.cell? ⟨g, h + j * 3 + 2, none⟩ = some (.slice p' m' c') ∧ Below W.heap.size W w' from ⟨(hb.cell (p := ⟨W.heap.size, 0, none⟩) lx).trans x0, (hb.cell (p := ⟨W.heap.size, 1, none⟩) lx).trans x1, (hb.cell (p := ⟨W.heap.size, 2, none⟩) lx).trans x2, (hb.cell (p := ⟨b, o, none⟩) lP0).trans p0, (hb.cell (p := ⟨g, h + j * 3, none⟩) lq0).trans q0, (hb.cell (p := ⟨g, h + j * 3 + 1, none⟩) lq0).trans q1, (hb.cell (p := ⟨g, h + j * 3 + 2, none⟩) lq0).trans q2, hB.trans (hb.mono hB.size)⟩))
  have R1 := Lib.hid (fun w' (hb : Below w0.heap.size w0 w') => (show w'.heap[W.heap.size + 1]? = some (.cells #[.int .i64 0, .int .i64 0, .slice none 0 0] 24 (0, 0)) from (hb.block _ l1).trans r1))
  have HB := Lib.hid hB
  have c1 : decide ((j : Int) < 0) = false := decide_eq_false (by omega)
  have c2 : decide ((m : Int) ≤ (j : Int)) = false := decide_eq_false (by omega)
  have j0 : (0 : Int) ≤ (j : Int) := by omega
  have j1 : (j : Int) < (m : Int) := by omega
  have e1 : (((t + 1 : Nat) : Int) == 0) = false := by simp; omega
  have e1' : ((t : Int) + 1 == 0) = false := by simp; omega
  have e2 : decide (1 ≤ t + 1) = true := decide_eq_true (by omega)
  have e3 : (1 : Int) ≤ (t : Int) + 1 := by omega
  clear r0 r1 hB hP
  go_enter Try.func27, Try.ntmps27
  go_wp2_with fail
  rw [← hw0]
  clear hw0
  go_wp2_with fail
  go_quiet (fail)
  go_wp2_with fail
  have HB0 : Hid (Below w0.heap.size w0 (w0.drewN nq).drew) := Lib.hid (below_drewN (Below.refl _ _) _).drew
  refine wp_region_held_drew (S := (fun w' => w'.cell? ⟨W.heap.size, 0, none⟩ = some (.int .i64 k) ∧ w'.cell? ⟨W.heap.size, 1, none⟩ = some (.int .i64 n) ∧ w'.cell? ⟨W.heap.size, 2, none⟩ = some (.slice (some ⟨g, h, none⟩) m c) ∧ w'.cell? ⟨b, o, none⟩ = some (.int .i64 (j : Int)) ∧ w'.cell? ⟨g, h + j * 3, none⟩ = some (.int .i64 k') ∧ w'.cell? ⟨g, h + j * 3 + 1, none⟩ = some (.int .i64 n') ∧ w'.cell? ⟨g, h + j * 3 + 2, none⟩ = some (.slice p' m' c') ∧ Below W.heap.size W w')) (by kernel_rfl) (MK.out _ HB0.out) (fun hHeld => ?_)
  generalize (w0.drewN nq).drew = u at *
  refine wpAnyH_take (i := 0) (v := ?v1) rfl (by kernel_rfl) (by kernel_rfl) (by kernel_rfl) (fun _ _ _ h => h) (Or.inl ⟨by kernel_rfl, ?hy1⟩) (by assumption) ?rest1
  case hy1 => intro w hSw; (try dsimp only at hSw); go_simp; (first | done | with_reducible rfl)
  (try simp only [Act.put, List.getElem_toArray, List.getElem_cons_zero, List.getElem_cons_succ, List.setIfInBounds_toArray, List.set_cons_zero, List.set_cons_succ])
  refine wpAnyH_take (i := 1) (v := ?v2) rfl (by kernel_rfl) (by kernel_rfl) (by kernel_rfl) (fun _ _ _ h => h) (Or.inl ⟨by kernel_rfl, ?hy2⟩) (by assumption) ?rest2
  case hy2 => intro w hSw; (try dsimp only at hSw); go_simp; (first | done | with_reducible rfl)
  (try simp only [Act.put, List.getElem_toArray, List.getElem_cons_zero, List.getElem_cons_succ, List.setIfInBounds_toArray, List.set_cons_zero, List.set_cons_succ])
  refine wpAnyH_take (i := 2) (v := ?v3) rfl (by kernel_rfl) (by kernel_rfl) (by kernel_rfl) (fun _ _ _ h => h) (Or.inl ⟨by kernel_rfl, ?hy3⟩) (by assumption) ?rest3
  case hy3 => intro w hSw; (try dsimp only at hSw); go_simp; (first | done | with_reducible rfl)
  (try simp only [Act.put, List.getElem_toArray, List.getElem_cons_zero, List.getElem_cons_succ, List.setIfInBounds_toArray, List.set_cons_zero, List.set_cons_succ])
  refine wpAnyH_take (i := 3) (v := ?v4) rfl (by kernel_rfl) (by kernel_rfl) (by kernel_rfl) (fun _ _ _ h => h) (Or.inl ⟨by kernel_rfl, ?hy4⟩) (by assumption) ?rest4
  case hy4 => intro w hSw; (try dsimp only at hSw); go_simp; (first | done | with_reducible rfl)
  (try simp only [Act.put, List.getElem_toArray, List.getElem_cons_zero, List.getElem_cons_succ, List.setIfInBounds_toArray, List.set_cons_zero, List.set_cons_succ])
  refine wpAnyH_take (i := 4) (v := ?v5) rfl (by kernel_rfl) (by kernel_rfl) (by kernel_rfl) (fun _ _ _ h => h) (Or.inl ⟨by kernel_rfl, ?hy5⟩) (by assumption) ?rest5
  case hy5 => intro w hSw; (try dsimp only at hSw); go_simp; (first | done | with_reducible rfl)
  (try simp only [Act.put, List.getElem_toArray, List.getElem_cons_zero, List.getElem_cons_succ, List.setIfInBounds_toArray, List.set_cons_zero, List.set_cons_succ])
  refine wpAnyH_take (i := 5) (v := ?v6) rfl (by kernel_rfl) (by kernel_rfl) (by kernel_rfl) (fun _ _ _ h => h) (Or.inl ⟨by kernel_rfl, ?hy6⟩) (by assumption) ?rest6
  case hy6 => intro w hSw; (try dsimp only at hSw); go_simp; (first | done | with_reducible rfl)
  (try simp only [Act.put, List.getElem_toArray, List.getElem_cons_zero, List.getElem_cons_succ, List.setIfInBounds_toArray, List.set_cons_zero, List.set_cons_succ])
  refine wpAnyH_take (i := 6) (v := ?v7) rfl (by kernel_rfl) (by kernel_rfl) (by kernel_rfl) (fun _ _ _ h => h) (Or.inl ⟨by kernel_rfl, ?hy7⟩) (by assumption) ?rest7
  case hy7 => intro w hSw; (try dsimp only at hSw); go_simp; (first | done | with_reducible rfl)
  (try simp only [Act.put, List.getElem_toArray, List.getElem_cons_zero, List.getElem_cons_succ, List.setIfInBounds_toArray, List.set_cons_zero, List.set_cons_succ])
  refine wpAnyH_take (i := 7) (v := ?v8) rfl (by kernel_rfl) (by kernel_rfl) (by kernel_rfl) (fun _ _ _ h => h) (Or.inl ⟨by kernel_rfl, ?hy8⟩) (by assumption) ?rest8
  case hy8 => intro w hSw; (try dsimp only at hSw); go_simp; (first | done | with_reducible rfl)
  (try simp only [Act.put, List.getElem_toArray, List.getElem_cons_zero, List.getElem_cons_succ, List.setIfInBounds_toArray, List.set_cons_zero, List.set_cons_succ])
  refine wpAnyH_take (i := 8) (v := ?v9) rfl (by kernel_rfl) (by kernel_rfl) (by kernel_rfl) (fun _ _ _ h => h) (Or.inl ⟨by kernel_rfl, ?hy9⟩) (by assumption) ?rest9
  case hy9 => intro w hSw; (try dsimp only at hSw); go_simp; (first | done | with_reducible rfl)
  (try simp only [Act.put, List.getElem_toArray, List.getElem_cons_zero, List.getElem_cons_succ, List.setIfInBounds_toArray, List.set_cons_zero, List.set_cons_succ])
  refine wpAnyH_ready (rs := [9]) (by kernel_rfl) (by simp) ?_
  refine AllReadyH.cons rfl (fun K hK => ?_) AllReadyH.nil
  go_simp
  refine (CL.out _ HB0.out).mono ?_
  rintro e w5 ⟨⟨k5, n5, p5, m5, c5, ok, ks5, rfl, hK5, hy5, hn5⟩, b5⟩
  have HBW := Lib.hid (HB0.out.trans (b5.mono HB0.out.size))
  (try go_wp2_with fail)
  refine hK.out _ _ (MK.out _ HBW.out) (fun hHeld2 => ?_)
  clear hK K hHeld
  have hHeld := hHeld2
  clear hHeld2
  (try simp only [Act.put, List.getElem_toArray, List.getElem_cons_zero, List.getElem_cons_succ, List.setIfInBounds_toArray, List.set_cons_zero, List.set_cons_succ])
  refine wpAnyH_take (i := 10) (v := ?v10) rfl (by kernel_rfl) (by kernel_rfl) (by kernel_rfl) (fun _ _ _ h => h) (Or.inl ⟨by kernel_rfl, ?hy10⟩) (by assumption) ?rest10
  case hy10 => intro w hSw; (try dsimp only at hSw); go_simp; (first | done | with_reducible rfl)
  (try simp only [Act.put, List.getElem_toArray, List.getElem_cons_zero, List.getElem_cons_succ, List.setIfInBounds_toArray, List.set_cons_zero, List.set_cons_succ])
  refine wpAnyH_take (i := 11) (v := ?v11) rfl (by kernel_rfl) (by kernel_rfl) (by kernel_rfl) (fun _ _ _ h => h) (Or.inl ⟨by kernel_rfl, ?hy11⟩) (by assumption) ?rest11
  case hy11 => intro w hSw; (try dsimp only at hSw); go_simp; (first | done | with_reducible rfl)
  (try simp only [Act.put, List.getElem_toArray, List.getElem_cons_zero, List.getElem_cons_succ, List.setIfInBounds_toArray, List.set_cons_zero, List.set_cons_succ])
  have r5 := R1.out _ HBW.out
  obtain ⟨y0, y1, y2, f0, f1, f2⟩ := row_cells3 r5
  have HR := Lib.hid (row_put3 (a := .int .i64 k5) (b := .int .i64 n5) (c := .slice p5 m5 c5) r5)
  have HB5 := Lib.hid (below_put3 (HB.out.trans (HBW.out.mono HB.out.size)) (show W.heap.size ≤ W.heap.size + 1 by omega) (.int .i64 k5) (.int .i64 n5) (.slice p5 m5 c5))
  refine wpAnyH_ready (rs := [12]) (by kernel_rfl) (by simp) ?_
  refine AllReadyH.cons rfl (fun K hK => ?_) AllReadyH.nil
  go_simp
  have hSN := Lib.hid (show ∀ q i : Nat, q ≠ W.heap.size + 1 → (((w5.setCell ⟨W.heap.size + 1, 0, none⟩ (.int .i64 k5)).setCell ⟨W.heap.size + 1, 1, none⟩ (.int .i64 n5)).setCell ⟨W.heap.size + 1, 2, none⟩ (.slice p5 m5 c5)).cell? ⟨q, i, none⟩ = w5.cell? ⟨q, i, none⟩ from fun q i hq => by rw [World.cell?_setCell_far _ _ _ _ (Ne.symm hq), World.cell?_setCell_far _ _ _ _ (Ne.symm hq), World.cell?_setCell_far _ _ _ _ (Ne.symm hq)])
  have nX : W.heap.size ≠ W.heap.size + 1 := by omega
  have nb : b ≠ W.heap.size + 1 := by have : b < W.heap.size := lP; omega
  have ng : g ≠ W.heap.size + 1 := by have : g < W.heap.size := lq; omega
  obtain ⟨s0, s1, s2, s3, s4, s5, s6, _⟩ := MK.out _ HBW.out
  refine hK.out _ _ ⟨(hSN.out _ _ nX).trans s0, (hSN.out _ _ nX).trans s1, (hSN.out _ _ nX).trans s2, (hSN.out _ _ nb).trans s3, (hSN.out _ _ ng).trans s4, (hSN.out _ _ ng).trans s5, (hSN.out _ _ ng).trans s6, HB5.out⟩ (fun hHeld2 => ?_)
  clear hK K hHeld s0 s1 s2 s3 s4 s5 s6
  have hHeld := hHeld2
  clear hHeld2
  (try simp only [Act.put, List.getElem_toArray, List.getElem_cons_zero, List.getElem_cons_succ, List.setIfInBounds_toArray, List.set_cons_zero, List.set_cons_succ])
  refine wpAnyH_take (i := 13) (v := ?v12) rfl (by kernel_rfl) (by kernel_rfl) (by kernel_rfl) (fun _ _ _ h => h) (Or.inl ⟨by kernel_rfl, ?hy12⟩) (by assumption) ?rest12
  case hy12 => intro w hSw; (try dsimp only at hSw); go_simp; (first | done | with_reducible rfl)
  (try simp only [Act.put, List.getElem_toArray, List.getElem_cons_zero, List.getElem_cons_succ, List.setIfInBounds_toArray, List.set_cons_zero, List.set_cons_succ])
  refine wpAnyH_done (by kernel_rfl) ?_ _
  go_wp2_with fail
  refine bodyPost_ret (results_cell_tmp' (p := 4) (a := 5) (ty := 24) rfl _ _ _ 24 #[.int .i64 k5, .int .i64 n5, .slice p5 m5 c5] (0, 0) _ (.bool ok) rfl rfl HR.out Try.underlying24 rfl (by kernel_rfl)) rfl ?_
  exact ⟨⟨k5, n5, p5, m5, c5, ok, ks5, rfl, hK5.carry ((below_put3 (Below.refl (W.heap.size + 1) _) (Nat.le_refl _) _ _ _).mono (by omega)), hy5, hn5⟩, HB5.out⟩
set_option maxRecDepth 100000 in
set_option maxHeartbeats 4000000 in
theorem r13_atlast (k n k' n' : Int) (g h m c m' c' j : Nat) (p' : Option Addr) (b o t d lim : Nat) (O : Option (Int × Int × Fo)) (W : World) (hj : j < m) (hm : m ≤ 9223372036854775807) (ht : t ≤ 17592186044415) (hd : t ≤ d + 1) (hd2 : d ≤ 9223372036854775807)
    (hP : W.cell? ⟨b, o, none⟩ = some (.int .i64 (j : Int))) (q0 : W.cell? ⟨g, h + j * 3, none⟩ = some (.int .i64 k')) (q1 : W.cell? ⟨g, h + j * 3 + 1, none⟩ = some (.int .i64 n')) (q2 : W.cell? ⟨g, h + j * 3 + 2, none⟩ = some (.slice p' m' c')) (hl : lim ≤ W.heap.size)
    (CL : ∀ w', Below W.heap.size W w' → Calls Try.prog 27 #[.agg #[.int .i64 k', .int .i64 n', .slice p' m' c'], .slice (some ⟨b, o, none⟩) 0 0] w' fun e w'' => AtG lim O e w'' ∧ Below w'.heap.size w' w'') :
    Calls Try.prog 27 #[.agg #[.int .i64 k, .int .i64 n, .slice (some ⟨g, h, none⟩) m c], (.slice (some ⟨b, o, none⟩) 1 1)] W fun e w' => AtG lim O e w' ∧ Below W.heap.size W w' := by
  obtain ⟨w0, hw0, r0, r1, hB, hs⟩ := clone_start W (.int .i64 k) (.int .i64 n) (.slice (some ⟨g, h, none⟩) m c) (.int .i64 0) (.int .i64 0) (.slice none 0 0) 24
  obtain ⟨x0, x1, x2, _, _, _⟩ := row_cells3 r0
  have lP := block_lt_of_cell hP
  have lq := block_lt_of_cell q0
  have lx := block_lt_of_cell x0
  have l1 : W.heap.size + 1 < w0.heap.size := by omega
  have p0 := (hB.cell (p := ⟨b, o, none⟩) lP).trans hP
  have q0 := (hB.cell (p := ⟨g, h + j * 3, none⟩) lq).trans q0
  have q1 := (hB.cell (p := ⟨g, h + j * 3 + 1, none⟩) lq).trans q1
  have q2 := (hB.cell (p := ⟨g, h + j * 3 + 2, none⟩) lq).trans q2
  have lP0 : b < w0.heap.size := Nat.lt_of_lt_of_le (show b < W.heap.size from lP) (by omega)
  have lq0 : g < w0.heap.size := Nat.lt_of_lt_of_le (show g < W.heap.size from lq) (by omega)
  have CL := Lib.hid (fun w' (hb : Below w0.heap.size w0 w') => CL w' (hB.trans (hb.mono hB.size)))
  have MK := Lib.hid (fun w' (hb : Below w0.heap.size w0 w') => (show w'.cell? ⟨W.heap.size, 0, none⟩ = some (.int .i64 k) ∧ w'.cell? ⟨W.heap.size, 1, none⟩ = some (.int .i64 n) ∧ w'.cell? ⟨W.heap.size, 2, none⟩ = some (.slice (some ⟨g, h, none⟩) m c) ∧ w'.cell? ⟨b, o, none⟩ = some (.int .i64 (j : Int)) ∧ w'.cell? ⟨g, h + j * 3, none⟩ = some (.int .i64 k') ∧ w'.cell? ⟨g, h + j * 3 + 1, none⟩ = some (.int .i64 n') ∧ w'.cell? ⟨g, h + j * 3 + 2, none⟩ = some (.slice p' m' c') ∧ Below W.heap.size W w' from ⟨(hb.cell (p := ⟨W.heap.size, 0, none⟩) lx).trans x0, (hb.cell (p := ⟨W.heap.size, 1, none⟩) lx).trans x1, (hb.cell (p := ⟨W.heap.size, 2, none⟩) lx).trans x2, (hb.cell (p := ⟨b, o, none⟩) lP0).trans p0, (hb.cell (p := ⟨g, h + j * 3, none⟩) lq0).trans q0, (hb.cell (p := ⟨g, h + j * 3 + 1, none⟩) lq0).trans q1, (hb.cell (p := ⟨g, h + j * 3 + 2, none⟩) lq0).trans q2, hB.trans (hb.mono hB.size)⟩))
  have R1 := Lib.hid (fun w' (hb : Below w0.heap.size w0 w') => (show w'.heap[W.heap.size + 1]? = some (.cells #[.int .i64 0, .int .i64 0, .slice none 0 0] 24 (0, 0)) from (hb.block _ l1).trans r1))
  have HB := Lib.hid hB
  have c1 : decide ((j : Int) < 0) = false := decide_eq_false (by omega)
  have c2 : decide ((m : Int) ≤ (j : Int)) = false := decide_eq_false (by omega)
  have j0 : (0 : Int) ≤ (j : Int) := by omega
  have j1 : (j : Int) < (m : Int) := by omega
  clear r0 r1 hB hP
  go_enter Try.func27, Try.ntmps27
  go_wp2_with fail
  rw [← hw0]
  clear hw0
  go_wp2_with fail
  go_quiet (fail)
  go_wp2_with fail
  have HB0 : Hid (Below w0.heap.size w0 (w0.drewN nq).drew) := Lib.hid (below_drewN (Below.refl _ _) _).drew
  refine wp_region_held_drew (S := (fun w' => w'.cell? ⟨W.heap.size, 0, none⟩ = some (.int .i64 k) ∧ w'.cell? ⟨W.heap.size, 1, none⟩ = some (.int .i64 n) ∧ w'.cell? ⟨W.heap.size, 2, none⟩ = some (.slice (some ⟨g, h, none⟩) m c) ∧ w'.cell? ⟨b, o, none⟩ = some (.int .i64 (j : Int)) ∧ w'.cell? ⟨g, h + j * 3, none⟩ = some (.int .i64 k') ∧ w'.cell? ⟨g, h + j * 3 + 1, none⟩ = some (.int .i64 n') ∧ w'.cell? ⟨g, h + j * 3 + 2, none⟩ = some (.slice p' m' c') ∧ Below W.heap.size W w')) (by kernel_rfl) (MK.out _ HB0.out) (fun hHeld => ?_)
  generalize (w0.drewN nq).drew = u at *
  refine wpAnyH_take (i := 0) (v := ?v13) rfl (by kernel_rfl) (by kernel_rfl) (by kernel_rfl) (fun _ _ _ h => h) (Or.inl ⟨by kernel_rfl, ?hy13⟩) (by assumption) ?rest13
  case hy13 => intro w hSw; (try dsimp only at hSw); go_simp; (first | done | with_reducible rfl)
  (try simp only [Act.put, List.getElem_toArray, List.getElem_cons_zero, List.getElem_cons_succ, List.setIfInBounds_toArray, List.set_cons_zero, List.set_cons_succ])
  refine wpAnyH_take (i := 1) (v := ?v14) rfl (by kernel_rfl) (by kernel_rfl) (by kernel_rfl) (fun _ _ _ h => h) (Or.inl ⟨by kernel_rfl, ?hy14⟩) (by assumption) ?rest14
  case hy14 => intro w hSw; (try dsimp only at hSw); go_simp; (first | done | with_reducible rfl)
  (try simp only [Act.put, List.getElem_toArray, List.getElem_cons_zero, List.getElem_cons_succ, List.setIfInBounds_toArray, List.set_cons_zero, List.set_cons_succ])
  refine wpAnyH_take (i := 2) (v := ?v15) rfl (by kernel_rfl) (by kernel_rfl) (by kernel_rfl) (fun _ _ _ h => h) (Or.inl ⟨by kernel_rfl, ?hy15⟩) (by assumption) ?rest15
  case hy15 => intro w hSw; (try dsimp only at hSw); go_simp; (first | done | with_reducible rfl)
  (try simp only [Act.put, List.getElem_toArray, List.getElem_cons_zero, List.getElem_cons_succ, List.setIfInBounds_toArray, List.set_cons_zero, List.set_cons_succ])
  refine wpAnyH_take (i := 3) (v := ?v16) rfl (by kernel_rfl) (by kernel_rfl) (by kernel_rfl) (fun _ _ _ h => h) (Or.inl ⟨by kernel_rfl, ?hy16⟩) (by assumption) ?rest16
  case hy16 => intro w hSw; (try dsimp only at hSw); go_simp; (first | done | with_reducible rfl)
  (try simp only [Act.put, List.getElem_toArray, List.getElem_cons_zero, List.getElem_cons_succ, List.setIfInBounds_toArray, List.set_cons_zero, List.set_cons_succ])
  refine wpAnyH_take (i := 4) (v := ?v17) rfl (by kernel_rfl) (by kernel_rfl) (by kernel_rfl) (fun _ _ _ h => h) (Or.inl ⟨by kernel_rfl, ?hy17⟩) (by assumption) ?rest17
  case hy17 => intro w hSw; (try dsimp only at hSw); go_simp; (first | done | with_reducible rfl)
  (try simp only [Act.put, List.getElem_toArray, List.getElem_cons_zero, List.getElem_cons_succ, List.setIfInBounds_toArray, List.set_cons_zero, List.set_cons_succ])
  refine wpAnyH_take (i := 5) (v := ?v18) rfl (by kernel_rfl) (by kernel_rfl) (by kernel_rfl) (fun _ _ _ h => h) (Or.inl ⟨by kernel_rfl, ?hy18⟩) (by assumption) ?rest18
  case hy18 => intro w hSw; (try dsimp only at hSw); go_simp; (first | done | with_reducible rfl)
  (try simp only [Act.put, List.getElem_toArray, List.getElem_cons_zero, List.getElem_cons_succ, List.setIfInBounds_toArray, List.set_cons_zero, List.set_cons_succ])
  refine wpAnyH_take (i := 6) (v := ?v19) rfl (by kernel_rfl) (by kernel_rfl) (by kernel_rfl) (fun _ _ _ h => h) (Or.inl ⟨by kernel_rfl, ?hy19⟩) (by assumption) ?rest19
  case hy19 => intro w hSw; (try dsimp only at hSw); go_simp; (first | done | with_reducible rfl)
  (try simp only [Act.put, List.getElem_toArray, List.getElem_cons_zero, List.getElem_cons_succ, List.setIfInBounds_toArray, List.set_cons_zero, List.set_cons_succ])
  refine wpAnyH_take (i := 7) (v := ?v20) rfl (by kernel_rfl) (by kernel_rfl) (by kernel_rfl) (fun _ _ _ h => h) (Or.inl ⟨by kernel_rfl, ?hy20⟩) (by assumption) ?rest20
  case hy20 => intro w hSw; (try dsimp only at hSw); go_simp; (first | done | with_reducible rfl)
  (try simp only [Act.put, List.getElem_toArray, List.getElem_cons_zero, List.getElem_cons_succ, List.setIfInBounds_toArray, List.set_cons_zero, List.set_cons_succ])
  refine wpAnyH_take (i := 8) (v := ?v21) rfl (by kernel_rfl) (by kernel_rfl) (by kernel_rfl) (fun _ _ _ h => h) (Or.inl ⟨by kernel_rfl, ?hy21⟩) (by assumption) ?rest21
  case hy21 => intro w hSw; (try dsimp only at hSw); go_simp; (first | done | with_reducible rfl)
  (try simp only [Act.put, List.getElem_toArray, List.getElem_cons_zero, List.getElem_cons_succ, List.setIfInBounds_toArray, List.set_cons_zero, List.set_cons_succ])
  refine wpAnyH_ready (rs := [9]) (by kernel_rfl) (by simp) ?_
  refine AllReadyH.cons rfl (fun K hK => ?_) AllReadyH.nil
  go_simp
  refine (CL.out _ HB0.out).mono ?_
  rintro e w5 ⟨⟨k5, n5, p5, m5, c5, ok, ks5, rfl, hK5, hy5, hn5⟩, b5⟩
  have HBW := Lib.hid (HB0.out.trans (b5.mono HB0.out.size))
  (try go_wp2_with fail)
  refine hK.out _ _ (MK.out _ HBW.out) (fun hHeld2 => ?_)
  clear hK K hHeld
  have hHeld := hHeld2
  clear hHeld2
  (try simp only [Act.put, List.getElem_toArray, List.getElem_cons_zero, List.getElem_cons_succ, List.setIfInBounds_toArray, List.set_cons_zero, List.set_cons_succ])
  refine wpAnyH_take (i := 10) (v := ?v22) rfl (by kernel_rfl) (by kernel_rfl) (by kernel_rfl) (fun _ _ _ h => h) (Or.inl ⟨by kernel_rfl, ?hy22⟩) (by assumption) ?rest22
  case hy22 => intro w hSw; (try dsimp only at hSw); go_simp; (first | done | with_reducible rfl)
  (try simp only [Act.put, List.getElem_toArray, List.getElem_cons_zero, List.getElem_cons_succ, List.setIfInBounds_toArray, List.set_cons_zero, List.set_cons_succ])
  refine wpAnyH_take (i := 11) (v := ?v23) rfl (by kernel_rfl) (by kernel_rfl) (by kernel_rfl) (fun _ _ _ h => h) (Or.inl ⟨by kernel_rfl, ?hy23⟩) (by assumption) ?rest23
  case hy23 => intro w hSw; (try dsimp only at hSw); go_simp; (first | done | with_reducible rfl)
  (try simp only [Act.put, List.getElem_toArray, List.getElem_cons_zero, List.getElem_cons_succ, List.setIfInBounds_toArray, List.set_cons_zero, List.set_cons_succ])
  have r5 := R1.out _ HBW.out
  obtain ⟨y0, y1, y2, f0, f1, f2⟩ := row_cells3 r5
  have HR := Lib.hid (row_put3 (a := .int .i64 k5) (b := .int .i64 n5) (c := .slice p5 m5 c5) r5)
  have HB5 := Lib.hid (below_put3 (HB.out.trans (HBW.out.mono HB.out.size)) (show W.heap.size ≤ W.heap.size + 1 by omega) (.int .i64 k5) (.int .i64 n5) (.slice p5 m5 c5))
  refine wpAnyH_ready (rs := [12]) (by kernel_rfl) (by simp) ?_
  refine AllReadyH.cons rfl (fun K hK => ?_) AllReadyH.nil
  go_simp
  have hSN := Lib.hid (show ∀ q i : Nat, q ≠ W.heap.size + 1 → (((w5.setCell ⟨W.heap.size + 1, 0, none⟩ (.int .i64 k5)).setCell ⟨W.heap.size + 1, 1, none⟩ (.int .i64 n5)).setCell ⟨W.heap.size + 1, 2, none⟩ (.slice p5 m5 c5)).cell? ⟨q, i, none⟩ = w5.cell? ⟨q, i, none⟩ from fun q i hq => by rw [World.cell?_setCell_far _ _ _ _ (Ne.symm hq), World.cell?_setCell_far _ _ _ _ (Ne.symm hq), World.cell?_setCell_far _ _ _ _ (Ne.symm hq)])
  have nX : W.heap.size ≠ W.heap.size + 1 := by omega
  have nb : b ≠ W.heap.size + 1 := by have : b < W.heap.size := lP; omega
  have ng : g ≠ W.heap.size + 1 := by have : g < W.heap.size := lq; omega
  obtain ⟨s0, s1, s2, s3, s4, s5, s6, _⟩ := MK.out _ HBW.out
  refine hK.out _ _ ⟨(hSN.out _ _ nX).trans s0, (hSN.out _ _ nX).trans s1, (hSN.out _ _ nX).trans s2, (hSN.out _ _ nb).trans s3, (hSN.out _ _ ng).trans s4, (hSN.out _ _ ng).trans s5, (hSN.out _ _ ng).trans s6, HB5.out⟩ (fun hHeld2 => ?_)
  clear hK K hHeld s0 s1 s2 s3 s4 s5 s6
  have hHeld := hHeld2
  clear hHeld2
  (try simp only [Act.put, List.getElem_toArray, List.getElem_cons_zero, List.getElem_cons_succ, List.setIfInBounds_toArray, List.set_cons_zero, List.set_cons_succ])
  refine wpAnyH_take (i := 13) (v := ?v24) rfl (by kernel_rfl) (by kernel_rfl) (by kernel_rfl) (fun _ _ _ h => h) (Or.inl ⟨by kernel_rfl, ?hy24⟩) (by assumption) ?rest24
  case hy24 => intro w hSw; (try dsimp only at hSw); go_simp; (first | done | with_reducible rfl)
  (try simp only [Act.put, List.getElem_toArray, List.getElem_cons_zero, List.getElem_cons_succ, List.setIfInBounds_toArray, List.set_cons_zero, List.set_cons_succ])
  refine wpAnyH_done (by kernel_rfl) ?_ _
  go_wp2_with fail
  refine bodyPost_ret (results_cell_tmp' (p := 4) (a := 5) (ty := 24) rfl _ _ _ 24 #[.int .i64 k5, .int .i64 n5, .slice p5 m5 c5] (0, 0) _ (.bool ok) rfl rfl HR.out Try.underlying24 rfl (by kernel_rfl)) rfl ?_
  exact ⟨⟨k5, n5, p5, m5, c5, ok, ks5, rfl, hK5.carry ((below_put3 (Below.refl (W.heap.size + 1) _) (Nat.le_refl _) _ _ _).mono (by omega)), hy5, hn5⟩, HB5.out⟩
theorem RowI.drop1' {w : World} {b off n : Nat} {x : Int} {xs : List Int} (h : RowI w (some ⟨b, off, none⟩) (n + 1) (x :: xs)) : RowI w (some ⟨b, off + 1, none⟩) n xs := by
  have hl := h.len
  rw [List.length_cons] at hl
  refine ⟨by omega, ?_, fun z hz => h.wf z (List.mem_cons_of_mem _ hz), by have := h.small; omega⟩
  rcases h.reads with hn | ⟨b', off', e, hb, hc⟩
  · cases hn
  · cases e
    refine .inr ⟨b, off + 1, rfl, hb, fun i hi => ?_⟩
    rw [Nat.add_assoc, hc (1 + i) (by rw [List.length_cons]; omega), Nat.add_comm 1 i]
    simp [List.getD]
/-- Reference 13's At, of any tree and any path. -/
theorem r13_at : ∀ (xs : List Int) (k n : Int) (ks : Fo) (p : Option Addr) (m c lim : Nat) (a : Option Addr) (d : Nat) (W : World), Kids W lim (.slice p m c) ks → lim ≤ W.heap.size → RowI W a xs.length xs → xs.length ≤ d → d ≤ 9223372036854775807 →
    Calls Try.prog 27 #[.agg #[.int .i64 k, .int .i64 n, .slice p m c], .slice a xs.length d] W fun e w' => AtG lim (atN k n ks xs) e w' ∧ Below W.heap.size W w'
  | [], k, n, ks, p, m, c, lim, a, d, W, hK, hl, _, _, _ => r13_at0 k n ks p m c lim a d W hK hl
  | i :: r, k, n, ks, p, m, c, lim, a, d, W, hK, hl, hr, hd, hd2 => by
    rw [List.length_cons] at hr hd ⊢
    have hsm := hr.small
    obtain ⟨b, o, rfl, hb, hc0, _⟩ := hr.cell (k := 0) (by omega)
    have hP : W.cell? ⟨b, o, none⟩ = some (.int .i64 i) := hc0
    obtain ⟨a', c', e, hm1, hm2⟩ := hK.form
    cases e
    have hm3 : ks.len ≤ 9223372036854775807 := by unfold maxLen at hm2; omega
    by_cases hi : i < 0 ∨ (ks.len : Int) ≤ i
    · exact r13_atno k n i r ks _ _ _ lim b o r.length d W rfl hm3 hi hP (by omega)
    · obtain ⟨j, rfl⟩ := Int.eq_ofNat_of_zero_le (show 0 ≤ i by omega)
      have hj : j < ks.len := by omega
      obtain ⟨g, h, v, rfl, _, q0, q1, q2, hKj⟩ := hK.get hj
      obtain ⟨p', c'', rfl, _, _⟩ := hKj.form
      rw [atN, if_neg hi]
      simp only [Int.toNat_natCast]
      by_cases h1 : d = 1
      · subst h1
        obtain rfl : r = [] := List.length_eq_zero_iff.1 (by omega)
        exact r13_atlast k n _ _ g h ks.len _ _ _ j _ b o 0 0 lim _ W hj hm3 (by omega) (by omega) (by omega) hP q0 q1 q2 hl (fun w' hb' => r13_at0 _ _ _ _ _ _ lim _ _ w' (hKj.below hl hb') (by have := hb'.size; omega))
      · obtain ⟨d', rfl⟩ : ∃ d', d = d' + 2 := ⟨d - 2, by omega⟩
        exact r13_atmore k n _ _ g h ks.len _ _ _ j _ b o r.length d' lim _ W hj hm3 (by omega) (by omega) (by omega) hP q0 q1 q2 hl (fun w' hb' => r13_at r _ _ _ _ _ _ lim _ _ w' (hKj.below hl hb') (by have := hb'.size; omega) (hr.drop1'.below hb') (by omega) (by omega))
end Go.Proofs.Ytfjioflggkmhcaa
