/- How two trees stand by their work: package cost's Cmp, reference 18's. -/
import Derived.Test.YtfjioflggkmhcaaCoste
import Derived.Test.YtfjioflggkmhcaaCmpr
namespace Go.Proofs.Ytfjioflggkmhcaa
open Go.ChangeShapes Go.WideShapes Go.ChangeAt Go.RowKit
set_option linter.unusedVariables false
/-- The work, and behind all that for what is no plan. -/
def rankC (k n : Int) (ks : Fo) : Int := if chkd k n ks = 0 then estN k n ks else 1152921504606846977
def cmpC (k n : Int) (ks : Fo) (k' n' : Int) (ks' : Fo) : Int := fz [cmp3 (rankC k n ks) (rankC k' n' ks'), cmpN k n ks k' n' ks']
theorem cmpC_neg (k n : Int) (ks : Fo) (k' n' : Int) (ks' : Fo) : cmpC k' n' ks' k n ks = - cmpC k n ks k' n' ks' := by
  unfold cmpC
  rw [cmp3_neg (rankC k n ks), cmpN_neg k n ks]
  exact fz_neg2 _ _ _ (fz_neg2 _ [] [] rfl)
theorem cmpC_self (k n : Int) (ks : Fo) : cmpC k n ks k n ks = 0 := by have := cmpC_neg k n ks k n ks; omega
theorem cmpC_bd (k n : Int) (ks : Fo) (k' n' : Int) (ks' : Fo) : -1 ≤ cmpC k n ks k' n' ks' ∧ cmpC k n ks k' n' ks' ≤ 1 := by
  refine fz_bd _ fun x hx => ?_
  simp only [List.mem_cons, List.not_mem_nil, or_false] at hx
  rcases hx with rfl | rfl
  · exact cmp3_bd _ _
  · exact cmpN_bd _ _ _ _ _ _
set_option maxRecDepth 100000 in
theorem cost_rank (ks : Fo) (v : Value) (k n : Int) (lim : Nat) (W : World) (hN : ks.cnt ≤ 1048576) (hK : Kids W lim v ks) (hl : lim ≤ W.heap.size) (wn : -9223372036854775808 ≤ n ∧ n ≤ 9223372036854775807) (wf : ks.wf) :
    Calls Try.prog 60 #[.agg #[.int .i64 k, .int .i64 n, v]] W fun e w' => e = .returned (.int .i64 (rankC k n ks)) ∧ Below W.heap.size W w' := by
  have CT := Lib.hid (fun w h1 h2 => cost_top ks v k n lim w hN h1 h2 wn wf)
  obtain ⟨p, m, c, rfl, hc1, hc2, HM⟩ := hK.shape
  obtain ⟨w0, hw0, c0, c1, c2, hB, hsz⟩ := box3 W k n (.slice p m c) 24
  have hK0 := hK.below hl hB
  by_cases h0 : chkd k n ks = 0
  · have E := Lib.hid (show costE k n ks = rankC k n ks by unfold costE rankC; rw [if_pos h0, if_pos h0])
    rw [h0] at CT
    generalize rankC k n ks = z at *
    generalize costE k n ks = y at *
    clear h0
    go_enter Try.func60, Try.ntmps60
    go_wp2_with fail
    rw [← hw0]
    clear hw0
    refine (CT.out _ hK0 (by omega)).mono ?_
    rintro e w1 ⟨rfl, b1⟩
    go_wp2_with fail
    go_ret
    exact ⟨ret_i64 E.out, hB.trans (b1.mono hB.size)⟩
  · have E := Lib.hid (show (1152921504606846977 : Int) = rankC k n ks by unfold rankC; rw [if_neg h0])
    generalize rankC k n ks = z at *
    generalize costE k n ks = y at *
    generalize chkd k n ks = x at *
    have d0 : (x != 0) = true := by simp [h0]
    go_enter Try.func60, Try.ntmps60
    go_wp2_with fail
    rw [← hw0]
    clear hw0
    refine (CT.out _ hK0 (by omega)).mono ?_
    rintro e w1 ⟨rfl, b1⟩
    go_wp2_with fail
    go_ret
    exact ⟨ret_i64 E.out, hB.trans (b1.mono hB.size)⟩
theorem row2_lies (w : World) (T : TypeId) (a b : Int) (ha : (Lit.int .i64 a).wf = true) (hb : (Lit.int .i64 b).wf = true) :
    RowI (w.alloc (.cells #[.int .i64 a, .int .i64 b] T)) (some ⟨w.heap.size, 0, none⟩) 2 [a, b] := by
  refine ⟨rfl, .inr ⟨w.heap.size, 0, rfl, by simp, fun i hi => ?_⟩, fun z hz => ?_, by omega⟩
  · rw [cell_of_row _ _ _ _ _ _ (heap_alloc_new w _)]
    have : i = 0 ∨ i = 1 := by simp at hi; omega
    rcases this with rfl | rfl <;> rfl
  · simp only [List.mem_cons, List.not_mem_nil, or_false] at hz
    rcases hz with rfl | rfl <;> assumption
theorem bd_wf {x : Int} (h : -1 ≤ x ∧ x ≤ 1) : (Lit.int .i64 x).wf = true := by
  have : x = -1 ∨ x = 0 ∨ x = 1 := by omega
  rcases this with rfl | rfl | rfl <;> rfl
set_option maxRecDepth 100000 in
set_option maxHeartbeats 8000000 in
theorem cost_cmp (ks ks' : Fo) (v v' : Value) (k n k' n' : Int) (lim : Nat) (W : World) (hN : ks.cnt ≤ 1048576) (hN' : ks'.cnt ≤ 1048576) (hK : Kids W lim v ks) (hK' : Kids W lim v' ks') (hl : lim ≤ W.heap.size)
    (wn : -9223372036854775808 ≤ n ∧ n ≤ 9223372036854775807) (wf : ks.wf) (wn' : -9223372036854775808 ≤ n' ∧ n' ≤ 9223372036854775807) (wf' : ks'.wf) :
    Calls Try.prog 35 #[.agg #[.int .i64 k, .int .i64 n, v], .agg #[.int .i64 k', .int .i64 n', v']] W fun e w' => e = .returned (.int .i64 (cmpC k n ks k' n' ks')) ∧ Below W.heap.size W w' := by
  obtain ⟨p, m, c, rfl, hc1, hc2, HM⟩ := hK.shape
  obtain ⟨p', m', c', rfl, hc1', hc2', HM'⟩ := hK'.shape
  have CC := Lib.hid (fun x y w => cmp_compare x y w)
  obtain ⟨w0, hw0, ⟨a0, a1, a2⟩, ⟨b0, b1, b2⟩, hB, hsz⟩ := two3 W k n k' n' (.slice p m c) (.slice p' m' c') 24
  have lt0 : W.heap.size < w0.heap.size := by omega
  have lt1 : W.heap.size + 1 < w0.heap.size := by omega
  have MK := Lib.hid (fun w' (hb : Below w0.heap.size w0 w') => (show w'.cell? ⟨W.heap.size, 0, none⟩ = some (.int .i64 k) ∧ w'.cell? ⟨W.heap.size, 1, none⟩ = some (.int .i64 n) ∧ w'.cell? ⟨W.heap.size, 2, none⟩ = some (.slice p m c) ∧ w'.cell? ⟨W.heap.size + 1, 0, none⟩ = some (.int .i64 k') ∧ w'.cell? ⟨W.heap.size + 1, 1, none⟩ = some (.int .i64 n') ∧ w'.cell? ⟨W.heap.size + 1, 2, none⟩ = some (.slice p' m' c') ∧ Below w0.heap.size w0 w' from
    ⟨(hb.cell (p := ⟨W.heap.size, 0, none⟩) lt0).trans a0, (hb.cell (p := ⟨W.heap.size, 1, none⟩) lt0).trans a1, (hb.cell (p := ⟨W.heap.size, 2, none⟩) lt0).trans a2, (hb.cell (p := ⟨W.heap.size + 1, 0, none⟩) lt1).trans b0, (hb.cell (p := ⟨W.heap.size + 1, 1, none⟩) lt1).trans b1, (hb.cell (p := ⟨W.heap.size + 1, 2, none⟩) lt1).trans b2, hb⟩))
  have KP := Lib.hid (fun w1 w' (hS : w1.cell? ⟨W.heap.size, 0, none⟩ = some (.int .i64 k) ∧ w1.cell? ⟨W.heap.size, 1, none⟩ = some (.int .i64 n) ∧ w1.cell? ⟨W.heap.size, 2, none⟩ = some (.slice p m c) ∧ w1.cell? ⟨W.heap.size + 1, 0, none⟩ = some (.int .i64 k') ∧ w1.cell? ⟨W.heap.size + 1, 1, none⟩ = some (.int .i64 n') ∧ w1.cell? ⟨W.heap.size + 1, 2, none⟩ = some (.slice p' m' c') ∧ Below w0.heap.size w0 w1) (hb : Below w1.heap.size w1 w') => MK.out w' (hS.2.2.2.2.2.2.trans (hb.mono hS.2.2.2.2.2.2.size)))
  have hK0 := hK.below hl hB
  have hK0' := hK'.below hl hB
  have hlw : lim ≤ w0.heap.size := by omega
  have RA := Lib.hid (fun w' (hb : Below w0.heap.size w0 w') => cost_rank ks (.slice p m c) k n lim w' hN (hK0.below hlw hb) (by have := hb.size; omega) wn wf)
  have RB := Lib.hid (fun w' (hb : Below w0.heap.size w0 w') => cost_rank ks' (.slice p' m' c') k' n' lim w' hN' (hK0'.below hlw hb) (by have := hb.size; omega) wn' wf')
  have DC := Lib.hid (fun w' (hb : Below w0.heap.size w0 w') => desc_cmp ks.cnt ks ks' (.slice p m c) (.slice p' m' c') k n k' n' lim w' (Nat.le_refl _) (hK0.below hlw hb) (hK0'.below hlw hb) (by have := hb.size; omega))
  have CO := Lib.hid (fun (w : World) (o : Obj) (ho : o = .cells #[.int .i64 (cmp3 (rankC k n ks) (rankC k' n' ks')), .int .i64 (cmpN k n ks k' n' ks')] 3) (w' : World) (hw : Below (w.heap.size + 1) (w.alloc o) w') => cmp_or (some ⟨w.heap.size, 0, none⟩) 2 2 [cmp3 (rankC k n ks) (rankC k' n' ks'), cmpN k n ks k' n' ks'] w' (by
    subst ho
    exact (row2_lies w 3 _ _ (cmp3_wf _ _) (bd_wf (cmpN_bd _ _ _ _ _ _))).below (by simpa using hw)))
  rw [show fz [cmp3 (rankC k n ks) (rankC k' n' ks'), cmpN k n ks k' n' ks'] = cmpC k n ks k' n' ks' from rfl] at CO
  generalize cmpC k n ks k' n' ks' = z at *
  generalize rankC k n ks = ra at *
  generalize rankC k' n' ks' = rb at *
  generalize cmpN k n ks k' n' ks' = d at *
  clear hK hK' hK0 hK0' a0 a1 a2 b0 b1 b2
  go_enter Try.func35, Try.ntmps35
  go_wp2_with fail
  rw [← hw0]
  clear hw0
  generalize W.heap.size + 1 = Y at *
  generalize hX : W.heap.size = X at *
  go_region_held3 (fun w' => w'.cell? ⟨X, 0, none⟩ = some (.int .i64 k) ∧ w'.cell? ⟨X, 1, none⟩ = some (.int .i64 n) ∧ w'.cell? ⟨X, 2, none⟩ = some (.slice p m c) ∧ w'.cell? ⟨Y, 0, none⟩ = some (.int .i64 k') ∧ w'.cell? ⟨Y, 1, none⟩ = some (.int .i64 n') ∧ w'.cell? ⟨Y, 2, none⟩ = some (.slice p' m' c') ∧ Below w0.heap.size w0 w') (first | exact MK.out _ ((Below.refl _ _).drew) | assumption | (refine KP.out _ _ ?_ hb; first | assumption | exact MK.out _ ((Below.refl _ _).drew)) | (refine KP.out _ _ ?_ ((Below.refl _ _).alloc (Nat.le_refl _) _); first | assumption | exact MK.out _ ((Below.refl _ _).drew))) (first | (go_at_call 60; (first | with_reducible refine (RA.out _ (by go_split_ands; assumption)).mono ?_ | with_reducible refine (RB.out _ (by go_split_ands; assumption)).mono ?_); rintro e w' ⟨rfl, hb⟩) | (go_at_call 22; (with_reducible refine (DC.out _ (by go_split_ands; assumption)).mono ?_); rintro e w' ⟨rfl, hb⟩) | (go_at_call 52; (with_reducible refine (CC.out _ _ _).mono ?_); rintro e w' ⟨rfl, rfl⟩) | (go_at_call 51; (with_reducible refine (CO.out _ _ rfl _ (by exact Below.refl _ _)).mono ?_); rintro e w' ⟨rfl, rfl⟩))
  rename_i hSS
  obtain ⟨_, _, _, _, _, _, hBB⟩ := hSS
  go_wp2_with fail
  go_ret
  exact ⟨rfl, by have h2 := hB.size; rw [hX] at h2; have h3 := hB.trans (hBB.mono h2); rw [← hX] at h3; exact h3⟩
theorem cmpC_lt {k n : Int} {ks : Fo} {k' n' : Int} {ks' : Fo} (h : rankC k n ks < rankC k' n' ks') : cmpC k n ks k' n' ks' = -1 := by
  unfold cmpC; rw [cmp3_lt h]; rfl
theorem cmpC_gt {k n : Int} {ks : Fo} {k' n' : Int} {ks' : Fo} (h : rankC k' n' ks' < rankC k n ks) : cmpC k n ks k' n' ks' = 1 := by
  unfold cmpC; rw [cmp3_gt h]; rfl
theorem cmpC_eq {k n : Int} {ks : Fo} {k' n' : Int} {ks' : Fo} (h : rankC k n ks = rankC k' n' ks') : cmpC k n ks k' n' ks' = cmpN k n ks k' n' ks' := by
  unfold cmpC; rw [cmp3_eq h, fz_cons, if_pos rfl, fz_one]
set_option maxRecDepth 100000 in
set_option maxHeartbeats 8000000 in
theorem r18_cmp (ks ks' : Fo) (v v' : Value) (k n k' n' : Int) (lim : Nat) (W : World) (hN : ks.cnt ≤ 1048576) (hN' : ks'.cnt ≤ 1048576) (hK : Kids W lim v ks) (hK' : Kids W lim v' ks') (hl : lim ≤ W.heap.size)
    (wk : -9223372036854775808 ≤ k ∧ k ≤ 9223372036854775807) (wn : -9223372036854775808 ≤ n ∧ n ≤ 9223372036854775807) (wf : ks.wf) (wk' : -9223372036854775808 ≤ k' ∧ k' ≤ 9223372036854775807) (wn' : -9223372036854775808 ≤ n' ∧ n' ≤ 9223372036854775807) (wf' : ks'.wf) :
    Calls Try.prog 36 #[.agg #[.int .i64 k, .int .i64 n, v], .agg #[.int .i64 k', .int .i64 n', v']] W fun e w' => e = .returned (.int .i64 (cmpC k n ks k' n' ks')) ∧ Below W.heap.size W w' := by
  obtain ⟨p, m, c, rfl, hc1, hc2, HM⟩ := hK.shape
  obtain ⟨p', m', c', rfl, hc1', hc2', HM'⟩ := hK'.shape
  obtain ⟨w0, hw0, ⟨a0, a1, a2⟩, ⟨b0, b1, b2⟩, hB, hsz⟩ := two3 W k n k' n' (.slice p m c) (.slice p' m' c') 24
  have lt0 : W.heap.size < w0.heap.size := by omega
  have lt1 : W.heap.size + 1 < w0.heap.size := by omega
  have MK := Lib.hid (fun w' (hb : Below w0.heap.size w0 w') => (show w'.cell? ⟨W.heap.size, 0, none⟩ = some (.int .i64 k) ∧ w'.cell? ⟨W.heap.size, 1, none⟩ = some (.int .i64 n) ∧ w'.cell? ⟨W.heap.size, 2, none⟩ = some (.slice p m c) ∧ w'.cell? ⟨W.heap.size + 1, 0, none⟩ = some (.int .i64 k') ∧ w'.cell? ⟨W.heap.size + 1, 1, none⟩ = some (.int .i64 n') ∧ w'.cell? ⟨W.heap.size + 1, 2, none⟩ = some (.slice p' m' c') from
    ⟨(hb.cell (p := ⟨W.heap.size, 0, none⟩) lt0).trans a0, (hb.cell (p := ⟨W.heap.size, 1, none⟩) lt0).trans a1, (hb.cell (p := ⟨W.heap.size, 2, none⟩) lt0).trans a2, (hb.cell (p := ⟨W.heap.size + 1, 0, none⟩) lt1).trans b0, (hb.cell (p := ⟨W.heap.size + 1, 1, none⟩) lt1).trans b1, (hb.cell (p := ⟨W.heap.size + 1, 2, none⟩) lt1).trans b2⟩))
  have hK0 := hK.below hl hB
  have hK0' := hK'.below hl hB
  have hlw : lim ≤ w0.heap.size := by omega
  have RA := Lib.hid (fun w' (hb : Below w0.heap.size w0 w') => r14_check ks (.slice p m c) k n lim w' hN (hK0.below hlw hb) (by have := hb.size; omega) wk wn wf)
  have RB := Lib.hid (fun w' (hb : Below w0.heap.size w0 w') => r14_check ks' (.slice p' m' c') k' n' lim w' hN' (hK0'.below hlw hb) (by have := hb.size; omega) wk' wn' wf')
  have DC := Lib.hid (fun w' (hb : Below w0.heap.size w0 w') => r13_cmp ks.cnt ks ks' (.slice p m c) (.slice p' m' c') k n k' n' lim w' (Nat.le_refl _) (hK0.below hlw hb) (hK0'.below hlw hb) (by have := hb.size; omega))
  have EA := Lib.hid (fun (h : chkd k n ks = 0) w' (hb : Below w0.heap.size w0 w') => r18_est ks.cnt ks k n (.slice p m c) lim w' (Nat.le_refl _) (hK0.below hlw hb) (by have := hb.size; omega) (chkd_ok h).1 (chkd_ok h).2)
  have EB := Lib.hid (fun (h : chkd k' n' ks' = 0) w' (hb : Below w0.heap.size w0 w') => r18_est ks'.cnt ks' k' n' (.slice p' m' c') lim w' (Nat.le_refl _) (hK0'.below hlw hb) (by have := hb.size; omega) (chkd_ok h).1 (chkd_ok h).2)
  have CL := Lib.hid (fun h => cmpC_lt (k := k) (n := n) (ks := ks) (k' := k') (n' := n') (ks' := ks') h)
  have CG := Lib.hid (fun h => cmpC_gt (k := k) (n := n) (ks := ks) (k' := k') (n' := n') (ks' := ks') h)
  have CQ := Lib.hid (fun h => cmpC_eq (k := k) (n := n) (ks := ks) (k' := k') (n' := n') (ks' := ks') h)
  have RX := Lib.hid (fun (h : chkd k n ks = 0) => (show rankC k n ks = estN k n ks from if_pos h))
  have RX' := Lib.hid (fun (h : ¬ chkd k n ks = 0) => (show rankC k n ks = 1152921504606846977 from if_neg h))
  have RY := Lib.hid (fun (h : chkd k' n' ks' = 0) => (show rankC k' n' ks' = estN k' n' ks' from if_pos h))
  have RY' := Lib.hid (fun (h : ¬ chkd k' n' ks' = 0) => (show rankC k' n' ks' = 1152921504606846977 from if_neg h))
  generalize cmpC k n ks k' n' ks' = z at *
  generalize rankC k n ks = ra at *
  generalize rankC k' n' ks' = rb at *
  generalize cmpN k n ks k' n' ks' = d at *
  generalize estN k n ks = ea at *
  generalize estN k' n' ks' = eb at *
  generalize chkd k n ks = ca at *
  generalize chkd k' n' ks' = cb at *
  clear hK hK' hK0 hK0' a0 a1 a2 b0 b1 b2
  by_cases hA : ca = 0
  · have hra := RX.out hA
    have dA : (ca == 0) = true := by simp [hA]
    have EA := Lib.hid (EA.out hA)
    by_cases hB' : cb = 0
    · have hrb := RY.out hB'
      have dB : (cb == 0) = true := by simp [hB']
      have EB := Lib.hid (EB.out hB')
      rcases Int.lt_trichotomy ea eb with h | h | h
      · have d1 : decide (ea < eb) = true := decide_eq_true h
        have E := Lib.hid (CL.out (by omega))
        go_enter Try.func36, Try.ntmps36
        go_wp2_with fail
        rw [← hw0]
        clear hw0
        refine (RA.out _ (Below.refl _ _)).mono ?_
        rintro e w1 ⟨rfl, b1⟩
        obtain ⟨g0, g1, g2, h0, h1, h2⟩ := MK.out _ b1
        go_wp2_with fail
        refine (EA.out _ b1).mono ?_
        rintro e w2 ⟨rfl, b2⟩
        have b2 := b1.trans (b2.mono b1.size)
        clear g0 g1 g2 h0 h1 h2
        obtain ⟨g0, g1, g2, h0, h1, h2⟩ := MK.out _ b2
        go_wp2_with fail
        refine (RB.out _ b2).mono ?_
        rintro e w3 ⟨rfl, b3⟩
        have b3 := b2.trans (b3.mono b2.size)
        clear g0 g1 g2 h0 h1 h2
        obtain ⟨g0, g1, g2, h0, h1, h2⟩ := MK.out _ b3
        go_wp2_with fail
        refine (EB.out _ b3).mono ?_
        rintro e w4 ⟨rfl, b4⟩
        have b4 := b3.trans (b4.mono b3.size)
        clear g0 g1 g2 h0 h1 h2
        obtain ⟨g0, g1, g2, h0, h1, h2⟩ := MK.out _ b4
        go_wp2_with fail
        go_ret
        exact ⟨ret_i64 E.out.symm, hB.trans (b4.mono hB.size)⟩
      · have d1 : decide (ea < eb) = false := decide_eq_false (by omega)
        have d2 : decide (eb < ea) = false := decide_eq_false (by omega)
        have E := Lib.hid (CQ.out (by omega))
        go_enter Try.func36, Try.ntmps36
        go_wp2_with fail
        rw [← hw0]
        clear hw0
        refine (RA.out _ (Below.refl _ _)).mono ?_
        rintro e w1 ⟨rfl, b1⟩
        obtain ⟨g0, g1, g2, h0, h1, h2⟩ := MK.out _ b1
        go_wp2_with fail
        refine (EA.out _ b1).mono ?_
        rintro e w2 ⟨rfl, b2⟩
        have b2 := b1.trans (b2.mono b1.size)
        clear g0 g1 g2 h0 h1 h2
        obtain ⟨g0, g1, g2, h0, h1, h2⟩ := MK.out _ b2
        go_wp2_with fail
        refine (RB.out _ b2).mono ?_
        rintro e w3 ⟨rfl, b3⟩
        have b3 := b2.trans (b3.mono b2.size)
        clear g0 g1 g2 h0 h1 h2
        obtain ⟨g0, g1, g2, h0, h1, h2⟩ := MK.out _ b3
        go_wp2_with fail
        refine (EB.out _ b3).mono ?_
        rintro e w4 ⟨rfl, b4⟩
        have b4 := b3.trans (b4.mono b3.size)
        clear g0 g1 g2 h0 h1 h2
        obtain ⟨g0, g1, g2, h0, h1, h2⟩ := MK.out _ b4
        go_wp2_with fail
        refine (DC.out _ b4).mono ?_
        rintro e w5 ⟨rfl, b5⟩
        have b5 := b4.trans (b5.mono b4.size)
        go_wp2_with fail
        go_ret
        exact ⟨ret_i64 E.out.symm, hB.trans (b5.mono hB.size)⟩
      · have d1 : decide (ea < eb) = false := decide_eq_false (by omega)
        have d2 : decide (eb < ea) = true := decide_eq_true h
        have E := Lib.hid (CG.out (by omega))
        go_enter Try.func36, Try.ntmps36
        go_wp2_with fail
        rw [← hw0]
        clear hw0
        refine (RA.out _ (Below.refl _ _)).mono ?_
        rintro e w1 ⟨rfl, b1⟩
        obtain ⟨g0, g1, g2, h0, h1, h2⟩ := MK.out _ b1
        go_wp2_with fail
        refine (EA.out _ b1).mono ?_
        rintro e w2 ⟨rfl, b2⟩
        have b2 := b1.trans (b2.mono b1.size)
        clear g0 g1 g2 h0 h1 h2
        obtain ⟨g0, g1, g2, h0, h1, h2⟩ := MK.out _ b2
        go_wp2_with fail
        refine (RB.out _ b2).mono ?_
        rintro e w3 ⟨rfl, b3⟩
        have b3 := b2.trans (b3.mono b2.size)
        clear g0 g1 g2 h0 h1 h2
        obtain ⟨g0, g1, g2, h0, h1, h2⟩ := MK.out _ b3
        go_wp2_with fail
        refine (EB.out _ b3).mono ?_
        rintro e w4 ⟨rfl, b4⟩
        have b4 := b3.trans (b4.mono b3.size)
        clear g0 g1 g2 h0 h1 h2
        obtain ⟨g0, g1, g2, h0, h1, h2⟩ := MK.out _ b4
        go_wp2_with fail
        go_ret
        exact ⟨ret_i64 E.out.symm, hB.trans (b4.mono hB.size)⟩
    · have hrb := RY'.out hB'
      have dB : (cb == 0) = false := by simp [hB']
      rcases Int.lt_trichotomy ea 1152921504606846977 with h | h | h
      · have d1 : decide (ea < 1152921504606846977) = true := decide_eq_true h
        have E := Lib.hid (CL.out (by omega))
        go_enter Try.func36, Try.ntmps36
        go_wp2_with fail
        rw [← hw0]
        clear hw0
        refine (RA.out _ (Below.refl _ _)).mono ?_
        rintro e w1 ⟨rfl, b1⟩
        obtain ⟨g0, g1, g2, h0, h1, h2⟩ := MK.out _ b1
        go_wp2_with fail
        refine (EA.out _ b1).mono ?_
        rintro e w2 ⟨rfl, b2⟩
        have b2 := b1.trans (b2.mono b1.size)
        clear g0 g1 g2 h0 h1 h2
        obtain ⟨g0, g1, g2, h0, h1, h2⟩ := MK.out _ b2
        go_wp2_with fail
        refine (RB.out _ b2).mono ?_
        rintro e w3 ⟨rfl, b3⟩
        have b3 := b2.trans (b3.mono b2.size)
        clear g0 g1 g2 h0 h1 h2
        obtain ⟨g0, g1, g2, h0, h1, h2⟩ := MK.out _ b3
        go_wp2_with fail
        go_ret
        exact ⟨ret_i64 E.out.symm, hB.trans (b3.mono hB.size)⟩
      · have d1 : decide (ea < 1152921504606846977) = false := decide_eq_false (by omega)
        have d2 : decide (1152921504606846977 < ea) = false := decide_eq_false (by omega)
        have E := Lib.hid (CQ.out (by omega))
        go_enter Try.func36, Try.ntmps36
        go_wp2_with fail
        rw [← hw0]
        clear hw0
        refine (RA.out _ (Below.refl _ _)).mono ?_
        rintro e w1 ⟨rfl, b1⟩
        obtain ⟨g0, g1, g2, h0, h1, h2⟩ := MK.out _ b1
        go_wp2_with fail
        refine (EA.out _ b1).mono ?_
        rintro e w2 ⟨rfl, b2⟩
        have b2 := b1.trans (b2.mono b1.size)
        clear g0 g1 g2 h0 h1 h2
        obtain ⟨g0, g1, g2, h0, h1, h2⟩ := MK.out _ b2
        go_wp2_with fail
        refine (RB.out _ b2).mono ?_
        rintro e w3 ⟨rfl, b3⟩
        have b3 := b2.trans (b3.mono b2.size)
        clear g0 g1 g2 h0 h1 h2
        obtain ⟨g0, g1, g2, h0, h1, h2⟩ := MK.out _ b3
        go_wp2_with fail
        refine (DC.out _ b3).mono ?_
        rintro e w5 ⟨rfl, b5⟩
        have b5 := b3.trans (b5.mono b3.size)
        go_wp2_with fail
        go_ret
        exact ⟨ret_i64 E.out.symm, hB.trans (b5.mono hB.size)⟩
      · have d1 : decide (ea < 1152921504606846977) = false := decide_eq_false (by omega)
        have d2 : decide (1152921504606846977 < ea) = true := decide_eq_true h
        have E := Lib.hid (CG.out (by omega))
        go_enter Try.func36, Try.ntmps36
        go_wp2_with fail
        rw [← hw0]
        clear hw0
        refine (RA.out _ (Below.refl _ _)).mono ?_
        rintro e w1 ⟨rfl, b1⟩
        obtain ⟨g0, g1, g2, h0, h1, h2⟩ := MK.out _ b1
        go_wp2_with fail
        refine (EA.out _ b1).mono ?_
        rintro e w2 ⟨rfl, b2⟩
        have b2 := b1.trans (b2.mono b1.size)
        clear g0 g1 g2 h0 h1 h2
        obtain ⟨g0, g1, g2, h0, h1, h2⟩ := MK.out _ b2
        go_wp2_with fail
        refine (RB.out _ b2).mono ?_
        rintro e w3 ⟨rfl, b3⟩
        have b3 := b2.trans (b3.mono b2.size)
        clear g0 g1 g2 h0 h1 h2
        obtain ⟨g0, g1, g2, h0, h1, h2⟩ := MK.out _ b3
        go_wp2_with fail
        go_ret
        exact ⟨ret_i64 E.out.symm, hB.trans (b3.mono hB.size)⟩
  · have hra := RX'.out hA
    have dA : (ca == 0) = false := by simp [hA]
    by_cases hB' : cb = 0
    · have hrb := RY.out hB'
      have dB : (cb == 0) = true := by simp [hB']
      have EB := Lib.hid (EB.out hB')
      rcases Int.lt_trichotomy 1152921504606846977 eb with h | h | h
      · have d1 : decide (1152921504606846977 < eb) = true := decide_eq_true h
        have E := Lib.hid (CL.out (by omega))
        go_enter Try.func36, Try.ntmps36
        go_wp2_with fail
        rw [← hw0]
        clear hw0
        refine (RA.out _ (Below.refl _ _)).mono ?_
        rintro e w1 ⟨rfl, b1⟩
        obtain ⟨g0, g1, g2, h0, h1, h2⟩ := MK.out _ b1
        go_wp2_with fail
        refine (RB.out _ b1).mono ?_
        rintro e w3 ⟨rfl, b3⟩
        have b3 := b1.trans (b3.mono b1.size)
        clear g0 g1 g2 h0 h1 h2
        obtain ⟨g0, g1, g2, h0, h1, h2⟩ := MK.out _ b3
        go_wp2_with fail
        refine (EB.out _ b3).mono ?_
        rintro e w4 ⟨rfl, b4⟩
        have b4 := b3.trans (b4.mono b3.size)
        clear g0 g1 g2 h0 h1 h2
        obtain ⟨g0, g1, g2, h0, h1, h2⟩ := MK.out _ b4
        go_wp2_with fail
        go_ret
        exact ⟨ret_i64 E.out.symm, hB.trans (b4.mono hB.size)⟩
      · have d1 : decide (1152921504606846977 < eb) = false := decide_eq_false (by omega)
        have d2 : decide (eb < 1152921504606846977) = false := decide_eq_false (by omega)
        have E := Lib.hid (CQ.out (by omega))
        go_enter Try.func36, Try.ntmps36
        go_wp2_with fail
        rw [← hw0]
        clear hw0
        refine (RA.out _ (Below.refl _ _)).mono ?_
        rintro e w1 ⟨rfl, b1⟩
        obtain ⟨g0, g1, g2, h0, h1, h2⟩ := MK.out _ b1
        go_wp2_with fail
        refine (RB.out _ b1).mono ?_
        rintro e w3 ⟨rfl, b3⟩
        have b3 := b1.trans (b3.mono b1.size)
        clear g0 g1 g2 h0 h1 h2
        obtain ⟨g0, g1, g2, h0, h1, h2⟩ := MK.out _ b3
        go_wp2_with fail
        refine (EB.out _ b3).mono ?_
        rintro e w4 ⟨rfl, b4⟩
        have b4 := b3.trans (b4.mono b3.size)
        clear g0 g1 g2 h0 h1 h2
        obtain ⟨g0, g1, g2, h0, h1, h2⟩ := MK.out _ b4
        go_wp2_with fail
        refine (DC.out _ b4).mono ?_
        rintro e w5 ⟨rfl, b5⟩
        have b5 := b4.trans (b5.mono b4.size)
        go_wp2_with fail
        go_ret
        exact ⟨ret_i64 E.out.symm, hB.trans (b5.mono hB.size)⟩
      · have d1 : decide (1152921504606846977 < eb) = false := decide_eq_false (by omega)
        have d2 : decide (eb < 1152921504606846977) = true := decide_eq_true h
        have E := Lib.hid (CG.out (by omega))
        go_enter Try.func36, Try.ntmps36
        go_wp2_with fail
        rw [← hw0]
        clear hw0
        refine (RA.out _ (Below.refl _ _)).mono ?_
        rintro e w1 ⟨rfl, b1⟩
        obtain ⟨g0, g1, g2, h0, h1, h2⟩ := MK.out _ b1
        go_wp2_with fail
        refine (RB.out _ b1).mono ?_
        rintro e w3 ⟨rfl, b3⟩
        have b3 := b1.trans (b3.mono b1.size)
        clear g0 g1 g2 h0 h1 h2
        obtain ⟨g0, g1, g2, h0, h1, h2⟩ := MK.out _ b3
        go_wp2_with fail
        refine (EB.out _ b3).mono ?_
        rintro e w4 ⟨rfl, b4⟩
        have b4 := b3.trans (b4.mono b3.size)
        clear g0 g1 g2 h0 h1 h2
        obtain ⟨g0, g1, g2, h0, h1, h2⟩ := MK.out _ b4
        go_wp2_with fail
        go_ret
        exact ⟨ret_i64 E.out.symm, hB.trans (b4.mono hB.size)⟩
    · have hrb := RY'.out hB'
      have dB : (cb == 0) = false := by simp [hB']
      have E := Lib.hid (CQ.out (by omega))
      go_enter Try.func36, Try.ntmps36
      go_wp2_with fail
      rw [← hw0]
      clear hw0
      refine (RA.out _ (Below.refl _ _)).mono ?_
      rintro e w1 ⟨rfl, b1⟩
      obtain ⟨g0, g1, g2, h0, h1, h2⟩ := MK.out _ b1
      go_wp2_with fail
      refine (RB.out _ b1).mono ?_
      rintro e w3 ⟨rfl, b3⟩
      have b3 := b1.trans (b3.mono b1.size)
      clear g0 g1 g2 h0 h1 h2
      obtain ⟨g0, g1, g2, h0, h1, h2⟩ := MK.out _ b3
      go_wp2_with fail
      refine (DC.out _ b3).mono ?_
      rintro e w5 ⟨rfl, b5⟩
      have b5 := b3.trans (b5.mono b3.size)
      go_wp2_with fail
      go_ret
      exact ⟨ret_i64 E.out.symm, hB.trans (b5.mono hB.size)⟩
end Go.Proofs.Ytfjioflggkmhcaa
