/- How two trees stand: package desc's Cmp and Same. -/
import Derived.Test.YtofgkhoemgimeaaCmpt
namespace Go.Proofs.Ytofgkhoemgimeaa
open Go.ChangeShapes Go.WideShapes Go.ChangeAt Go.RowKit
set_option linter.unusedVariables false
theorem row3_lies (w : World) (T : TypeId) (a b c : Int) (ha : (Lit.int .i64 a).wf = true) (hb : (Lit.int .i64 b).wf = true) (hc : (Lit.int .i64 c).wf = true) :
    RowI (w.alloc (.cells #[.int .i64 a, .int .i64 b, .int .i64 c] T)) (some ⟨w.heap.size, 0, none⟩) 3 [a, b, c] := by
  refine ⟨rfl, .inr ⟨w.heap.size, 0, rfl, by simp, fun i hi => ?_⟩, fun z hz => ?_, by omega⟩
  · rw [cell_of_row _ _ _ _ _ _ (heap_alloc_new w _)]
    have : i = 0 ∨ i = 1 ∨ i = 2 := by simp at hi; omega
    rcases this with rfl | rfl | rfl <;> rfl
  · simp only [List.mem_cons, List.not_mem_nil, or_false] at hz
    rcases hz with rfl | rfl | rfl <;> assumption
/-- Two blocks of three cells, one behind the other. -/
theorem two3 (W : World) (k n k' n' : Int) (v v' : Value) (T : TypeId) : ∃ w2 : World, w2 = (W.alloc (.cells #[.int .i64 k, .int .i64 n, v] T)).alloc (.cells #[.int .i64 k', .int .i64 n', v'] T) ∧
    (w2.cell? ⟨W.heap.size, 0, none⟩ = some (.int .i64 k) ∧ w2.cell? ⟨W.heap.size, 1, none⟩ = some (.int .i64 n) ∧ w2.cell? ⟨W.heap.size, 2, none⟩ = some v) ∧
    (w2.cell? ⟨W.heap.size + 1, 0, none⟩ = some (.int .i64 k') ∧ w2.cell? ⟨W.heap.size + 1, 1, none⟩ = some (.int .i64 n') ∧ w2.cell? ⟨W.heap.size + 1, 2, none⟩ = some v') ∧ Below W.heap.size W w2 ∧ w2.heap.size = W.heap.size + 2 := by
  obtain ⟨w1, h1, a0, a1, a2, b1, s1⟩ := box3 W k n v T
  obtain ⟨w2, h2, c0, c1, c2, b2, s2⟩ := box3 w1 k' n' v' T
  have lt : W.heap.size < w1.heap.size := by omega
  rw [s1] at c0 c1 c2
  refine ⟨w2, by rw [h2, h1], ⟨?_, ?_, ?_⟩, ⟨c0, c1, c2⟩, b1.trans (b2.mono b1.size), by omega⟩
  · exact (b2.cell (p := ⟨W.heap.size, 0, none⟩) lt).trans a0
  · exact (b2.cell (p := ⟨W.heap.size, 1, none⟩) lt).trans a1
  · exact (b2.cell (p := ⟨W.heap.size, 2, none⟩) lt).trans a2
theorem cmp3_zero {x y : Int} (h : cmp3 x y = 0) : x = y := by unfold cmp3 at h; split at h; · cases h
                                                               · split at h; · cases h
                                                                 · omega
theorem cmpN_part (k n : Int) (ks : Fo) (k' n' : Int) (ks' : Fo) : cmpN k n ks k' n' ks' = if fz [cmp3 k k', cmp3 n n', cmp3 (ks.len : Int) (ks'.len : Int)] = 0 then ks.cmpF ks' else fz [cmp3 k k', cmp3 n n', cmp3 (ks.len : Int) (ks'.len : Int)] := by
  unfold cmpN
  simp only [fz_cons]
  generalize cmp3 k k' = x1
  generalize cmp3 n n' = x2
  generalize cmp3 (ks.len : Int) (ks'.len : Int) = x3
  generalize ks.cmpF ks' = x4
  unfold fz
  by_cases h1 : x1 = 0 <;> by_cases h2 : x2 = 0 <;> by_cases h3 : x3 = 0 <;> by_cases h4 : x4 = 0 <;> simp [h1, h2, h3, h4]
theorem fz3_zero {k k' n n' m m' : Int} (h : fz [cmp3 k k', cmp3 n n', cmp3 m m'] = 0) : m = m' := by
  simp only [fz_cons] at h
  unfold fz at h
  split at h
  · split at h
    · split at h
      · rename_i h3; exact cmp3_zero h3
      · exact absurd h (by assumption)
    · exact absurd h (by assumption)
  · exact absurd h (by assumption)
set_option maxRecDepth 100000 in
set_option maxHeartbeats 8000000 in
theorem desc_cmp (N : Nat) : ∀ (ks ks' : Fo) (v v' : Value) (k n k' n' : Int) (lim : Nat) (W : World), ks.cnt ≤ N → Kids W lim v ks → Kids W lim v' ks' → lim ≤ W.heap.size →
    Calls Try.prog 102 #[.agg #[.int .i64 k, .int .i64 n, v], .agg #[.int .i64 k', .int .i64 n', v']] W fun e w' => e = .returned (.int .i64 (cmpN k n ks k' n' ks')) ∧ Below W.heap.size W w' := by
  induction N using Nat.strongRecOn with
  | _ N ih =>
  intro ks ks' v v' k n k' n' lim W hN hK hK' hl
  obtain ⟨p, m, c, rfl, hc1, hc2, HM⟩ := hK.shape
  obtain ⟨p', m', c', rfl, hc1', hc2', HM'⟩ := hK'.shape
  have CC := Lib.hid (fun x y w => cmp_compare x y w)
  have CO := Lib.hid (fun p c xs w h => cmp_or p 3 c xs w h)
  have CP := Lib.hid (show cmpN k n ks k' n' ks' = if fz [cmp3 k k', cmp3 n n', cmp3 (m : Int) (m' : Int)] = 0 then ks.cmpF ks' else fz [cmp3 k k', cmp3 n n', cmp3 (m : Int) (m' : Int)] by rw [HM.out, HM'.out]; exact cmpN_part k n ks k' n' ks')
  have CZ := Lib.hid (fun (h : fz [cmp3 k k', cmp3 n n', cmp3 (m : Int) (m' : Int)] = 0) => (show m = m' by have := fz3_zero h; omega))
  obtain ⟨w0, hw0, ⟨a0, a1, a2⟩, ⟨b0, b1, b2⟩, hB, hsz⟩ := two3 W k n k' n' (.slice p m c) (.slice p' m' c') 37
  have RF := Lib.hid (show RowI (w0.alloc (.cells #[.int .i64 (cmp3 k k'), .int .i64 (cmp3 n n'), .int .i64 (cmp3 (m : Int) (m' : Int))] 3)).drew (some ⟨W.heap.size + 2, 0, none⟩) 3 [cmp3 k k', cmp3 n n', cmp3 (m : Int) (m' : Int)] by
    have := row3_lies w0 3 _ _ _ (cmp3_wf k k') (cmp3_wf n n') (cmp3_wf (m : Int) (m' : Int))
    rw [hsz] at this; exact this.below ((Below.refl _ _).drew))
  have lt0 : W.heap.size < w0.heap.size := by omega
  have lt1 : W.heap.size + 1 < w0.heap.size := by omega
  have MK := Lib.hid (fun w' (hb : Below w0.heap.size w0 w') => (show w'.cell? ⟨W.heap.size, 0, none⟩ = some (.int .i64 k) ∧ w'.cell? ⟨W.heap.size, 1, none⟩ = some (.int .i64 n) ∧ w'.cell? ⟨W.heap.size, 2, none⟩ = some (.slice p m c) ∧ w'.cell? ⟨W.heap.size + 1, 0, none⟩ = some (.int .i64 k') ∧ w'.cell? ⟨W.heap.size + 1, 1, none⟩ = some (.int .i64 n') ∧ w'.cell? ⟨W.heap.size + 1, 2, none⟩ = some (.slice p' m' c') ∧ Below w0.heap.size w0 w' from
    ⟨(hb.cell (p := ⟨W.heap.size, 0, none⟩) lt0).trans a0, (hb.cell (p := ⟨W.heap.size, 1, none⟩) lt0).trans a1, (hb.cell (p := ⟨W.heap.size, 2, none⟩) lt0).trans a2, (hb.cell (p := ⟨W.heap.size + 1, 0, none⟩) lt1).trans b0, (hb.cell (p := ⟨W.heap.size + 1, 1, none⟩) lt1).trans b1, (hb.cell (p := ⟨W.heap.size + 1, 2, none⟩) lt1).trans b2, hb⟩))
  have hK0 := hK.below hl hB
  have hK0' := hK'.below hl hB
  have IH := Lib.hid (fun i (hi : i < ks.len) (v v' : Value) (w : World) h1 h2 h3 => ih (ks.kids i).cnt (Nat.lt_of_lt_of_le (Fo.cnt_kids ks i hi) hN) (ks.kids i) (ks'.kids i) v v' (ks.k i) (ks.n i) (ks'.k i) (ks'.n i) lim w (Nat.le_refl _) h1 h2 h3)
  have CD := Lib.hid (fun i (hi : i < m) (h : m = m') => (show (ks.drop i).cmpF (ks'.drop i) = if cmpN (ks.k i) (ks.n i) (ks.kids i) (ks'.k i) (ks'.n i) (ks'.kids i) = 0 then (ks.drop (i + 1)).cmpF (ks'.drop (i + 1)) else cmpN (ks.k i) (ks.n i) (ks.kids i) (ks'.k i) (ks'.n i) (ks'.kids i) from cmpF_drop ks ks' i (by rw [← HM.out]; exact hi) (by rw [← HM'.out]; omega)))
  have CE := Lib.hid (fun (h : m = m') => cmpF_end ks ks' m HM.out.symm (HM'.out.symm.trans h.symm))
  have C0 := Lib.hid (show ks.cmpF ks' = (ks.drop 0).cmpF (ks'.drop 0) by rw [Fo.drop_zero, Fo.drop_zero])
  clear ih hN
  generalize cmpN k n ks k' n' ks' = Z at *
  have hlw : lim ≤ w0.heap.size := by omega
  go_enter Try.func102, Try.ntmps102
  go_wp2_with fail
  rw [← hw0]
  clear hw0
  generalize W.heap.size + 1 = Y at *
  generalize hX : W.heap.size = X at *
  go_region_held3 (fun w' => w'.cell? ⟨X, 0, none⟩ = some (.int .i64 k) ∧ w'.cell? ⟨X, 1, none⟩ = some (.int .i64 n) ∧ w'.cell? ⟨X, 2, none⟩ = some (.slice p m c) ∧ w'.cell? ⟨Y, 0, none⟩ = some (.int .i64 k') ∧ w'.cell? ⟨Y, 1, none⟩ = some (.int .i64 n') ∧ w'.cell? ⟨Y, 2, none⟩ = some (.slice p' m' c') ∧ Below w0.heap.size w0 w') (first | exact MK.out _ ((Below.refl _ _).drew) | assumption | exact MK.out _ (((Below.refl _ _).alloc (Nat.le_refl _) _).drew) | exact MK.out _ (((Below.refl _ _).drew).alloc (by simp) _).drew) (first | (go_at_call 34; (with_reducible refine (CC.out _ _ _).mono ?_); rintro e w' ⟨rfl, rfl⟩) | (go_at_call 57; (with_reducible refine (CO.out _ _ _ _ RF.out).mono ?_); rintro e w' ⟨rfl, rfl⟩))
  rename_i hSS
  obtain ⟨f0, f1, f2, f3, f4, f5, hBB⟩ := hSS
  have hs1 := hBB.size
  generalize (w0.alloc (.cells #[.int .i64 (cmp3 k k'), .int .i64 (cmp3 n n'), .int .i64 (cmp3 (m : Int) (m' : Int))] 3)).drew = w1 at *
  generalize fz [cmp3 k k', cmp3 n n', cmp3 (m : Int) (m' : Int)] = F at *
  have hK1 := hK0.below hlw hBB
  have hK1' := hK0'.below hlw hBB
  have hl1 : lim ≤ w1.heap.size := by omega
  have lX : X < w1.heap.size := by omega
  have lY : Y < w1.heap.size := by omega
  have HB1 := Lib.hid (hB.trans (hBB.mono (by have := hB.size; omega)))
  have R0 := Lib.hid (show Z = if F = 0 then (ks.drop 0).cmpF (ks'.drop 0) else F by rw [CP.out, C0.out])
  clear CP C0 CC CO RF MK hK hK' hK0 hK0' a0 a1 a2 b0 b1 b2 f0 f1 f3 f4 hBB hB
  have hB0 := Below.refl w1.heap.size w1
  go_wp2_with fail
  go_loopw [5, 6] (fun x y wr => ∃ (C : Int) (i : Nat), i ≤ m ∧ x = .int .i64 C ∧ y = .int .i64 i ∧ Hid (Z = if C = 0 then (ks.drop i).cmpF (ks'.drop i) else C) ∧ Hid (C = 0 → m = m') ∧ Hid (Below w1.heap.size w1 wr)) (fun _ y _ => m - (intOf y).toNat)
  case atStart => exact ⟨F, 0, Nat.zero_le _, rfl, rfl, R0, CZ, Lib.hid hB0⟩
  case round =>
    clear R0 CZ hB0
    obtain ⟨C, i, hi, rfl, rfl, HZ, HC, HB⟩ := hrel
    have hs := HB.out.size
    have k2 := (HB.out.cell (p := ⟨X, 2, none⟩) lX).trans f2
    have q2 := (HB.out.cell (p := ⟨Y, 2, none⟩) lY).trans f5
    by_cases hC : C = 0
    case neg =>
      have dC : (C == 0) = false := by simp [hC]
      have E := Lib.hid (show C = Z by rw [HZ.out, if_neg hC])
      go_wp2_with fail
      go_ret
      exact ⟨ret_i64 E.out, by have h := HB1.out; rw [← hX] at h; first | exact h.trans (HB.out.mono (by have := h.size; omega)) | (rw [← hX]; exact h.trans (HB.out.mono (by have := h.size; omega)))⟩
    have hm := HC.out hC
    subst hC
    subst hm
    by_cases hlt : i < m
    case neg =>
      obtain rfl : i = m := by omega
      have dd : decide ((i : Int) < (i : Int)) = false := decide_eq_false (by omega)
      have E := Lib.hid (show (0 : Int) = Z by rw [HZ.out, if_pos rfl, CE.out rfl])
      go_wp2_with fail
      go_ret
      exact ⟨ret_i64 E.out, by have h := HB1.out; rw [← hX] at h; first | exact h.trans (HB.out.mono (by have := h.size; omega)) | (rw [← hX]; exact h.trans (HB.out.mono (by have := h.size; omega)))⟩
    obtain ⟨b, o, v, rfl, hb, g0, g1, g2, hki⟩ := (hK1.below hl1 HB.out).get hlt
    obtain ⟨b', o', v', rfl, hb', h0, h1, h2, hki'⟩ := (hK1'.below hl1 HB.out).get hlt
    obtain ⟨px, mx, cx, rfl, _, _, _⟩ := hki.shape
    obtain ⟨py, my, cy, rfl, _, _, _⟩ := hki'.shape
    have dd : decide ((i : Int) < (m : Int)) = true := decide_eq_true (by omega)
    have lb : b < wr.heap.size := by omega
    have lb' : b' < wr.heap.size := by omega
    have lX : X < wr.heap.size := by omega
    have lY : Y < wr.heap.size := by omega
    have hlr : lim ≤ wr.heap.size := by omega
    have CI := Lib.hid (fun w' (hb : Below wr.heap.size wr w') => IH.out i (by rw [← HM.out]; exact hlt) (.slice px mx cx) (.slice py my cy) w' (hki.below hlr hb) (hki'.below hlr hb) (by have := hb.size; omega))
    have DI := Lib.hid (CD.out i hlt rfl)
    have HZ1 := Lib.hid (show Z = (ks.drop i).cmpF (ks'.drop i) by rw [HZ.out, if_pos rfl])
    rw [DI.out] at HZ1
    generalize cmpN (ks.k i) (ks.n i) (ks.kids i) (ks'.k i) (ks'.n i) (ks'.kids i) = D at *
    generalize ks.k i = kx at *
    generalize ks.n i = nx at *
    generalize ks'.k i = ky at *
    generalize ks'.n i = ny at *
    have MK := Lib.hid (fun w' (hb : Below wr.heap.size wr w') => (show w'.cell? ⟨X, 2, none⟩ = some (.slice (some ⟨b, o, none⟩) m c) ∧ w'.cell? ⟨Y, 2, none⟩ = some (.slice (some ⟨b', o', none⟩) m c') ∧ w'.cell? ⟨b, o + i * 3, none⟩ = some (.int .i64 kx) ∧ w'.cell? ⟨b, o + i * 3 + 1, none⟩ = some (.int .i64 nx) ∧ w'.cell? ⟨b, o + i * 3 + 2, none⟩ = some (.slice px mx cx) ∧ w'.cell? ⟨b', o' + i * 3, none⟩ = some (.int .i64 ky) ∧ w'.cell? ⟨b', o' + i * 3 + 1, none⟩ = some (.int .i64 ny) ∧ w'.cell? ⟨b', o' + i * 3 + 2, none⟩ = some (.slice py my cy) ∧ Below wr.heap.size wr w' from
      ⟨(hb.cell (p := ⟨X, 2, none⟩) lX).trans k2, (hb.cell (p := ⟨Y, 2, none⟩) lY).trans q2, (hb.cell (p := ⟨b, o + i * 3, none⟩) lb).trans g0, (hb.cell (p := ⟨b, o + i * 3 + 1, none⟩) lb).trans g1, (hb.cell (p := ⟨b, o + i * 3 + 2, none⟩) lb).trans g2, (hb.cell (p := ⟨b', o' + i * 3, none⟩) lb').trans h0, (hb.cell (p := ⟨b', o' + i * 3 + 1, none⟩) lb').trans h1, (hb.cell (p := ⟨b', o' + i * 3 + 2, none⟩) lb').trans h2, hb⟩))
    have KP := Lib.hid (fun w1 w' (hS : w1.cell? ⟨X, 2, none⟩ = some (.slice (some ⟨b, o, none⟩) m c) ∧ w1.cell? ⟨Y, 2, none⟩ = some (.slice (some ⟨b', o', none⟩) m c') ∧ w1.cell? ⟨b, o + i * 3, none⟩ = some (.int .i64 kx) ∧ w1.cell? ⟨b, o + i * 3 + 1, none⟩ = some (.int .i64 nx) ∧ w1.cell? ⟨b, o + i * 3 + 2, none⟩ = some (.slice px mx cx) ∧ w1.cell? ⟨b', o' + i * 3, none⟩ = some (.int .i64 ky) ∧ w1.cell? ⟨b', o' + i * 3 + 1, none⟩ = some (.int .i64 ny) ∧ w1.cell? ⟨b', o' + i * 3 + 2, none⟩ = some (.slice py my cy) ∧ Below wr.heap.size wr w1) (hb : Below w1.heap.size w1 w') => MK.out w' (hS.2.2.2.2.2.2.2.2.trans (hb.mono hS.2.2.2.2.2.2.2.2.size)))
    clear hki hki' DI HZ
    have dC : ((0 : Int) == 0) = true := rfl
    go_wp2_with fail
    go_region_held3 (fun w' => w'.cell? ⟨X, 2, none⟩ = some (.slice (some ⟨b, o, none⟩) m c) ∧ w'.cell? ⟨Y, 2, none⟩ = some (.slice (some ⟨b', o', none⟩) m c') ∧ w'.cell? ⟨b, o + i * 3, none⟩ = some (.int .i64 kx) ∧ w'.cell? ⟨b, o + i * 3 + 1, none⟩ = some (.int .i64 nx) ∧ w'.cell? ⟨b, o + i * 3 + 2, none⟩ = some (.slice px mx cx) ∧ w'.cell? ⟨b', o' + i * 3, none⟩ = some (.int .i64 ky) ∧ w'.cell? ⟨b', o' + i * 3 + 1, none⟩ = some (.int .i64 ny) ∧ w'.cell? ⟨b', o' + i * 3 + 2, none⟩ = some (.slice py my cy) ∧ Below wr.heap.size wr w') (first | exact MK.out _ ((Below.refl _ _).drew) | assumption | (refine KP.out _ _ ?_ hb; first | assumption | exact MK.out _ ((Below.refl _ _).drew))) (first | (go_at_call 102; (with_reducible refine (CI.out _ (by go_split_ands; assumption)).mono ?_); rintro e w' ⟨rfl, hb⟩))
    rename_i hSS
    obtain ⟨_, _, _, _, _, _, _, _, hBB⟩ := hSS
    go_wp2_with fail
    go_roundw
    case rel => exact ⟨D, i + 1, by omega, rfl, by go_num, HZ1, Lib.hid (fun _ => trivial), Lib.hid (HB.out.trans (hBB.mono hs))⟩
    case measure => (first | (simp [intOf]; done) | (simp [intOf]; omega) | (simp only [intOf]; omega))
end Go.Proofs.Ytofgkhoemgimeaa
