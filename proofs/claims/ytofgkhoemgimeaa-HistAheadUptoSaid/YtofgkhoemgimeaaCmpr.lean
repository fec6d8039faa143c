/- Reference 13's Cmp and Same; package desc's Same. -/
import Derived.Test.YtofgkhoemgimeaaCmpd
namespace Go.Proofs.Ytofgkhoemgimeaa
open Go.ChangeShapes Go.WideShapes Go.ChangeAt Go.RowKit
set_option linter.unusedVariables false
theorem three_at {t : Nat} (ht : t < 3) : t = 0 ∨ t = 1 ∨ t = 2 := by omega
/-- A block of three numbers. -/
theorem row3 (W : World) (a b c : Int) (T : TypeId) : ∃ w0 : World, w0 = W.alloc (.cells #[.int .i64 a, .int .i64 b, .int .i64 c] T) ∧ (∀ t, t < 3 → w0.cell? ⟨W.heap.size, t, none⟩ = some (.int .i64 ([a, b, c].getD t 0))) ∧ Below W.heap.size W w0 ∧ w0.heap.size = W.heap.size + 1 := by
  obtain ⟨w0, h, a0, a1, a2, b1, s1⟩ := box3 W a b (.int .i64 c) T
  refine ⟨w0, h, fun t ht => ?_, b1, s1⟩
  rcases three_at ht with rfl | rfl | rfl
  · exact a0
  · exact a1
  · exact a2
set_option maxRecDepth 100000 in
set_option maxHeartbeats 8000000 in
theorem r13_cmp (N : Nat) : ∀ (ks ks' : Fo) (v v' : Value) (k n k' n' : Int) (lim : Nat) (W : World), ks.cnt ≤ N → Kids W lim v ks → Kids W lim v' ks' → lim ≤ W.heap.size →
    Calls Try.prog 96 #[.agg #[.int .i64 k, .int .i64 n, v], .agg #[.int .i64 k', .int .i64 n', v']] W fun e w' => e = .returned (.int .i64 (cmpN k n ks k' n' ks')) ∧ Below W.heap.size W w' := by
  induction N using Nat.strongRecOn with
  | _ N ih =>
  intro ks ks' v v' k n k' n' lim W hN hK hK' hl
  obtain ⟨p, m, c, rfl, hc1, hc2, HM⟩ := hK.shape
  obtain ⟨p', m', c', rfl, hc1', hc2', HM'⟩ := hK'.shape
  have CP := Lib.hid (show cmpN k n ks k' n' ks' = if fz [cmp3 k k', cmp3 n n', cmp3 (m : Int) (m' : Int)] = 0 then ks.cmpF ks' else fz [cmp3 k k', cmp3 n n', cmp3 (m : Int) (m' : Int)] by rw [HM.out, HM'.out]; exact cmpN_part k n ks k' n' ks')
  have CZ := Lib.hid (fun (h : fz [cmp3 k k', cmp3 n n', cmp3 (m : Int) (m' : Int)] = 0) => (show m = m' by have := fz3_zero h; omega))
  obtain ⟨w0, hw0, ⟨a0, a1, a2⟩, ⟨b0, b1, b2⟩, hB, hsz⟩ := two3 W k n k' n' (.slice p m c) (.slice p' m' c') 37
  obtain ⟨w1, hw1, hxs, hB1, hs1⟩ := row3 w0 k n (m : Int) 3
  obtain ⟨w2, hw2, hys, hB2, hs2⟩ := row3 w1 k' n' (m' : Int) 3
  have lx1 : w0.heap.size < w1.heap.size := by omega
  have ZA := Lib.hid (fz_at [cmp3 k k', cmp3 n n', cmp3 (m : Int) (m' : Int)])
  have ZN := Lib.hid (fz_none [cmp3 k k', cmp3 n n', cmp3 (m : Int) (m' : Int)])
  have ZG := Lib.hid (fun t (ht : t < 3) => (show [cmp3 k k', cmp3 n n', cmp3 (m : Int) (m' : Int)].getD t 0 = cmp3 ([k, n, (m : Int)].getD t 0) ([k', n', (m' : Int)].getD t 0) by
    rcases three_at ht with rfl | rfl | rfl <;> rfl))
  have ZL := Lib.hid (show [cmp3 k k', cmp3 n n', cmp3 (m : Int) (m' : Int)].length = 3 from rfl)
  have HX := Lib.hid (fun t (ht : t < 3) => (hB2.cell (p := ⟨w0.heap.size, t, none⟩) lx1).trans (hxs t ht))
  have HY := Lib.hid hys
  have h02 := hB1.trans (hB2.mono hB1.size)
  have hW := hB.trans (h02.mono hB.size)
  have lt0 : W.heap.size < w0.heap.size := by omega
  have lt1 : W.heap.size + 1 < w0.heap.size := by omega
  have f2 := (h02.cell (p := ⟨W.heap.size, 2, none⟩) lt0).trans a2
  have f5 := (h02.cell (p := ⟨W.heap.size + 1, 2, none⟩) lt1).trans b2
  have hK1 := hK.below hl hW
  have hK1' := hK'.below hl hW
  have IH := Lib.hid (fun i (hi : i < ks.len) (v v' : Value) (w : World) h1 h2 h3 => ih (ks.kids i).cnt (Nat.lt_of_lt_of_le (Fo.cnt_kids ks i hi) hN) (ks.kids i) (ks'.kids i) v v' (ks.k i) (ks.n i) (ks'.k i) (ks'.n i) lim w (Nat.le_refl _) h1 h2 h3)
  have CD := Lib.hid (fun i (hi : i < m) (h : m = m') => (show (ks.drop i).cmpF (ks'.drop i) = if cmpN (ks.k i) (ks.n i) (ks.kids i) (ks'.k i) (ks'.n i) (ks'.kids i) = 0 then (ks.drop (i + 1)).cmpF (ks'.drop (i + 1)) else cmpN (ks.k i) (ks.n i) (ks.kids i) (ks'.k i) (ks'.n i) (ks'.kids i) from cmpF_drop ks ks' i (by rw [← HM.out]; exact hi) (by rw [← HM'.out]; omega)))
  have CE := Lib.hid (fun (h : m = m') => cmpF_end ks ks' m HM.out.symm (HM'.out.symm.trans h.symm))
  have C0 := Lib.hid (show ks.cmpF ks' = (ks.drop 0).cmpF (ks'.drop 0) by rw [Fo.drop_zero, Fo.drop_zero])
  have hl1 : lim ≤ w2.heap.size := by omega
  rw [hw1] at hw2
  rw [hw0] at hw2
  have hzs : W.heap.size + 2 = w0.heap.size := hsz.symm
  have hws : w1.heap.size = w0.heap.size + 1 := hs1
  rw [hws] at HY
  rw [hsz] at HX HY
  clear ih hN hw0 hw1 hxs hys hB h02 hK hK' hB1 hB2 a0 a1 a2 b0 b1 b2 hws lx1
  generalize cmpN k n ks k' n' ks' = Z at *
  generalize [cmp3 k k', cmp3 n n', cmp3 (m : Int) (m' : Int)] = zs at *
  have w3 : w2.heap.size = W.heap.size + 4 := by omega
  clear hs1 hs2 hsz hzs lt0 lt1
  generalize hxs : [k, n, (m : Int)] = xs at HX ZG
  generalize hys : [k', n', (m' : Int)] = ys at HY ZG
  clear hxs hys
  have EX : Hid (∀ t, t < 3 → w2.cell? ⟨W.heap.size + 1 + 1, t, none⟩ = some (.int .i64 (xs.getD t 0))) := HX
  have EY : Hid (∀ t, t < 3 → w2.cell? ⟨W.heap.size + 1 + 1 + 1, t, none⟩ = some (.int .i64 (ys.getD t 0))) := HY
  clear HX HY
  go_enter Try.func96, Try.ntmps96
  go_wp2_with fail
  rw [← hw2]
  clear hw2
  go_loopw [7] (fun x wr => ∃ j : Nat, j ≤ 3 ∧ x = .int .i64 j ∧ Hid (∀ t, t < j → zs.getD t 0 = 0) ∧ Hid (Below w2.heap.size w2 wr)) (fun x _ => 3 - (intOf x).toNat)
  case atStart => exact ⟨0, by omega, rfl, Lib.hid (fun t ht => by omega), Lib.hid (Below.refl _ _)⟩
  case round =>
    obtain ⟨j, hj, rfl, HZ, HB⟩ := hrel
    by_cases hlt : j < 3
    · have hd : decide ((j : Int) < 3) = true := decide_eq_true (by omega)
      have G := ZG.out j hlt
      have hcx := (HB.out.cell (p := ⟨W.heap.size + 1 + 1, j, none⟩) (by show W.heap.size + 1 + 1 < _; omega)).trans (EX.out j hlt)
      have hcy := (HB.out.cell (p := ⟨W.heap.size + 1 + 1 + 1, j, none⟩) (by show W.heap.size + 1 + 1 + 1 < _; omega)).trans (EY.out j hlt)
      have ZA1 := Lib.hid (ZA.out j (by rw [ZL.out]; exact hlt) HZ.out)
      have ZS := Lib.hid (fun (h : zs.getD j 0 = 0) t (ht : t < j + 1) => (show zs.getD t 0 = 0 by
        by_cases e : t = j
        · rw [e]; exact h
        · exact HZ.out t (by omega)))
      have ZZ := Lib.hid (fun (h : fz zs ≠ 0) => (show Z = fz zs by rw [CP.out, if_neg h]))
      generalize zs.getD j 0 = cz at *
      generalize xs.getD j 0 = x at *
      generalize ys.getD j 0 = y at *
      clear HZ CP CZ CD CE C0 ZN hK1 hK1' IH
      rcases Int.lt_trichotomy x y with h | h | h
      · rw [cmp3_lt h] at G
        have d1 : decide (x < y) = true := decide_eq_true h
        have E1 := Lib.hid (show Z = -1 by have h1 := ZA1.out (by omega); rw [ZZ.out (by omega), h1, G])
        go_wp2_with fail
        go_quiet (fail)
        go_wp2_with fail
        go_ret
        exact ⟨by rw [E1.out]; rfl, by first | exact hW.trans (Below.mono (below_drewN HB.out _) hW.size) | exact hW.trans (Below.mono (below_drewN (below_drewN HB.out _) _) hW.size)⟩
      · rw [cmp3_eq h] at G
        subst h
        have d1 : decide (x < x) = false := decide_eq_false (by omega)
        have ZS1 := Lib.hid (ZS.out G)
        go_wp2_with fail
        go_quiet (fail)
        go_wp2_with fail
        go_quiet (fail)
        go_wp2_with fail
        go_roundw
        case rel => exact ⟨j + 1, by omega, by go_num, ZS1, Lib.hid (below_drewN HB.out _)⟩
        case measure => (first | (simp [intOf]; done) | (simp [intOf]; omega) | (simp only [intOf]; omega))
      · rw [cmp3_gt h] at G
        have d1 : decide (x < y) = false := decide_eq_false (by omega)
        have d2 : decide (y < x) = true := decide_eq_true h
        have E1 := Lib.hid (show Z = 1 by have h1 := ZA1.out (by omega); rw [ZZ.out (by omega), h1, G])
        go_wp2_with fail
        go_quiet (fail)
        go_wp2_with fail
        go_quiet (fail)
        go_wp2_with fail
        go_ret
        exact ⟨by rw [E1.out]; rfl, by first | exact hW.trans (Below.mono (below_drewN HB.out _) hW.size) | exact hW.trans (Below.mono (below_drewN (below_drewN HB.out _) _) hW.size)⟩
    · obtain rfl : j = 3 := by omega
      have E1 := ZN.out (fun t ht => HZ.out t (by rw [ZL.out] at ht; exact ht))
      have hm := CZ.out E1
      subst hm
      have R0 := Lib.hid (show Z = (ks.drop 0).cmpF (ks'.drop 0) by rw [CP.out, if_pos E1, C0.out])
      have hs := HB.out.size
      have f2 := (HB.out.cell (p := ⟨W.heap.size, 2, none⟩) (by show W.heap.size < _; omega)).trans f2
      have f5 := (HB.out.cell (p := ⟨W.heap.size + 1, 2, none⟩) (by show W.heap.size + 1 < _; omega)).trans f5
      have hK1 := hK1.below hl1 HB.out
      have hK1' := hK1'.below hl1 HB.out
      have hW := hW.trans (HB.out.mono hW.size)
      have hl1 : lim ≤ wr.heap.size := by omega
      have lX : W.heap.size < wr.heap.size := by omega
      have lY : W.heap.size + 1 < wr.heap.size := by omega
      clear CP CZ C0 ZA ZN ZG ZL EX EY HZ HB E1
      generalize W.heap.size + 1 = Y at *
      generalize hX : W.heap.size = X at *
      have HW := Lib.hid hW
      clear hW
      generalize wr = wo at *
      have hB0 := Below.refl wo.heap.size wo
      go_wp2_with fail
      go_loopw [8] (fun x wq => ∃ i : Nat, i ≤ m ∧ x = .int .i64 i ∧ Hid (Z = (ks.drop i).cmpF (ks'.drop i)) ∧ Hid (Below wo.heap.size wo wq)) (fun x _ => m - (intOf x).toNat)
      case atStart => exact ⟨0, Nat.zero_le _, rfl, R0, Lib.hid hB0⟩
      case round =>
        clear R0 hB0
        obtain ⟨i, hi, rfl, HZ, HB⟩ := hrel
        have hs := HB.out.size
        have k2 := (HB.out.cell (p := ⟨X, 2, none⟩) lX).trans f2
        have q2 := (HB.out.cell (p := ⟨Y, 2, none⟩) lY).trans f5
        by_cases hlt : i < m
        case neg =>
          obtain rfl : i = m := by omega
          have dd : decide ((i : Int) < (i : Int)) = false := decide_eq_false (by omega)
          have E := Lib.hid (show (0 : Int) = Z by rw [HZ.out, CE.out trivial])
          go_wp2_with fail
          go_ret
          exact ⟨ret_i64 E.out, by have h := HW.out; rw [← hX] at h; first | exact h.trans (HB.out.mono (by have := h.size; omega)) | (rw [← hX]; exact h.trans (HB.out.mono (by have := h.size; omega)))⟩
        obtain ⟨b, o, v, rfl, hb, g0, g1, g2, hki⟩ := (hK1.below hl1 HB.out).get hlt
        obtain ⟨b', o', v', rfl, hb', h0, h1, h2, hki'⟩ := (hK1'.below hl1 HB.out).get hlt
        obtain ⟨px, mx, cx, rfl, _, _, _⟩ := hki.shape
        obtain ⟨py, my, cy, rfl, _, _, _⟩ := hki'.shape
        have dd : decide ((i : Int) < (m : Int)) = true := decide_eq_true (by omega)
        have lb : b < wr.heap.size := by omega
        have lb' : b' < wr.heap.size := by omega
        have lX : X < wr.heap.size := by omega
        have lY : Y < wr.heap.size := by omega
        have hlr : lim ≤ wr.heap.size := by omega
        have CI := Lib.hid (fun w' (hb : Below wr.heap.size wr w') => IH.out i (by rw [← HM.out]; exact hlt) (.slice px mx cx) (.slice py my cy) w' (hki.below hlr hb) (hki'.below hlr hb) (by have := hb.size; omega))
        have DI := Lib.hid (CD.out i hlt trivial)
        have HZ1 := Lib.hid HZ.out
        rw [DI.out] at HZ1
        generalize cmpN (ks.k i) (ks.n i) (ks.kids i) (ks'.k i) (ks'.n i) (ks'.kids i) = D at *
        generalize ks.k i = kx at *
        generalize ks.n i = nx at *
        generalize ks'.k i = ky at *
        generalize ks'.n i = ny at *
        have MK := Lib.hid (fun w' (hb : Below wr.heap.size wr w') => (show w'.cell? ⟨X, 2, none⟩ = some (.slice (some ⟨b, o, none⟩) m c) ∧ w'.cell? ⟨Y, 2, none⟩ = some (.slice (some ⟨b', o', none⟩) m c') ∧ w'.cell? ⟨b, o + i * 3, none⟩ = some (.int .i64 kx) ∧ w'.cell? ⟨b, o + i * 3 + 1, none⟩ = some (.int .i64 nx) ∧ w'.cell? ⟨b, o + i * 3 + 2, none⟩ = some (.slice px mx cx) ∧ w'.cell? ⟨b', o' + i * 3, none⟩ = some (.int .i64 ky) ∧ w'.cell? ⟨b', o' + i * 3 + 1, none⟩ = some (.int .i64 ny) ∧ w'.cell? ⟨b', o' + i * 3 + 2, none⟩ = some (.slice py my cy) ∧ Below wr.heap.size wr w' from
          ⟨(hb.cell (p := ⟨X, 2, none⟩) lX).trans k2, (hb.cell (p := ⟨Y, 2, none⟩) lY).trans q2, (hb.cell (p := ⟨b, o + i * 3, none⟩) lb).trans g0, (hb.cell (p := ⟨b, o + i * 3 + 1, none⟩) lb).trans g1, (hb.cell (p := ⟨b, o + i * 3 + 2, none⟩) lb).trans g2, (hb.cell (p := ⟨b', o' + i * 3, none⟩) lb').trans h0, (hb.cell (p := ⟨b', o' + i * 3 + 1, none⟩) lb').trans h1, (hb.cell (p := ⟨b', o' + i * 3 + 2, none⟩) lb').trans h2, hb⟩))
        have KP := Lib.hid (fun w1 w' (hS : w1.cell? ⟨X, 2, none⟩ = some (.slice (some ⟨b, o, none⟩) m c) ∧ w1.cell? ⟨Y, 2, none⟩ = some (.slice (some ⟨b', o', none⟩) m c') ∧ w1.cell? ⟨b, o + i * 3, none⟩ = some (.int .i64 kx) ∧ w1.cell? ⟨b, o + i * 3 + 1, none⟩ = some (.int .i64 nx) ∧ w1.cell? ⟨b, o + i * 3 + 2, none⟩ = some (.slice px mx cx) ∧ w1.cell? ⟨b', o' + i * 3, none⟩ = some (.int .i64 ky) ∧ w1.cell? ⟨b', o' + i * 3 + 1, none⟩ = some (.int .i64 ny) ∧ w1.cell? ⟨b', o' + i * 3 + 2, none⟩ = some (.slice py my cy) ∧ Below wr.heap.size wr w1) (hb : Below w1.heap.size w1 w') => MK.out w' (hS.2.2.2.2.2.2.2.2.trans (hb.mono hS.2.2.2.2.2.2.2.2.size)))
        clear hki hki' DI HZ
        by_cases hD : D = 0
        · have dD : (D != 0) = false := by simp [hD]
          have E := Lib.hid (show Z = (ks.drop (i + 1)).cmpF (ks'.drop (i + 1)) by rw [HZ1.out, if_pos hD])
          go_wp2_with fail
          go_region_held3 (fun w' => w'.cell? ⟨X, 2, none⟩ = some (.slice (some ⟨b, o, none⟩) m c) ∧ w'.cell? ⟨Y, 2, none⟩ = some (.slice (some ⟨b', o', none⟩) m c') ∧ w'.cell? ⟨b, o + i * 3, none⟩ = some (.int .i64 kx) ∧ w'.cell? ⟨b, o + i * 3 + 1, none⟩ = some (.int .i64 nx) ∧ w'.cell? ⟨b, o + i * 3 + 2, none⟩ = some (.slice px mx cx) ∧ w'.cell? ⟨b', o' + i * 3, none⟩ = some (.int .i64 ky) ∧ w'.cell? ⟨b', o' + i * 3 + 1, none⟩ = some (.int .i64 ny) ∧ w'.cell? ⟨b', o' + i * 3 + 2, none⟩ = some (.slice py my cy) ∧ Below wr.heap.size wr w') (first | exact MK.out _ ((Below.refl _ _).drew) | assumption | (refine KP.out _ _ ?_ hb; first | assumption | exact MK.out _ ((Below.refl _ _).drew))) (first | (go_at_call 96; (with_reducible refine (CI.out _ (by go_split_ands; assumption)).mono ?_); rintro e w' ⟨rfl, hb⟩))
          rename_i hSS
          obtain ⟨_, _, _, _, _, _, _, _, hBB⟩ := hSS
          go_wp2_with fail
          go_roundw
          case rel => exact ⟨i + 1, by omega, by go_num, E, Lib.hid (HB.out.trans (hBB.mono hs))⟩
          case measure => (first | (simp [intOf]; done) | (simp [intOf]; omega) | (simp only [intOf]; omega))
        · have dD : (D != 0) = true := by simp [hD]
          have E := Lib.hid (show D = Z by rw [HZ1.out, if_neg hD])
          go_wp2_with fail
          go_region_held3 (fun w' => w'.cell? ⟨X, 2, none⟩ = some (.slice (some ⟨b, o, none⟩) m c) ∧ w'.cell? ⟨Y, 2, none⟩ = some (.slice (some ⟨b', o', none⟩) m c') ∧ w'.cell? ⟨b, o + i * 3, none⟩ = some (.int .i64 kx) ∧ w'.cell? ⟨b, o + i * 3 + 1, none⟩ = some (.int .i64 nx) ∧ w'.cell? ⟨b, o + i * 3 + 2, none⟩ = some (.slice px mx cx) ∧ w'.cell? ⟨b', o' + i * 3, none⟩ = some (.int .i64 ky) ∧ w'.cell? ⟨b', o' + i * 3 + 1, none⟩ = some (.int .i64 ny) ∧ w'.cell? ⟨b', o' + i * 3 + 2, none⟩ = some (.slice py my cy) ∧ Below wr.heap.size wr w') (first | exact MK.out _ ((Below.refl _ _).drew) | assumption | (refine KP.out _ _ ?_ hb; first | assumption | exact MK.out _ ((Below.refl _ _).drew))) (first | (go_at_call 96; (with_reducible refine (CI.out _ (by go_split_ands; assumption)).mono ?_); rintro e w' ⟨rfl, hb⟩))
          rename_i hSS
          obtain ⟨_, _, _, _, _, _, _, _, hBB⟩ := hSS
          go_wp2_with fail
          go_ret
          exact ⟨ret_i64 E.out, by have h := HW.out; rw [← hX] at h; have g := h.trans ((HB.out.trans (hBB.mono hs)).mono (by have := h.size; omega)); first | exact g | (rw [← hX]; exact g)⟩
/-- Are two trees one? -/
theorem r13_same (ks ks' : Fo) (v v' : Value) (k n k' n' : Int) (lim : Nat) (W : World) (hK : Kids W lim v ks) (hK' : Kids W lim v' ks') (hl : lim ≤ W.heap.size) :
    Calls Try.prog 66 #[.agg #[.int .i64 k, .int .i64 n, v], .agg #[.int .i64 k', .int .i64 n', v']] W fun e w' => e = .returned (.bool (decide (cmpN k n ks k' n' ks' = 0))) ∧ Below W.heap.size W w' := by
  have CI := Lib.hid (fun w' h h' g => r13_cmp ks.cnt ks ks' v v' k n k' n' lim w' (Nat.le_refl _) h h' g)
  obtain ⟨p, m, c, rfl, hc1, hc2, HM⟩ := hK.shape
  obtain ⟨p', m', c', rfl, hc1', hc2', HM'⟩ := hK'.shape
  obtain ⟨w0, hw0, ⟨a0, a1, a2⟩, ⟨b0, b1, b2⟩, hB, hsz⟩ := two3 W k n k' n' (.slice p m c) (.slice p' m' c') 37
  have hK0 := hK.below hl hB
  have hK0' := hK'.below hl hB
  have dz : (cmpN k n ks k' n' ks' == 0) = decide (cmpN k n ks k' n' ks' = 0) := rfl
  generalize decide (cmpN k n ks k' n' ks' = 0) = z at *
  generalize cmpN k n ks k' n' ks' = D at *
  go_enter Try.func66, Try.ntmps66
  go_wp2_with fail
  rw [← hw0]
  clear hw0
  refine (CI.out _ hK0 hK0' (by omega)).mono ?_
  rintro e w1 ⟨rfl, b1⟩
  go_wp2_with fail
  go_ret
  exact ⟨rfl, hB.trans (b1.mono hB.size)⟩
theorem desc_same (ks ks' : Fo) (v v' : Value) (k n k' n' : Int) (lim : Nat) (W : World) (hK : Kids W lim v ks) (hK' : Kids W lim v' ks') (hl : lim ≤ W.heap.size) :
    Calls Try.prog 73 #[.agg #[.int .i64 k, .int .i64 n, v], .agg #[.int .i64 k', .int .i64 n', v']] W fun e w' => e = .returned (.bool (decide (cmpN k n ks k' n' ks' = 0))) ∧ Below W.heap.size W w' := by
  have CI := Lib.hid (fun w' h h' g => desc_cmp ks.cnt ks ks' v v' k n k' n' lim w' (Nat.le_refl _) h h' g)
  obtain ⟨p, m, c, rfl, hc1, hc2, HM⟩ := hK.shape
  obtain ⟨p', m', c', rfl, hc1', hc2', HM'⟩ := hK'.shape
  obtain ⟨w0, hw0, ⟨a0, a1, a2⟩, ⟨b0, b1, b2⟩, hB, hsz⟩ := two3 W k n k' n' (.slice p m c) (.slice p' m' c') 37
  have hK0 := hK.below hl hB
  have hK0' := hK'.below hl hB
  have dz : (cmpN k n ks k' n' ks' == 0) = decide (cmpN k n ks k' n' ks' = 0) := rfl
  generalize decide (cmpN k n ks k' n' ks' = 0) = z at *
  generalize cmpN k n ks k' n' ks' = D at *
  go_enter Try.func73, Try.ntmps73
  go_wp2_with fail
  rw [← hw0]
  clear hw0
  refine (CI.out _ hK0 hK0' (by omega)).mono ?_
  rintro e w1 ⟨rfl, b1⟩
  go_wp2_with fail
  go_ret
  exact ⟨rfl, hB.trans (b1.mono hB.size)⟩
end Go.Proofs.Ytofgkhoemgimeaa
