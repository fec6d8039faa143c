/- Put together by program (merge2.py): Cmpr Live23 Enta Entp Live24 Srt Srw. -/
import Derived.Lib.LaidTab
import Derived.Stop.LaidErr
import Derived.Test.YtmbcfijhlpeddaaDoorD11
import Derived.Test.YtmbcfijhlpeddaaDoorG2
import Derived.Test.YtmbcfijhlpeddaaDoorG4
import Derived.Test.YtmbcfijhlpeddaaDoorG6
/- Reference 13's Cmp and Same; package desc's Same. -/
namespace Go.Proofs.YtmbcfijhlpeddaaDoor
open Go.ChangeShapes Go.WideShapes Go.ChangeAt Go.RowKit
set_option linter.unusedVariables false
theorem three_at {t : Nat} (ht : t < 3) : t = 0 ∨ t = 1 ∨ t = 2 := by omega
/-- A block of three numbers. -/
theorem row3 (W : World) (a b c : Int) (T : TypeId) : ∃ w0 : World, w0 = W.alloc (.cells #[.int .i64 a, .int .i64 b, .int .i64 c] T) ∧ (∀ t, t < 3 → w0.cell? ⟨W.heap.size, t, none⟩ = some (.int .i64 ([a, b, c].getD t 0))) ∧ Below W.heap.size W w0 ∧ w0.heap.size = W.heap.size + 1 := by
  obtain ⟨w0, h, a0, a1, a2, b1, s1⟩ := box3 W a b (.int .i64 c) T
  refine ⟨w0, h, fun t ht => ?_, b1, s1⟩
  rcases three_at ht with rfl | rfl | rfl
  · exact a0
  · exact a1
  · exact a2
set_option maxRecDepth 100000 in
set_option maxHeartbeats 8000000 in
theorem r13_cmp (N : Nat) : ∀ (ks ks' : Fo) (v v' : Value) (k n k' n' : Int) (lim : Nat) (W : World), ks.cnt ≤ N → Kids W lim v ks → Kids W lim v' ks' → lim ≤ W.heap.size →
    Calls Tryd.prog 35 #[.agg #[.int .i64 k, .int .i64 n, v], .agg #[.int .i64 k', .int .i64 n', v']] W fun e w' => e = .returned (.int .i64 (cmpN k n ks k' n' ks')) ∧ Below W.heap.size W w' := by
  induction N using Nat.strongRecOn with
  | _ N ih =>
  intro ks ks' v v' k n k' n' lim W hN hK hK' hl
  obtain ⟨p, m, c, rfl, hc1, hc2, HM⟩ := hK.shape
  obtain ⟨p', m', c', rfl, hc1', hc2', HM'⟩ := hK'.shape
  have CP := Lib.hid (show cmpN k n ks k' n' ks' = if fz [cmp3 k k', cmp3 n n', cmp3 (m : Int) (m' : Int)] = 0 then ks.cmpF ks' else fz [cmp3 k k', cmp3 n n', cmp3 (m : Int) (m' : Int)] by rw [HM.out, HM'.out]; exact cmpN_part k n ks k' n' ks')
  have CZ := Lib.hid (fun (h : fz [cmp3 k k', cmp3 n n', cmp3 (m : Int) (m' : Int)] = 0) => (show m = m' by have := fz3_zero h; omega))
  obtain ⟨w0, hw0, ⟨a0, a1, a2⟩, ⟨b0, b1, b2⟩, hB, hsz⟩ := two3 W k n k' n' (.slice p m c) (.slice p' m' c') 35
  obtain ⟨w1, hw1, hxs, hB1, hs1⟩ := row3 w0 k n (m : Int) 3
  obtain ⟨w2, hw2, hys, hB2, hs2⟩ := row3 w1 k' n' (m' : Int) 3
  have lx1 : w0.heap.size < w1.heap.size := by omega
  have ZA := Lib.hid (fz_at [cmp3 k k', cmp3 n n', cmp3 (m : Int) (m' : Int)])
  have ZN := Lib.hid (fz_none [cmp3 k k', cmp3 n n', cmp3 (m : Int) (m' : Int)])
  have ZG := Lib.hid (fun t (ht : t < 3) => (show [cmp3 k k', cmp3 n n', cmp3 (m : Int) (m' : Int)].getD t 0 = cmp3 ([k, n, (m : Int)].getD t 0) ([k', n', (m' : Int)].getD t 0) by
    rcases three_at ht with rfl | rfl | rfl <;> rfl))
  have ZL := Lib.hid (show [cmp3 k k', cmp3 n n', cmp3 (m : Int) (m' : Int)].length = 3 from rfl)
  have HX := Lib.hid (fun t (ht : t < 3) => (hB2.cell (p := ⟨w0.heap.size, t, none⟩) lx1).trans (hxs t ht))
  have HY := Lib.hid hys
  have h02 := hB1.trans (hB2.mono hB1.size)
  have hW := hB.trans (h02.mono hB.size)
  have lt0 : W.heap.size < w0.heap.size := by omega
  have lt1 : W.heap.size + 1 < w0.heap.size := by omega
  have f2 := (h02.cell (p := ⟨W.heap.size, 2, none⟩) lt0).trans a2
  have f5 := (h02.cell (p := ⟨W.heap.size + 1, 2, none⟩) lt1).trans b2
  have hK1 := hK.below hl hW
  have hK1' := hK'.below hl hW
  have IH := Lib.hid (fun i (hi : i < ks.len) (v v' : Value) (w : World) h1 h2 h3 => ih (ks.kids i).cnt (Nat.lt_of_lt_of_le (Fo.cnt_kids ks i hi) hN) (ks.kids i) (ks'.kids i) v v' (ks.k i) (ks.n i) (ks'.k i) (ks'.n i) lim w (Nat.le_refl _) h1 h2 h3)
  have CD := Lib.hid (fun i (hi : i < m) (h : m = m') => (show (ks.drop i).cmpF (ks'.drop i) = if cmpN (ks.k i) (ks.n i) (ks.kids i) (ks'.k i) (ks'.n i) (ks'.kids i) = 0 then (ks.drop (i + 1)).cmpF (ks'.drop (i + 1)) else cmpN (ks.k i) (ks.n i) (ks.kids i) (ks'.k i) (ks'.n i) (ks'.kids i) from cmpF_drop ks ks' i (by rw [← HM.out]; exact hi) (by rw [← HM'.out]; omega)))
  have CE := Lib.hid (fun (h : m = m') => cmpF_end ks ks' m HM.out.symm (HM'.out.symm.trans h.symm))
  have C0 := Lib.hid (show ks.cmpF ks' = (ks.drop 0).cmpF (ks'.drop 0) by rw [Fo.drop_zero, Fo.drop_zero])
  have hl1 : lim ≤ w2.heap.size := by omega
  rw [hw1] at hw2
  rw [hw0] at hw2
  have hzs : W.heap.size + 2 = w0.heap.size := hsz.symm
  have hws : w1.heap.size = w0.heap.size + 1 := hs1
  rw [hws] at HY
  rw [hsz] at HX HY
  clear ih hN hw0 hw1 hxs hys hB h02 hK hK' hB1 hB2 a0 a1 a2 b0 b1 b2 hws lx1
  generalize cmpN k n ks k' n' ks' = Z at *
  generalize [cmp3 k k', cmp3 n n', cmp3 (m : Int) (m' : Int)] = zs at *
  have w3 : w2.heap.size = W.heap.size + 4 := by omega
  clear hs1 hs2 hsz hzs lt0 lt1
  generalize hxs : [k, n, (m : Int)] = xs at HX ZG
  generalize hys : [k', n', (m' : Int)] = ys at HY ZG
  clear hxs hys
  have EX : Hid (∀ t, t < 3 → w2.cell? ⟨W.heap.size + 1 + 1, t, none⟩ = some (.int .i64 (xs.getD t 0))) := HX
  have EY : Hid (∀ t, t < 3 → w2.cell? ⟨W.heap.size + 1 + 1 + 1, t, none⟩ = some (.int .i64 (ys.getD t 0))) := HY
  clear HX HY
  go_enter Tryd.func35, Tryd.ntmps35
  go_wp2_with fail
  rw [← hw2]
  clear hw2
  go_loopw [7] (fun x wr => ∃ j : Nat, j ≤ 3 ∧ x = .int .i64 j ∧ Hid (∀ t, t < j → zs.getD t 0 = 0) ∧ Hid (Below w2.heap.size w2 wr)) (fun x _ => 3 - (intOf x).toNat)
  case atStart => exact ⟨0, by omega, rfl, Lib.hid (fun t ht => by omega), Lib.hid (Below.refl _ _)⟩
  case round =>
    obtain ⟨j, hj, rfl, HZ, HB⟩ := hrel
    by_cases hlt : j < 3
    · have hd : decide ((j : Int) < 3) = true := decide_eq_true (by omega)
      have G := ZG.out j hlt
      have hcx := (HB.out.cell (p := ⟨W.heap.size + 1 + 1, j, none⟩) (by show W.heap.size + 1 + 1 < _; omega)).trans (EX.out j hlt)
      have hcy := (HB.out.cell (p := ⟨W.heap.size + 1 + 1 + 1, j, none⟩) (by show W.heap.size + 1 + 1 + 1 < _; omega)).trans (EY.out j hlt)
      have ZA1 := Lib.hid (ZA.out j (by rw [ZL.out]; exact hlt) HZ.out)
      have ZS := Lib.hid (fun (h : zs.getD j 0 = 0) t (ht : t < j + 1) => (show zs.getD t 0 = 0 by
        by_cases e : t = j
        · rw [e]; exact h
        · exact HZ.out t (by omega)))
      have ZZ := Lib.hid (fun (h : fz zs ≠ 0) => (show Z = fz zs by rw [CP.out, if_neg h]))
      generalize zs.getD j 0 = cz at *
      generalize xs.getD j 0 = x at *
      generalize ys.getD j 0 = y at *
      clear HZ CP CZ CD CE C0 ZN hK1 hK1' IH
      rcases Int.lt_trichotomy x y with h | h | h
      · rw [cmp3_lt h] at G
        have d1 : decide (x < y) = true := decide_eq_true h
        have E1 := Lib.hid (show Z = -1 by have h1 := ZA1.out (by omega); rw [ZZ.out (by omega), h1, G])
        go_wp2_with fail
        go_quiet (fail)
        go_wp2_with fail
        go_ret
        exact ⟨by rw [E1.out]; rfl, by first | exact hW.trans (Below.mono (below_drewN HB.out _) hW.size) | exact hW.trans (Below.mono (below_drewN (below_drewN HB.out _) _) hW.size)⟩
      · rw [cmp3_eq h] at G
        subst h
        have d1 : decide (x < x) = false := decide_eq_false (by omega)
        have ZS1 := Lib.hid (ZS.out G)
        go_wp2_with fail
        go_quiet (fail)
        go_wp2_with fail
        go_quiet (fail)
        go_wp2_with fail
        go_roundw
        case rel => exact ⟨j + 1, by omega, by go_num, ZS1, Lib.hid (below_drewN HB.out _)⟩
        case measure => (first | (simp [intOf]; done) | (simp [intOf]; omega) | (simp only [intOf]; omega))
      · rw [cmp3_gt h] at G
        have d1 : decide (x < y) = false := decide_eq_false (by omega)
        have d2 : decide (y < x) = true := decide_eq_true h
        have E1 := Lib.hid (show Z = 1 by have h1 := ZA1.out (by omega); rw [ZZ.out (by omega), h1, G])
        go_wp2_with fail
        go_quiet (fail)
        go_wp2_with fail
        go_quiet (fail)
        go_wp2_with fail
        go_ret
        exact ⟨by rw [E1.out]; rfl, by first | exact hW.trans (Below.mono (below_drewN HB.out _) hW.size) | exact hW.trans (Below.mono (below_drewN (below_drewN HB.out _) _) hW.size)⟩
    · obtain rfl : j = 3 := by omega
      have E1 := ZN.out (fun t ht => HZ.out t (by rw [ZL.out] at ht; exact ht))
      have hm := CZ.out E1
      subst hm
      have R0 := Lib.hid (show Z = (ks.drop 0).cmpF (ks'.drop 0) by rw [CP.out, if_pos E1, C0.out])
      have hs := HB.out.size
      have f2 := (HB.out.cell (p := ⟨W.heap.size, 2, none⟩) (by show W.heap.size < _; omega)).trans f2
      have f5 := (HB.out.cell (p := ⟨W.heap.size + 1, 2, none⟩) (by show W.heap.size + 1 < _; omega)).trans f5
      have hK1 := hK1.below hl1 HB.out
      have hK1' := hK1'.below hl1 HB.out
      have hW := hW.trans (HB.out.mono hW.size)
      have hl1 : lim ≤ wr.heap.size := by omega
      have lX : W.heap.size < wr.heap.size := by omega
      have lY : W.heap.size + 1 < wr.heap.size := by omega
      clear CP CZ C0 ZA ZN ZG ZL EX EY HZ HB E1
      generalize W.heap.size + 1 = Y at *
      generalize hX : W.heap.size = X at *
      have HW := Lib.hid hW
      clear hW
      generalize wr = wo at *
      have hB0 := Below.refl wo.heap.size wo
      go_wp2_with fail
      go_loopw [8] (fun x wq => ∃ i : Nat, i ≤ m ∧ x = .int .i64 i ∧ Hid (Z = (ks.drop i).cmpF (ks'.drop i)) ∧ Hid (Below wo.heap.size wo wq)) (fun x _ => m - (intOf x).toNat)
      case atStart => exact ⟨0, Nat.zero_le _, rfl, R0, Lib.hid hB0⟩
      case round =>
        clear R0 hB0
        obtain ⟨i, hi, rfl, HZ, HB⟩ := hrel
        have hs := HB.out.size
        have k2 := (HB.out.cell (p := ⟨X, 2, none⟩) lX).trans f2
        have q2 := (HB.out.cell (p := ⟨Y, 2, none⟩) lY).trans f5
        by_cases hlt : i < m
        case neg =>
          obtain rfl : i = m := by omega
          have dd : decide ((i : Int) < (i : Int)) = false := decide_eq_false (by omega)
          have E := Lib.hid (show (0 : Int) = Z by rw [HZ.out, CE.out trivial])
          go_wp2_with fail
          go_ret
          exact ⟨ret_i64 E.out, by have h := HW.out; rw [← hX] at h; first | exact h.trans (HB.out.mono (by have := h.size; omega)) | (rw [← hX]; exact h.trans (HB.out.mono (by have := h.size; omega)))⟩
        obtain ⟨b, o, v, rfl, hb, g0, g1, g2, hki⟩ := (hK1.below hl1 HB.out).get hlt
        obtain ⟨b', o', v', rfl, hb', h0, h1, h2, hki'⟩ := (hK1'.below hl1 HB.out).get hlt
        obtain ⟨px, mx, cx, rfl, _, _, _⟩ := hki.shape
        obtain ⟨py, my, cy, rfl, _, _, _⟩ := hki'.shape
        have dd : decide ((i : Int) < (m : Int)) = true := decide_eq_true (by omega)
        have lb : b < wr.heap.size := by omega
        have lb' : b' < wr.heap.size := by omega
        have lX : X < wr.heap.size := by omega
        have lY : Y < wr.heap.size := by omega
        have hlr : lim ≤ wr.heap.size := by omega
        have CI := Lib.hid (fun w' (hb : Below wr.heap.size wr w') => IH.out i (by rw [← HM.out]; exact hlt) (.slice px mx cx) (.slice py my cy) w' (hki.below hlr hb) (hki'.below hlr hb) (by have := hb.size; omega))
        have DI := Lib.hid (CD.out i hlt trivial)
        have HZ1 := Lib.hid HZ.out
        rw [DI.out] at HZ1
        generalize cmpN (ks.k i) (ks.n i) (ks.kids i) (ks'.k i) (ks'.n i) (ks'.kids i) = D at *
        generalize ks.k i = kx at *
        generalize ks.n i = nx at *
        generalize ks'.k i = ky at *
        generalize ks'.n i = ny at *
        have MK := Lib.hid (fun w' (hb : Below wr.heap.size wr w') => (show w'.cell? ⟨X, 2, none⟩ = some (.slice (some ⟨b, o, none⟩) m c) ∧ w'.cell? ⟨Y, 2, none⟩ = some (.slice (some ⟨b', o', none⟩) m c') ∧ w'.cell? ⟨b, o + i * 3, none⟩ = some (.int .i64 kx) ∧ w'.cell? ⟨b, o + i * 3 + 1, none⟩ = some (.int .i64 nx) ∧ w'.cell? ⟨b, o + i * 3 + 2, none⟩ = some (.slice px mx cx) ∧ w'.cell? ⟨b', o' + i * 3, none⟩ = some (.int .i64 ky) ∧ w'.cell? ⟨b', o' + i * 3 + 1, none⟩ = some (.int .i64 ny) ∧ w'.cell? ⟨b', o' + i * 3 + 2, none⟩ = some (.slice py my cy) ∧ Below wr.heap.size wr w' from
          ⟨(hb.cell (p := ⟨X, 2, none⟩) lX).trans k2, (hb.cell (p := ⟨Y, 2, none⟩) lY).trans q2, (hb.cell (p := ⟨b, o + i * 3, none⟩) lb).trans g0, (hb.cell (p := ⟨b, o + i * 3 + 1, none⟩) lb).trans g1, (hb.cell (p := ⟨b, o + i * 3 + 2, none⟩) lb).trans g2, (hb.cell (p := ⟨b', o' + i * 3, none⟩) lb').trans h0, (hb.cell (p := ⟨b', o' + i * 3 + 1, none⟩) lb').trans h1, (hb.cell (p := ⟨b', o' + i * 3 + 2, none⟩) lb').trans h2, hb⟩))
        have KP := Lib.hid (fun w1 w' (hS : w1.cell? ⟨X, 2, none⟩ = some (.slice (some ⟨b, o, none⟩) m c) ∧ w1.cell? ⟨Y, 2, none⟩ = some (.slice (some ⟨b', o', none⟩) m c') ∧ w1.cell? ⟨b, o + i * 3, none⟩ = some (.int .i64 kx) ∧ w1.cell? ⟨b, o + i * 3 + 1, none⟩ = some (.int .i64 nx) ∧ w1.cell? ⟨b, o + i * 3 + 2, none⟩ = some (.slice px mx cx) ∧ w1.cell? ⟨b', o' + i * 3, none⟩ = some (.int .i64 ky) ∧ w1.cell? ⟨b', o' + i * 3 + 1, none⟩ = some (.int .i64 ny) ∧ w1.cell? ⟨b', o' + i * 3 + 2, none⟩ = some (.slice py my cy) ∧ Below wr.heap.size wr w1) (hb : Below w1.heap.size w1 w') => MK.out w' (hS.2.2.2.2.2.2.2.2.trans (hb.mono hS.2.2.2.2.2.2.2.2.size)))
        clear hki hki' DI HZ
        by_cases hD : D = 0
        · have dD : (D != 0) = false := by simp [hD]
          have E := Lib.hid (show Z = (ks.drop (i + 1)).cmpF (ks'.drop (i + 1)) by rw [HZ1.out, if_pos hD])
          go_wp2_with fail
          go_region_held3 (fun w' => w'.cell? ⟨X, 2, none⟩ = some (.slice (some ⟨b, o, none⟩) m c) ∧ w'.cell? ⟨Y, 2, none⟩ = some (.slice (some ⟨b', o', none⟩) m c') ∧ w'.cell? ⟨b, o + i * 3, none⟩ = some (.int .i64 kx) ∧ w'.cell? ⟨b, o + i * 3 + 1, none⟩ = some (.int .i64 nx) ∧ w'.cell? ⟨b, o + i * 3 + 2, none⟩ = some (.slice px mx cx) ∧ w'.cell? ⟨b', o' + i * 3, none⟩ = some (.int .i64 ky) ∧ w'.cell? ⟨b', o' + i * 3 + 1, none⟩ = some (.int .i64 ny) ∧ w'.cell? ⟨b', o' + i * 3 + 2, none⟩ = some (.slice py my cy) ∧ Below wr.heap.size wr w') (first | exact MK.out _ ((Below.refl _ _).drew) | assumption | (refine KP.out _ _ ?_ hb; first | assumption | exact MK.out _ ((Below.refl _ _).drew))) (first | (go_at_call 35; (with_reducible refine (CI.out _ (by go_split_ands; assumption)).mono ?_); rintro e w' ⟨rfl, hb⟩))
          rename_i hSS
          obtain ⟨_, _, _, _, _, _, _, _, hBB⟩ := hSS
          go_wp2_with fail
          go_roundw
          case rel => exact ⟨i + 1, by omega, by go_num, E, Lib.hid (HB.out.trans (hBB.mono hs))⟩
          case measure => (first | (simp [intOf]; done) | (simp [intOf]; omega) | (simp only [intOf]; omega))
        · have dD : (D != 0) = true := by simp [hD]
          have E := Lib.hid (show D = Z by rw [HZ1.out, if_neg hD])
          go_wp2_with fail
          go_region_held3 (fun w' => w'.cell? ⟨X, 2, none⟩ = some (.slice (some ⟨b, o, none⟩) m c) ∧ w'.cell? ⟨Y, 2, none⟩ = some (.slice (some ⟨b', o', none⟩) m c') ∧ w'.cell? ⟨b, o + i * 3, none⟩ = some (.int .i64 kx) ∧ w'.cell? ⟨b, o + i * 3 + 1, none⟩ = some (.int .i64 nx) ∧ w'.cell? ⟨b, o + i * 3 + 2, none⟩ = some (.slice px mx cx) ∧ w'.cell? ⟨b', o' + i * 3, none⟩ = some (.int .i64 ky) ∧ w'.cell? ⟨b', o' + i * 3 + 1, none⟩ = some (.int .i64 ny) ∧ w'.cell? ⟨b', o' + i * 3 + 2, none⟩ = some (.slice py my cy) ∧ Below wr.heap.size wr w') (first | exact MK.out _ ((Below.refl _ _).drew) | assumption | (refine KP.out _ _ ?_ hb; first | assumption | exact MK.out _ ((Below.refl _ _).drew))) (first | (go_at_call 35; (with_reducible refine (CI.out _ (by go_split_ands; assumption)).mono ?_); rintro e w' ⟨rfl, hb⟩))
          rename_i hSS
          obtain ⟨_, _, _, _, _, _, _, _, hBB⟩ := hSS
          go_wp2_with fail
          go_ret
          exact ⟨ret_i64 E.out, by have h := HW.out; rw [← hX] at h; have g := h.trans ((HB.out.trans (hBB.mono hs)).mono (by have := h.size; omega)); first | exact g | (rw [← hX]; exact g)⟩
/-- Are two trees one? -/
theorem r13_same (ks ks' : Fo) (v v' : Value) (k n k' n' : Int) (lim : Nat) (W : World) (hK : Kids W lim v ks) (hK' : Kids W lim v' ks') (hl : lim ≤ W.heap.size) :
    Calls Tryd.prog 23 #[.agg #[.int .i64 k, .int .i64 n, v], .agg #[.int .i64 k', .int .i64 n', v']] W fun e w' => e = .returned (.bool (decide (cmpN k n ks k' n' ks' = 0))) ∧ Below W.heap.size W w' := by
  have CI := Lib.hid (fun w' h h' g => r13_cmp ks.cnt ks ks' v v' k n k' n' lim w' (Nat.le_refl _) h h' g)
  obtain ⟨p, m, c, rfl, hc1, hc2, HM⟩ := hK.shape
  obtain ⟨p', m', c', rfl, hc1', hc2', HM'⟩ := hK'.shape
  obtain ⟨w0, hw0, ⟨a0, a1, a2⟩, ⟨b0, b1, b2⟩, hB, hsz⟩ := two3 W k n k' n' (.slice p m c) (.slice p' m' c') 35
  have hK0 := hK.below hl hB
  have hK0' := hK'.below hl hB
  have dz : (cmpN k n ks k' n' ks' == 0) = decide (cmpN k n ks k' n' ks' = 0) := rfl
  generalize decide (cmpN k n ks k' n' ks' = 0) = z at *
  generalize cmpN k n ks k' n' ks' = D at *
  go_enter Tryd.func23, Tryd.ntmps23
  go_wp2_with fail
  rw [← hw0]
  clear hw0
  refine (CI.out _ hK0 hK0' (by omega)).mono ?_
  rintro e w1 ⟨rfl, b1⟩
  go_wp2_with fail
  go_ret
  exact ⟨rfl, hB.trans (b1.mono hB.size)⟩
end Go.Proofs.YtmbcfijhlpeddaaDoor
/- The live example of layer 23; the table of powers of ten. -/
namespace Go.Proofs.YtmbcfijhlpeddaaDoor
open Go.ChangeShapes Go.WideShapes Go.ChangeAt Go.RowKit
set_option linter.unusedVariables false
set_option linter.unusedSimpArgs false
theorem pow10_data : (Rows.laid_internal_strconv_uint64pow10 : DataW Unit) = Lib.tabData .u64 Lib.pow10Tab := by kernel_rfl
theorem pow10_head {W : World} {l : List (String × DataW Unit)} (hL : laidMet Tryd.prog (("internal/strconv.uint64pow10", Rows.laid_internal_strconv_uint64pow10) :: l) W) : Lib.TabIs Tryd.prog W "internal/strconv.uint64pow10" .u64 Lib.pow10Tab := by
  rw [pow10_data] at hL
  exact Lib.tabIs_of_head (g := 1) (t := 106) (e := 87) (n := 20) (by kernel_rfl) (by kernel_rfl) Tryd.underlying106 Tryd.underlying87 (by kernel_rfl) (by kernel_rfl) hL
def f23 : Fo := .cons 2 2 .nil (.cons 1 3 .nil .nil)
def b23 : ByteArray := ⟨#[115, 112, 108, 105, 116, 54, 40, 115, 109, 97, 108, 108, 50, 44, 110, 97, 105, 118, 101, 51, 41]⟩
theorem big23 : ¬ bigT f23 := by decide
theorem ok23 : (Fo.cons 4 6 f23 .nil).okT := by simp [Fo.okT, f23, okT1]
theorem tx23 : ndB 4 6 f23 = b23.data.toList := by
  have h6 : Lib.decDigits 6 = [54] := by rw [dec_small (by decide)]; rfl
  have h2 : Lib.decDigits 2 = [50] := by rw [dec_small (by decide)]; rfl
  have h3 : Lib.decDigits 3 = [51] := by rw [dec_small (by decide)]; rfl
  rw [ndB_eq]
  simp only [f23, Fo.len, txB, Gr.tx, hdB]
  rw [show (6 : Int).toNat = 6 from rfl, show (2 : Int).toNat = 2 from rfl, show (3 : Int).toNat = 3 from rfl, h6, h2, h3]
  rfl
end Go.Proofs.YtmbcfijhlpeddaaDoor
/- Entries: their boxes; Check and Same on both sides; cmp.Or of errors. -/
namespace Go.Proofs.YtmbcfijhlpeddaaDoor
open Go.ChangeShapes Go.WideShapes Go.ChangeAt Go.RowKit
set_option linter.unusedVariables false
set_option linter.unusedSimpArgs false
theorem str_cell {w : World} {B : Nat} {E : TypeId} {v : Value} {l : List (List UInt8)} (ho : w.ownsRow B E 1 v l.length (encS l)) {j : Nat} {p : List UInt8} (hj : l[j]? = some p) :
    ∃ g c, v = .slice (some ⟨g, 0, none⟩) l.length c ∧ w.cell? ⟨g, j, none⟩ = some (.string ⟨p.toArray⟩) := by
  have hlt : j < l.length := by
    rw [List.getElem?_eq_some_iff] at hj; exact hj.1
  rcases own_form ho with ⟨-, h, -⟩ | ⟨g, c, hv, -, -, -, -, hcell⟩
  · omega
  · obtain ⟨u, h1, h2, _⟩ := hcell j (by omega)
    rw [encS_at, hj] at h1
    exact ⟨g, c, hv, by rw [h2]; exact h1.symm⟩
def tlw : List (List UInt8) → List UInt8
  | [] => []
  | x :: r => 32 :: x ++ tlw r
def fullw : List (List UInt8) → List UInt8
  | [] => []
  | x :: r => x ++ tlw r
theorem full_splA (l : List UInt8) : ∀ cur, fullw (splA cur l) = cur ++ l := by
  induction l with
  | nil => intro cur; simp [splA, fullw, tlw]
  | cons b l ih =>
    intro cur
    unfold splA
    split
    · rename_i h
      subst h
      have h2 := ih []
      cases hs : splA [] l with
      | nil => have := splA_count l []; rw [hs] at this; simp at this
      | cons x r =>
        rw [hs] at h2
        simp only [fullw, tlw, List.nil_append] at h2 ⊢
        rw [← h2]; simp
    · rw [ih]; simp
theorem wds_full {l : List UInt8} {P : List (List UInt8)} (h : wds l = some P) : fullw P = l := by
  unfold wds at h
  split at h
  · rename_i h0; simp at h; subst h; rw [h0]; rfl
  · split at h
    · simp at h; subst h; rw [full_splA]; rfl
    · cases h
set_option maxRecDepth 100000 in
theorem c_or_e (p : Option Addr) (n c : Nat) (xs : List Int) (W : World) (hr : RowI W p n xs) :
    Calls Tryd.prog 21 #[.slice p n c] W fun e w' => e = .returned (.int .i64 (fz xs)) ∧ W = w' := by
  have HX := Lib.hid hr
  have hs := hr.small
  have FA := Lib.hid (fun k h => fz_at xs k (by rw [hr.len]; exact h))
  have FZ := Lib.hid (fz_none xs)
  generalize fz xs = z at *
  clear hr
  go_enter Tryd.func21, Tryd.ntmps21
  go_wp2_with fail
  go_loopw [8] (fun i wr => ∃ k : Nat, k ≤ n ∧ i = .int .i64 k ∧ Hid (∀ j, j < k → xs.getD j 0 = 0) ∧ W = wr) (fun i _ => n - (intOf i).toNat)
  case atStart => refine ⟨0, Nat.zero_le _, rfl, Lib.hid (fun j hj => by omega), ?_⟩; first | rfl | trivial
  case round =>
    obtain ⟨k, hk, rfl, HZ, rfl⟩ := hrel
    by_cases hlt : k < n
    · have hd : decide ((k : Int) < (n : Int)) = true := decide_eq_true (by omega)
      obtain ⟨b, off, rfl, hb, hc, x0, x1⟩ := HX.out.cell hlt
      have FA1 := Lib.hid (fun h => FA.out k hlt HZ.out h)
      have HZ2 := Lib.hid (fun (h : xs.getD k 0 = 0) j (hj : j < k + 1) => (show xs.getD j 0 = 0 by
        by_cases e : j = k
        · rw [e]; exact h
        · exact HZ.out j (by omega)))
      generalize xs.getD k 0 = x at *
      by_cases hx : x = 0
      · have HZ3 := Lib.hid (HZ2.out hx)
        subst hx
        go_wp2_with fail
        go_roundw
        case rel => exact ⟨k + 1, by omega, by go_num, HZ3, trivial⟩
        case measure => (first | (simp [intOf]; done) | (simp [intOf]; omega) | (simp only [intOf]; omega))
      · have E := Lib.hid (FA1.out hx)
        have hx0 : (x != 0) = true := by simp; omega
        go_wp2_with fail
        go_ret
        exact ⟨by rw [E.out]; rfl, rfl⟩
    · obtain rfl : k = n := by omega
      have hd : decide ((k : Int) < (k : Int)) = false := decide_eq_false (by omega)
      have E := Lib.hid (FZ.out (fun j hj => HZ.out j (by rw [HX.out.len] at hj; exact hj)))
      go_wp2_with fail
      go_ret
      exact ⟨by rw [E.out]; rfl, rfl⟩

/-- A block of five cells, laid. -/
theorem box5 (W : World) (a b k n : Int) (v : Value) (T : TypeId) : ∃ w0 : World, w0 = W.alloc (.cells #[.int .i64 a, .int .i64 b, .int .i64 k, .int .i64 n, v] T) ∧ w0.heap[W.heap.size]? = some (.cells #[.int .i64 a, .int .i64 b, .int .i64 k, .int .i64 n, v] T (0, 0)) ∧ Below W.heap.size W w0 ∧ w0.heap.size = W.heap.size + 1 :=
  ⟨_, rfl, heap_alloc_new _ _, (Below.refl _ _).alloc (Nat.le_refl _) _, by simp⟩
theorem cells5 {w : World} {g : Nat} {a b c d e : Value} {T : TypeId} (h : w.heap[g]? = some (.cells #[a, b, c, d, e] T (0, 0))) : w.cell? ⟨g, 0, none⟩ = some a ∧ w.cell? ⟨g, 1, none⟩ = some b ∧ w.cell? ⟨g, 2, none⟩ = some c ∧ w.cell? ⟨g, 3, none⟩ = some d ∧ w.cell? ⟨g, 4, none⟩ = some e :=
  ⟨by rw [cell_of_row _ _ _ _ _ _ h]; rfl, by rw [cell_of_row _ _ _ _ _ _ h]; rfl, by rw [cell_of_row _ _ _ _ _ _ h]; rfl, by rw [cell_of_row _ _ _ _ _ _ h]; rfl, by rw [cell_of_row _ _ _ _ _ _ h]; rfl⟩
theorem free5 {w : World} {g : Nat} {a b c d e : Value} {T : TypeId} (h : w.heap[g]? = some (.cells #[a, b, c, d, e] T (0, 0))) : w.frozen? ⟨g, 0, none⟩ = false ∧ w.frozen? ⟨g, 1, none⟩ = false ∧ w.frozen? ⟨g, 2, none⟩ = false ∧ w.frozen? ⟨g, 3, none⟩ = false ∧ w.frozen? ⟨g, 4, none⟩ = false :=
  ⟨frozen_of_row _ _ _ _ _ h, frozen_of_row _ _ _ _ _ h, frozen_of_row _ _ _ _ _ h, frozen_of_row _ _ _ _ _ h, frozen_of_row _ _ _ _ _ h⟩
/-- A struct of five cells stored whole. -/
def s5 (w : World) (b : Nat) (x y z u v : Value) : World := ((((w.setCell ⟨b, 0, none⟩ x).setCell ⟨b, 1, none⟩ y).setCell ⟨b, 2, none⟩ z).setCell ⟨b, 3, none⟩ u).setCell ⟨b, 4, none⟩ v
theorem s5_at {w : World} {b : Nat} {x y z u v x0 y0 z0 u0 v0 : Value} {T : TypeId} (h : w.heap[b]? = some (.cells #[x0, y0, z0, u0, v0] T (0, 0))) : (s5 w b x y z u v).heap[b]? = some (.cells #[x, y, z, u, v] T (0, 0)) := by
  unfold s5; rw [bset (bset (bset (bset (bset h _) _) _) _) _]; rfl
theorem s5_below {w : World} {b H : Nat} (x y z u v : Value) (h : H ≤ b) : Below H w (s5 w b x y z u v) := (((((Below.refl _ _).setCell h _).setCell h _).setCell h _).setCell h _).setCell h _
theorem s5_other {w : World} {b i : Nat} (x y z u v : Value) (h : i ≠ b) : (s5 w b x y z u v).heap[i]? = w.heap[i]? := by
  unfold s5; rw [heap_setCell_other _ ⟨b, 4, none⟩ i _ h, heap_setCell_other _ ⟨b, 3, none⟩ i _ h, heap_setCell_other _ ⟨b, 2, none⟩ i _ h, heap_setCell_other _ ⟨b, 1, none⟩ i _ h, heap_setCell_other _ ⟨b, 0, none⟩ i _ h]
theorem s5_size (w : World) (b : Nat) (x y z u v : Value) : (s5 w b x y z u v).heap.size = w.heap.size := by unfold s5; simp
theorem key_eq (a b c d : Int) (u : World) : (binOp .eql 24 (.agg #[.int .i64 a, .int .i64 b]) (.agg #[.int .i64 c, .int .i64 d])).run Tryd.prog u = .ok (.bool (decide (a = c ∧ b = d))) u := by
  go_simp
  by_cases h1 : a = c <;> by_cases h2 : b = d <;> simp [h1, h2]
set_option maxRecDepth 100000 in
set_option maxHeartbeats 4000000 in
theorem e_check (ks : Fo) (v : Value) (a b k n : Int) (lim : Nat) (W : World) (hN : ks.cnt ≤ 1048576) (hK : Kids W lim v ks) (hl : lim ≤ W.heap.size) (wa : -9223372036854775808 ≤ a ∧ a ≤ 9223372036854775807) (wk : -9223372036854775808 ≤ k ∧ k ≤ 9223372036854775807) (wn : -9223372036854775808 ≤ n ∧ n ≤ 9223372036854775807) (wf : ks.wf) :
    Calls Tryd.prog 18 #[.agg #[.int .i64 a, .int .i64 b, .int .i64 k, .int .i64 n, v]] W fun e w' => e = .returned (.int .i64 (fori a b n (chkd k n ks))) ∧ Below W.heap.size W w' := by
  obtain ⟨p, m, c, rfl, hc1, hc2, -⟩ := hK.shape
  obtain ⟨w0, hw0, r0, hB0, hs0⟩ := box5 W a b k n (.slice p m c) 37
  have VF := valid_for ks (.slice p m c) a b k n lim w0 hN (hK.below hl hB0) (by omega) wa wk wn wf
  obtain ⟨x0, x1, x2, x3, x4⟩ := cells5 r0
  obtain ⟨z, hz⟩ : ∃ z, fori a b n (chkd k n ks) = z := ⟨_, rfl⟩
  rw [hz] at VF ⊢
  have HW0 := Lib.hid hw0
  clear hK r0 hw0 hz
  go_enter Tryd.func18, Tryd.ntmps18
  go_wp2_with fail
  rw [← HW0.out]
  refine VF.mono ?_
  rintro e w1 ⟨rfl, hb1⟩
  go_wp2_with fail
  go_ret
  exact ⟨rfl, hB0.trans (hb1.mono hB0.size)⟩
set_option maxRecDepth 100000 in
set_option maxHeartbeats 4000000 in
/-- Two entries of one key. -/
theorem r24_same1 (ks ks' : Fo) (v v' : Value) (a b k n k' n' : Int) (lim : Nat) (W : World) (hK : Kids W lim v ks) (hK' : Kids W lim v' ks') (hl : lim ≤ W.heap.size) :
    Calls Tryd.prog 13 #[.agg #[.int .i64 a, .int .i64 b, .int .i64 k, .int .i64 n, v], .agg #[.int .i64 a, .int .i64 b, .int .i64 k', .int .i64 n', v']] W fun e w' => e = .returned (.bool (decide (cmpN k n ks k' n' ks' = 0))) ∧ Below W.heap.size W w' := by
  obtain ⟨p, m, c, rfl, -, -, -⟩ := hK.shape
  obtain ⟨p', m', c', rfl, -, -, -⟩ := hK'.shape
  obtain ⟨w0, hw0, r0, hB0, hs0⟩ := box5 W a b k n (.slice p m c) 37
  obtain ⟨w1, hw1, r1, hB1, hs1⟩ := box5 w0 a b k' n' (.slice p' m' c') 37
  have r0 := (hB1.block _ (by omega)).trans r0
  rw [hs0] at r1
  have hB := hB0.trans (hB1.mono hB0.size)
  have HW1 := Lib.hid (show (W.alloc (.cells #[.int .i64 a, .int .i64 b, .int .i64 k, .int .i64 n, .slice p m c] 37)).alloc (.cells #[.int .i64 a, .int .i64 b, .int .i64 k', .int .i64 n', .slice p' m' c'] 37) = w1 by rw [hw1, hw0])
  have SM := r13_same ks ks' (.slice p m c) (.slice p' m' c') k n k' n' lim w1 (hK.below hl hB) (hK'.below hl hB) (by omega)
  obtain ⟨x0, x1, x2, x3, x4⟩ := cells5 r0
  obtain ⟨y0, y1, y2, y3, y4⟩ := cells5 r1
  generalize decide (cmpN k n ks k' n' ks' = 0) = z at *
  have KE := key_eq a b a b
  simp only [and_self, decide_true] at KE
  clear hK hK' r0 r1 hw0 hw1 hB0 hB1 hs0 hs1
  go_enter Tryd.func13, Tryd.ntmps13
  go_upto_region 1 with fail
  rw [HW1.out]
  go_wp2_with fail
  refine SM.mono ?_
  rintro e w2 ⟨rfl, hb2⟩
  go_wp2_with fail
  go_ret
  exact ⟨rfl, hB.trans (hb2.mono hB.size)⟩
end Go.Proofs.YtmbcfijhlpeddaaDoor
/- entry.Print: an entry's line. -/
namespace Go.Proofs.YtmbcfijhlpeddaaDoor
open Go.ChangeShapes Go.WideShapes Go.ChangeAt Go.RowKit
set_option linter.unusedVariables false
set_option linter.unusedSimpArgs false
theorem node_okT1 {k n : Int} {m : Nat} {a b : Int} (h : nodeB k n m a b = true) : okT1 k n := by
  have hH : hasb n = true → 0 ≤ n ∧ n ≤ 999999999 := fun h => by
    have := of_decide_eq_true h; omega
  have hF : few n = true → 0 ≤ n ∧ n ≤ 999999999 := fun h => by
    have := of_decide_eq_true h; omega
  have hP : hasp n = true → 0 ≤ n ∧ n ≤ 999999999 := fun h => by
    unfold hasp pwb at h
    rw [Bool.and_eq_true] at h
    have h1 := of_decide_eq_true h.1
    have h2 := of_decide_eq_true h.2
    omega
  unfold nodeB at h
  by_cases k1 : k = 1
  · rw [if_pos k1, Bool.and_eq_true] at h; exact ⟨by omega, hH h.2⟩
  rw [if_neg k1] at h
  by_cases k2 : k = 2
  · rw [if_pos k2, Bool.and_eq_true] at h; exact ⟨by omega, hF h.2⟩
  rw [if_neg k2] at h
  by_cases k3 : k = 3
  · rw [if_pos k3, Bool.and_eq_true] at h; exact ⟨by omega, hP h.2⟩
  rw [if_neg k3] at h
  by_cases k4 : k = 4
  · rw [if_pos k4, Bool.and_eq_true, Bool.and_eq_true] at h; exact ⟨by omega, hH h.1.2⟩
  rw [if_neg k4] at h
  by_cases k5 : k = 5
  · rw [if_pos k5, Bool.and_eq_true, Bool.and_eq_true, Bool.and_eq_true] at h; exact ⟨by omega, hH h.1.1.2⟩
  rw [if_neg k5] at h
  by_cases k6 : k = 6
  · rw [if_pos k6, Bool.and_eq_true, Bool.and_eq_true, Bool.and_eq_true, Bool.and_eq_true] at h; exact ⟨by omega, hH h.1.1.2⟩
  rw [if_neg k6] at h
  by_cases k7 : k = 7
  · rw [if_pos k7, Bool.and_eq_true, Bool.and_eq_true, Bool.and_eq_true, Bool.and_eq_true] at h; exact ⟨by omega, hH h.1.1.2⟩
  rw [if_neg k7] at h
  cases h
theorem chk_okT {k n : Int} {ks : Fo} (h : chkd k n ks = 0) : ¬ bigT ks ∧ (Fo.cons k n ks .nil).okT := by
  unfold chkd at h
  by_cases hb : 60 < ks.cnt + 1 ∨ 12 < ks.depth + 1
  · rw [if_pos hb] at h; cases h
  · rw [if_neg hb] at h
    refine ⟨hb, (okT_list k n ks).2 (fun x hx => ?_)⟩
    by_cases ha : (Nd.mk k n ks :: ks.pre).all Nd.ok = true
    · exact node_okT1 (List.all_eq_true.1 ha x hx)
    · rw [if_neg ha] at h; cases h
theorem fori_zero {a b n e : Int} (h : fori a b n e = 0) : (1 ≤ a ∧ a ≤ 16777216) ∧ (b = 0 ∨ b = 1) ∧ e = 0 ∧ n = a := by
  unfold fori at h
  by_cases h1 : hasb a = false
  · rw [if_pos h1] at h; cases h
  rw [if_neg h1] at h
  by_cases h2 : ¬ (b = 0 ∨ b = 1)
  · rw [if_pos h2] at h; cases h
  rw [if_neg h2] at h
  by_cases h3 : e ≠ 0
  · rw [if_pos h3] at h; exact absurd h h3
  rw [if_neg h3] at h
  by_cases h4 : n ≠ a
  · rw [if_pos h4] at h; cases h
  have h5 := of_decide_eq_true (show hasb a = true by simpa using h1)
  exact ⟨⟨h5.1, h5.2.1⟩, Classical.not_not.1 h2, Classical.not_not.1 h3, Classical.not_not.1 h4⟩
/-- An entry's line. -/
def lnB (a b k n : Int) (ks : Fo) : List UInt8 := Lib.decDigits a.toNat ++ (32 :: (Lib.decDigits b.toNat ++ (32 :: ndB k n ks)))
def EPrOk (a b k n : Int) (ks : Fo) (W : World) (e : Ending) (w' : World) : Prop := Below W.heap.size W w' ∧
  ((fori a b n (chkd k n ks) ≠ 0 ∧ e = .returned (.tuple #[.string ⟨#[]⟩, .int .i64 (fori a b n (chkd k n ks))])) ∨
    (fori a b n (chkd k n ks) = 0 ∧ ∃ s : ByteArray, s.data.toList = lnB a b k n ks ∧ e = .returned (.tuple #[.string s, .int .i64 0])))
theorem row3i (w : World) (x y z : Int) (T : TypeId) (hx : (Lit.int .i64 x).wf = true) (hy : (Lit.int .i64 y).wf = true) (hz : (Lit.int .i64 z).wf = true) : RowI (w.alloc (.cells #[.int .i64 x, .int .i64 y, .int .i64 z] T)) (some ⟨w.heap.size, 0, none⟩) 3 [x, y, z] :=
  RowI.of_at (T := T) (by unfold RowAtI; exact heap_alloc_new _ _) (by
    intro u hu
    simp only [List.mem_cons, List.not_mem_nil, or_false] at hu
    rcases hu with rfl | rfl | rfl <;> assumption) rfl (by decide)
set_option maxRecDepth 100000 in
set_option maxHeartbeats 8000000 in
theorem e_print (ks : Fo) (v : Value) (a b k n : Int) (lim : Nat) (W : World) (hN : ks.cnt ≤ 1048576) (hK : Kids W lim v ks) (hl : lim ≤ W.heap.size) (wa : -9223372036854775808 ≤ a ∧ a ≤ 9223372036854775807) (wk : -9223372036854775808 ≤ k ∧ k ≤ 9223372036854775807) (wn : -9223372036854775808 ≤ n ∧ n ≤ 9223372036854775807) (wf : ks.wf) (hT : Lib.TabIs Tryd.prog W "internal/strconv.uint64pow10" .u64 Lib.pow10Tab) :
    Calls Tryd.prog 12 #[.agg #[.int .i64 a, .int .i64 b, .int .i64 k, .int .i64 n, v]] W (EPrOk a b k n ks W) := by
  obtain ⟨p, m, c, rfl, hc1, hc2, -⟩ := hK.shape
  obtain ⟨w0, hw0, r0, hB0, hs0⟩ := box5 W a b k n (.slice p m c) 37
  have hK0 := hK.below hl hB0
  have CH := e_check ks (.slice p m c) a b k n lim w0 hN hK0 (by omega) wa wk wn wf
  have hT0 := pow10_below hT hB0
  obtain ⟨x0, x1, x2, x3, x4⟩ := cells5 r0
  have HW0 := Lib.hid hw0
  by_cases hf : fori a b n (chkd k n ks) = 0
  · rw [hf] at CH
    obtain ⟨⟨ha1, ha2⟩, hb01, hck, hna⟩ := fori_zero hf
    obtain ⟨hbg, hok⟩ := chk_okT hck
    have HF := Lib.hid hf
    have HBG := Lib.hid hbg
    have HOK := Lib.hid hok
    have HWF := Lib.hid wf
    clear hf hbg hok hw0 hck hna hT hK
    go_enter Tryd.func12, Tryd.ntmps12
    go_wp2_with fail
    rw [← HW0.out]
    refine CH.mono ?_
    rintro e w1 ⟨rfl, hb1⟩
    have hz1 := hb1.size
    have hT1 := pow10_below hT0 hb1
    have hK1 := hK0.below (by omega) hb1
    have r1 := (hb1.block _ (by omega)).trans r0
    have HB1 := Lib.hid (hB0.trans (hb1.mono hB0.size))
    have D1 := lex_digits a wa w1 hT1
    clear x0 x1 x2 x3 x4 CH hb1 hT0 hK0 r0 HW0 hB0
    obtain ⟨x0, x1, x2, x3, x4⟩ := cells5 r1
    go_wp2_with fail
    refine D1.mono ?_
    rintro e w2 ⟨hb2, hcase⟩
    rcases hcase with ⟨h, -⟩ | ⟨q1, hq1, hq19, t1, ht1, rfl⟩
    · exfalso; omega
    have hz2 := hb2.size
    have hT2 := pow10_below hT1 hb2
    have hK2 := hK1.below (by omega) hb2
    have r2 := (hb2.block _ (by omega)).trans r1
    have HB2 := Lib.hid (HB1.out.trans (hb2.mono HB1.out.size))
    have D2 := lex_digits b (by omega) w2 hT2
    have HT1 := Lib.hid (show t1.data.toList = Lib.decDigits a.toNat by rw [ht1, hq1]; rfl)
    clear x0 x1 x2 x3 x4 D1 hb2 hT1 hK1 r1 HB1 ht1 hq1
    obtain ⟨x0, x1, x2, x3, x4⟩ := cells5 r2
    go_wp2_with fail
    refine D2.mono ?_
    rintro e w3 ⟨hb3, hcase⟩
    rcases hcase with ⟨h, -⟩ | ⟨q2, hq2, hq29, t2, ht2, rfl⟩
    · exfalso; omega
    have hz3 := hb3.size
    have hT3 := pow10_below hT2 hb3
    have hK3 := hK2.below (by omega) hb3
    have r3 := (hb3.block _ (by omega)).trans r2
    have HB3 := Lib.hid (HB2.out.trans (hb3.mono HB2.out.size))
    have D3 := d_print ks (.slice p m c) k n lim w3 hK3 (by omega) HWF.out wn hT3
    have HT2 := Lib.hid (show t2.data.toList = Lib.decDigits b.toNat by rw [ht2, hq2]; rfl)
    clear x0 x1 x2 x3 x4 D2 hb3 hT2 hK2 r2 HB2 ht2 hq2 hT3 hK3
    obtain ⟨x0, x1, x2, x3, x4⟩ := cells5 r3
    go_wp2_with fail
    refine D3.mono ?_
    rintro e w4 ⟨hb4, hcase⟩
    rcases hcase with ⟨h, -⟩ | ⟨-, h, -⟩ | ⟨-, -, t3, ht3, rfl⟩
    · exact absurd h HBG.out
    · exact absurd HOK.out h
    have hz4 := hb4.size
    have HB4 := Lib.hid (HB3.out.trans (hb4.mono HB3.out.size))
    have HT3 := Lib.hid ht3
    have OR := c_or_e _ 3 3 [0, 0, 0] _ (row3i w4 0 0 0 38 (by decide) (by decide) (by decide))
    rw [show fz [0, 0, 0] = 0 from rfl] at OR
    have hle : (Lib.join ([t1, t2, t3].map (·.data.toList)) [32]).length ≤ 140737488355328 := by
      have e1 : (Lib.decDigits a.toNat).length ≤ 9 := (dec_len (by omega)).2
      have e2 : (Lib.decDigits b.toNat).length ≤ 9 := (dec_len (by omega)).2
      have e3 := txB_le _ HOK.out
      have e4 : (Fo.cons k n ks .nil).cnt = ks.cnt + 0 + 1 := rfl
      have e5 : (ndB k n ks).length = (txB (.cons k n ks .nil)).length := rfl
      have e6 : Lib.join ([t1, t2, t3].map (·.data.toList)) [32] = lnB a b k n ks := by
        simp [Lib.join, HT1.out, HT2.out, HT3.out, lnB]
      rw [e6, lnB]
      simp only [List.length_append, List.length_cons]
      omega
    have HE : Hid (Lib.join ([t1, t2, t3].map (·.data.toList)) [32] = lnB a b k n ks) := Lib.hid (by simp [Lib.join, HT1.out, HT2.out, HT3.out, lnB])
    have HLE := Lib.hid hle
    clear x0 x1 x2 x3 x4 D3 hb4 r3 HB3 ht3 hle
    go_wp2_with fail
    refine OR.mono ?_
    rintro e w5' ⟨rfl, rfl⟩
    obtain ⟨w5, hw5, hb5, hs5⟩ : ∃ w5, w4.alloc (.cells #[.int .i64 0, .int .i64 0, .int .i64 0] 38) = w5 ∧ Below w4.heap.size w4 w5 ∧ w5.heap.size = w4.heap.size + 1 := ⟨_, rfl, (Below.refl _ _).alloc (Nat.le_refl _) _, by simp⟩
    obtain ⟨w6, hw6, hb6, hs6, hn6⟩ : ∃ w6, w5.alloc (.cells #[.string t1, .string t2, .string t3] 9) = w6 ∧ Below w5.heap.size w5 w6 ∧ w6.heap.size = w5.heap.size + 1 ∧ w6.heap[w5.heap.size]? = some (.cells #[.string t1, .string t2, .string t3] 9 (0, 0)) := ⟨_, rfl, (Below.refl _ _).alloc (Nat.le_refl _) _, by simp, heap_alloc_new _ _⟩
    have JN := c_strings_Join w5.heap.size 0 3 [t1, t2, t3] ⟨#[32]⟩ w6 (fun j x hj => by
      rw [Nat.zero_add, cell_of_row _ _ _ _ _ _ hn6]
      match j, hj with
      | 0, hj => simp at hj; subst hj; rfl
      | 1, hj => simp at hj; subst hj; rfl
      | 2, hj => simp at hj; subst hj; rfl) (by omega) (by simp) (by simp) HLE.out
    obtain ⟨ln, hln⟩ : ∃ ln : ByteArray, (⟨(Lib.join ([t1, t2, t3].map (·.data.toList)) (⟨#[32]⟩ : ByteArray).data.toList).toArray⟩ : ByteArray) = ln := ⟨_, rfl⟩
    have HLN : Hid (ln.data.toList = lnB a b k n ks) := Lib.hid (by rw [← hln]; exact HE.out)
    rw [hln] at JN
    have HB6 := Lib.hid ((HB4.out.trans (hb5.mono HB4.out.size)).trans (hb6.mono (by have := HB4.out.size; omega)))
    have HW5 := Lib.hid hw5
    have HW6 := Lib.hid hw6
    rw [hs5] at JN
    clear hw5 hw6 hn6 hln HLE HE OR hb5 hb6 hs6
    rw [HW5.out]
    go_wp2_with fail
    (try rw [HW6.out])
    refine JN.mono ?_
    rintro e w7 ⟨rfl, hb7⟩
    go_wp2_with fail
    go_ret2
    exact ⟨HB6.out.trans (hb7.mono HB6.out.size), .inr ⟨HF.out, ln, HLN.out, rfl⟩⟩
  · have HF := Lib.hid hf
    obtain ⟨z, hz⟩ : ∃ z, fori a b n (chkd k n ks) = z := ⟨_, rfl⟩
    have HZ := Lib.hid hz
    rw [hz] at CH hf
    have e0 : (z != 0) = true := by simp [bne, hf]
    clear hw0 hK hT hz hT0
    go_enter Tryd.func12, Tryd.ntmps12
    go_wp2_with fail
    rw [← HW0.out]
    refine CH.mono ?_
    rintro e w1 ⟨rfl, hb1⟩
    go_wp2_with fail
    go_ret2
    exact ⟨hB0.trans (hb1.mono hB0.size), .inl ⟨HF.out, by rw [HZ.out]; rfl⟩⟩
def baL (l : List UInt8) : ByteArray := ⟨l.toArray⟩
theorem baL_list (l : List UInt8) : (baL l).data.toList = l := by simp [baL]
open Classical in
noncomputable def tcode (p q r : List UInt8) : Int := if h : ∃ x : Int × Int × Fo, Tree (baL r) x.1 x.2.1 x.2.2 then fori ((vl (baL p) (baL p).size : Nat) : Int) ((vl (baL q) (baL q).size : Nat) : Int) h.choose.2.1 (chkd h.choose.1 h.choose.2.1 h.choose.2.2) else 10
open Classical in
/-- The error of a line. -/
noncomputable def ecode (s : ByteArray) : Int := match wds s.data.toList with
  | some [p, q, r] => if IsN (baL p) ∧ IsN (baL q) then (if prs (baL r) ≠ 0 then prs (baL r) else tcode p q r) else 10
  | _ => 10
theorem ec_words {s : ByteArray} (h : ∀ p q r, wds s.data.toList ≠ some [p, q, r]) : ecode s = 10 := by
  unfold ecode
  split
  · rename_i p q r hw; exact absurd hw (h p q r)
  · rfl
theorem ec_num {s : ByteArray} {p q r : List UInt8} (h : wds s.data.toList = some [p, q, r]) (hn : ¬ (IsN (baL p) ∧ IsN (baL q))) : ecode s = 10 := by
  unfold ecode; rw [h]; simp only []; rw [if_neg hn]
theorem ec_tree {s : ByteArray} {p q r : List UInt8} (h : wds s.data.toList = some [p, q, r]) (hp : IsN (baL p)) (hq : IsN (baL q)) (hr : prs (baL r) ≠ 0) : ecode s = prs (baL r) := by
  unfold ecode; rw [h]; simp only []; rw [if_pos ⟨hp, hq⟩, if_pos hr]
theorem ec_for {s : ByteArray} {p q r : List UInt8} {k m : Int} {ks : Fo} (h : wds s.data.toList = some [p, q, r]) (hp : IsN (baL p)) (hq : IsN (baL q)) (hr : prs (baL r) = 0) (ht : Tree (baL r) k m ks) :
    ecode s = fori ((vl (baL p) (baL p).size : Nat) : Int) ((vl (baL q) (baL q).size : Nat) : Int) m (chkd k m ks) := by
  unfold ecode; rw [h]; simp only []; rw [if_pos ⟨hp, hq⟩, if_neg (fun e => e hr)]
  have hx : ∃ x : Int × Int × Fo, Tree (baL r) x.1 x.2.1 x.2.2 := ⟨(k, m, ks), ht⟩
  unfold tcode
  rw [dif_pos hx]
  obtain ⟨e1, e2, e3⟩ := hx.choose_spec.uniq ht
  rw [e1, e2, e3]
/-- A line's entry. -/
structure Ent (s : ByteArray) (a b k m : Int) (ks : Fo) : Prop where
  w : ∃ p q r, wds s.data.toList = some [p, q, r] ∧ IsN (baL p) ∧ IsN (baL q) ∧ a = ((vl (baL p) (baL p).size : Nat) : Int) ∧ b = ((vl (baL q) (baL q).size : Nat) : Int) ∧ Tree (baL r) k m ks
  f : fori a b m (chkd k m ks) = 0
theorem Ent.uniq {s : ByteArray} {a b k m a' b' k' m' : Int} {ks ks' : Fo} (h : Ent s a b k m ks) (h' : Ent s a' b' k' m' ks') : a = a' ∧ b = b' ∧ k = k' ∧ m = m' ∧ ks = ks' := by
  obtain ⟨p, q, r, hw, -, -, ha, hb, ht⟩ := h.w
  obtain ⟨p', q', r', hw', -, -, ha', hb', ht'⟩ := h'.w
  rw [hw] at hw'
  simp only [Option.some.injEq, List.cons.injEq, and_true] at hw'
  obtain ⟨rfl, rfl, rfl⟩ := hw'
  obtain ⟨e1, e2, e3⟩ := ht.uniq ht'
  exact ⟨ha.trans ha'.symm, hb.trans hb'.symm, e1, e2, e3⟩
/-- The line is that entry's line. -/
theorem Ent.line {s : ByteArray} {a b k m : Int} {ks : Fo} (h : Ent s a b k m ks) : lnB a b k m ks = s.data.toList := by
  obtain ⟨p, q, r, hw, hp, hq, rfl, rfl, ht⟩ := h.w
  have h1 := isNL_dec ((isN_list _).1 hp)
  have h2 := isNL_dec ((isN_list _).1 hq)
  rw [← vl_all, baL_list] at h1 h2
  have h3 := ht.2
  rw [baL_list] at h3
  have hf := wds_full hw
  unfold lnB
  rw [Int.toNat_natCast, Int.toNat_natCast, h1.1, h2.1, show ndB k m ks = r from h3.symm, ← hf]
  simp [fullw, tlw]
/-- What the readers of a line tell. -/
def EPaOk (s : ByteArray) (W : World) (e : Ending) (w' : World) : Prop := Below W.heap.size W w' ∧
  ((ecode s ≠ 0 ∧ e = .returned (.tuple #[.agg #[.int .i64 0, .int .i64 0, .int .i64 0, .int .i64 0, .slice none 0 0], .int .i64 (ecode s)])) ∨
    (ecode s = 0 ∧ ∃ (a b k m : Int) (ks : Fo) (v : Value), Ent s a b k m ks ∧ Kids w' w'.heap.size v ks ∧ e = .returned (.tuple #[.agg #[.int .i64 a, .int .i64 b, .int .i64 k, .int .i64 m, v], .int .i64 0])))
theorem epa_bad {s : ByteArray} {W w : World} {b : Nat} {c : Int} (hB : Below W.heap.size W w) (hb : W.heap.size ≤ b) (hc : ecode s = c) (h0 : c ≠ 0) : EPaOk s W (.returned (.tuple #[.agg #[.int .i64 0, .int .i64 0, .int .i64 0, .int .i64 0, .slice none 0 0], .int .i64 c])) (s5 w b (.int .i64 0) (.int .i64 0) (.int .i64 0) (.int .i64 0) (.slice none 0 0)) := by
  subst hc
  exact ⟨hB.trans (s5_below _ _ _ _ _ hb), .inl ⟨h0, rfl⟩⟩
theorem epa_good {s : ByteArray} {W w : World} {g : Nat} {a b k m : Int} {ks : Fo} {v : Value} (hB : Below W.heap.size W w) (hb : W.heap.size ≤ g) (hc : ecode s = 0) (he : Ent s a b k m ks) (hk : KidsS w (fun x => x < w.heap.size ∧ x ≠ g) v ks) :
    EPaOk s W (.returned (.tuple #[.agg #[.int .i64 a, .int .i64 b, .int .i64 k, .int .i64 m, v], .int .i64 0])) (s5 w g (.int .i64 a) (.int .i64 b) (.int .i64 k) (.int .i64 m) v) := by
  refine ⟨hB.trans (s5_below _ _ _ _ _ hb), .inr ⟨hc, a, b, k, m, ks, v, he, ?_, rfl⟩⟩
  exact (hk.carry (w' := s5 w g (.int .i64 a) (.int .i64 b) (.int .i64 k) (.int .i64 m) v) (S' := fun x => x < w.heap.size) (fun x hx => ⟨hx.1, s5_other _ _ _ _ _ hx.2⟩)).to (fun x hx => by rw [s5_size]; exact hx)
theorem Kids.toS {w : World} {lim : Nat} {v : Value} {f : Fo} (h : Kids w lim v f) : KidsS w (fun b => b < lim) v f := KidsS.of h
theorem vl_bd {s : ByteArray} (h : IsN s) : vl s s.size ≤ 999999999 := by
  have := (isNL_dec ((isN_list _).1 h)).2
  rw [← vl_all] at this; exact this
end Go.Proofs.YtmbcfijhlpeddaaDoor
/- The page's example of layer 24. -/
namespace Go.Proofs.YtmbcfijhlpeddaaDoor
open Go.ChangeShapes Go.WideShapes Go.ChangeAt Go.RowKit
set_option linter.unusedVariables false
set_option linter.unusedSimpArgs false
theorem fo24 : fori 8 0 8 (chkd 3 8 .nil) = 0 := by decide +kernel
theorem ln24 : lnB 8 0 3 8 .nil = [56, 32, 48, 32, 115, 116, 111, 99, 107, 56] := by
  have h8 : Lib.decDigits 8 = [56] := by rw [dec_small (by decide)]; rfl
  have h0 : Lib.decDigits 0 = [48] := by rw [dec_small (by decide)]; rfl
  unfold lnB
  rw [ndB_eq]
  unfold hdB
  rw [show (8 : Int).toNat = 8 from rfl, show (0 : Int).toNat = 0 from rfl, h8, h0]
  rfl
set_option maxRecDepth 100000 in
set_option maxHeartbeats 8000000 in
theorem live24 (W : World) (hT : Lib.TabIs Tryd.prog W "internal/strconv.uint64pow10" .u64 Lib.pow10Tab) : Calls Tryd.prog 5 #[] W fun e w' => e = .returned (.bool true) ∧ Below W.heap.size W w' := by
  have PR := e_print .nil (.slice none 0 0) 8 0 3 8 0 W (by decide) (Kids.nought _ _) (Nat.zero_le _) (by decide) (by decide) (by decide) trivial hT
  go_enter Tryd.func5, Tryd.ntmps5
  go_wp2_with fail
  refine PR.mono ?_
  rintro e w1 ⟨hb1, hcase⟩
  rcases hcase with ⟨h, -⟩ | ⟨-, s, hs', rfl⟩
  · exact absurd fo24 h
  · have hbl : (s.toList == [56, 32, 48, 32, 115, 116, 111, 99, 107, 56]) = true := by
      rw [Lib.toList_data, hs', ln24]; rfl
    clear hs' PR
    go_wp2_with fail
    go_ret
    refine ⟨?_, hb1⟩
    first | rfl | (simp; done) | (simp [hbl])
end Go.Proofs.YtmbcfijhlpeddaaDoor
/- Stable sorting in numbers: rows made one (mrg), put in (ins), sorted (isort); symMerge's cut (mrg_split). -/
namespace Go.Proofs.YtmbcfijhlpeddaaDoor
open Go.ChangeShapes Go.WideShapes Go.ChangeAt Go.RowKit
set_option linter.unusedVariables false
set_option linter.unusedSimpArgs false
namespace Srt
/-- Orders told by a comparison: 'lt' is asymmetric, and 'not lt' goes on. -/
structure SOrd {α : Type} (lt : α → α → Bool) : Prop where
  asy : ∀ {x y}, lt x y = true → lt y x = false
  neg : ∀ {x y z}, lt y x = false → lt z y = false → lt z x = false
variable {α : Type} {lt : α → α → Bool}
theorem SOrd.irr (O : SOrd lt) (x : α) : lt x x = false := by
  cases h : lt x x with
  | false => rfl
  | true => rw [O.asy h] at h; cases h
/-- x < y and y ≤ z: x < z. -/
theorem SOrd.lt_le (O : SOrd lt) {x y z : α} (h1 : lt x y = true) (h2 : lt z y = false) : lt x z = true := by
  cases h : lt x z with
  | true => rfl
  | false => rw [O.neg h2 h] at h1; cases h1
/-- x ≤ y and y < z: x < z. -/
theorem SOrd.le_lt (O : SOrd lt) {x y z : α} (h1 : lt y x = false) (h2 : lt y z = true) : lt x z = true := by
  cases h : lt x z with
  | true => rfl
  | false => rw [O.neg h h1] at h2; cases h2
/-- In order: none ahead of one that it is less than. -/
def Up (lt : α → α → Bool) (l : List α) : Prop := l.Pairwise (fun x y => lt y x = false)
/-- Put x behind all that are not behind it. -/
def ins (lt : α → α → Bool) (x : α) : List α → List α
  | [] => [x]
  | y :: ys => if lt x y then x :: y :: ys else y :: ins lt x ys
/-- Two rows in order made one: of the right one only what is less. -/
def mrg (lt : α → α → Bool) : List α → List α → List α
  | [], B => B
  | a :: A, [] => a :: A
  | a :: A, b :: B => if lt b a then b :: mrg lt (a :: A) B else a :: mrg lt A (b :: B)
termination_by A B => A.length + B.length
def isort (lt : α → α → Bool) (l : List α) : List α := l.foldl (fun o x => ins lt x o) []

theorem mrg_cons (a b : α) (A B : List α) : mrg lt (a :: A) (b :: B) = if lt b a then b :: mrg lt (a :: A) B else a :: mrg lt A (b :: B) := by rw [mrg]
theorem mrg_nil (A : List α) : mrg lt A [] = A := by cases A <;> simp [mrg]
theorem nil_mrg (B : List α) : mrg lt [] B = B := by simp [mrg]
theorem mem_ins {x z : α} : ∀ {l : List α}, z ∈ ins lt x l → z = x ∨ z ∈ l := by
  intro l
  induction l with
  | nil => intro h; simpa [ins] using h
  | cons y ys ih =>
    intro h
    unfold ins at h
    split at h
    · simpa using h
    · rcases List.mem_cons.1 h with rfl | h
      · exact .inr (List.mem_cons_self ..)
      · rcases ih h with h | h
        · exact .inl h
        · exact .inr (List.mem_cons_of_mem _ h)
theorem ins_up (O : SOrd lt) (x : α) : ∀ {l : List α}, Up lt l → Up lt (ins lt x l) := by
  intro l
  induction l with
  | nil => intro _; simp [ins, Up]
  | cons y ys ih =>
    intro h
    have h' := List.pairwise_cons.1 h
    unfold ins
    split
    · rename_i hl
      refine List.pairwise_cons.2 ⟨fun z hz => ?_, h⟩
      rcases List.mem_cons.1 hz with rfl | hz
      · exact O.asy hl
      · exact O.neg (O.asy hl) (h'.1 z hz)
    · rename_i hl
      refine List.pairwise_cons.2 ⟨fun z hz => ?_, ih h'.2⟩
      rcases mem_ins hz with rfl | hz
      · simpa using hl
      · exact h'.1 z hz
theorem ins_len (x : α) (l : List α) : (ins lt x l).length = l.length + 1 := by
  induction l with
  | nil => rfl
  | cons y ys ih => unfold ins; split <;> simp [ih]
theorem mrg_len : ∀ (A B : List α), (mrg lt A B).length = A.length + B.length
  | [], B => by simp [mrg]
  | a :: A, [] => by simp [mrg]
  | a :: A, b :: B => by
    rw [mrg]
    split
    · rw [List.length_cons, mrg_len (a :: A) B]; simp; omega
    · rw [List.length_cons, mrg_len A (b :: B)]; simp; omega
termination_by A B => A.length + B.length
theorem mem_mrg {z : α} : ∀ {A B : List α}, z ∈ mrg lt A B → z ∈ A ∨ z ∈ B
  | [], B, h => .inr (by simpa [mrg] using h)
  | a :: A, [], h => .inl (by simpa [mrg] using h)
  | a :: A, b :: B, h => by
    rw [mrg] at h
    split at h
    · rcases List.mem_cons.1 h with rfl | h
      · exact .inr (List.mem_cons_self ..)
      · rcases mem_mrg h with h | h
        · exact .inl h
        · exact .inr (List.mem_cons_of_mem _ h)
    · rcases List.mem_cons.1 h with rfl | h
      · exact .inl (List.mem_cons_self ..)
      · rcases mem_mrg h with h | h
        · exact .inl (List.mem_cons_of_mem _ h)
        · exact .inr h
termination_by A B => A.length + B.length
theorem mrg_up (O : SOrd lt) : ∀ {A B : List α}, Up lt A → Up lt B → Up lt (mrg lt A B)
  | [], B, _, hB => by simpa [mrg] using hB
  | a :: A, [], hA, _ => by simpa [mrg] using hA
  | a :: A, b :: B, hA, hB => by
    have h1 := List.pairwise_cons.1 hA
    have h2 := List.pairwise_cons.1 hB
    rw [mrg]
    split
    · rename_i hl
      refine List.pairwise_cons.2 ⟨fun z hz => ?_, mrg_up O hA h2.2⟩
      rcases mem_mrg hz with hz | hz
      · rcases List.mem_cons.1 hz with rfl | hz
        · exact O.asy hl
        · exact O.neg (O.asy hl) (h1.1 z hz)
      · exact h2.1 z hz
    · rename_i hl
      have hl : lt b a = false := by simpa using hl
      refine List.pairwise_cons.2 ⟨fun z hz => ?_, mrg_up O h1.2 hB⟩
      rcases mem_mrg hz with hz | hz
      · exact h1.1 z hz
      · rcases List.mem_cons.1 hz with rfl | hz
        · exact hl
        · exact O.neg hl (h2.1 z hz)
termination_by A B => A.length + B.length
/-- Where two rows are cut so that each left part stays ahead, they may be made one part by part. -/
theorem mrg_split : ∀ {A1 A2 B1 B2 : List α}, (∀ a ∈ A1, ∀ b ∈ B2, lt b a = false) → (∀ a ∈ A2, ∀ b ∈ B1, lt b a = true) →
    mrg lt (A1 ++ A2) (B1 ++ B2) = mrg lt A1 B1 ++ mrg lt A2 B2
  | [], A2, [], B2, _, _ => by simp [mrg]
  | [], A2, b :: B1, B2, h1, h2 => by
    cases A2 with
    | nil => simp [mrg]
    | cons a A2 =>
      rw [List.nil_append, List.cons_append, mrg_cons, if_pos (h2 a (List.mem_cons_self ..) b (List.mem_cons_self ..)), nil_mrg]
      have := mrg_split (A1 := []) (A2 := a :: A2) (B1 := B1) (B2 := B2) (by simp) (fun x hx y hy => h2 x hx y (List.mem_cons_of_mem _ hy))
      rw [List.nil_append, nil_mrg] at this
      rw [this]; rfl
  | a :: A1, A2, [], B2, h1, h2 => by
    cases B2 with
    | nil => simp [mrg_nil]
    | cons b B2 =>
      rw [List.nil_append, List.cons_append, mrg_cons, if_neg (by rw [h1 a (List.mem_cons_self ..) b (List.mem_cons_self ..)]; decide), mrg_nil]
      have := mrg_split (A1 := A1) (A2 := A2) (B1 := []) (B2 := b :: B2) (fun x hx => h1 x (List.mem_cons_of_mem _ hx)) (by simp)
      rw [List.nil_append, mrg_nil] at this
      rw [this]; rfl
  | a :: A1, A2, b :: B1, B2, h1, h2 => by
    rw [List.cons_append, List.cons_append, mrg, mrg]
    split
    · have := mrg_split (A1 := a :: A1) (A2 := A2) (B1 := B1) (B2 := B2) h1 (fun x hx y hy => h2 x hx y (List.mem_cons_of_mem _ hy))
      rw [List.cons_append] at this
      rw [this]; rfl
    · have := mrg_split (A1 := A1) (A2 := A2) (B1 := b :: B1) (B2 := B2) (fun x hx => h1 x (List.mem_cons_of_mem _ hx)) h2
      rw [List.cons_append] at this
      rw [this]; rfl
termination_by A1 _ B1 _ => A1.length + B1.length
/-- An element put into two rows made one: into the right one. -/
theorem ins_mrg (O : SOrd lt) (x : α) : ∀ {A B : List α}, Up lt A → Up lt B → ins lt x (mrg lt A B) = mrg lt A (ins lt x B)
  | [], B, _, _ => by simp [mrg]
  | a :: A, [], hA, _ => by
    have h1 := List.pairwise_cons.1 hA
    rw [mrg_nil, ins, ins, mrg, mrg_nil]
    split
    · rfl
    · have := ins_mrg O x (A := A) (B := []) h1.2 .nil
      rw [mrg_nil, ins] at this
      rw [this]
  | a :: A, b :: B, hA, hB => by
    have h1 := List.pairwise_cons.1 hA
    have h2 := List.pairwise_cons.1 hB
    rw [mrg]
    by_cases hba : lt b a = true
    · rw [if_pos hba, ins, ins]
      by_cases hxb : lt x b = true
      · rw [if_pos hxb, if_pos hxb, mrg, if_pos (O.le_lt (O.asy hxb) hba), mrg, if_pos hba]
      · rw [if_neg hxb, if_neg hxb, mrg, if_pos hba, ins_mrg O x hA h2.2]
    · have hba' : lt b a = false := by simpa using hba
      rw [if_neg hba, ins]
      by_cases hxa : lt x a = true
      · have hxb : lt x b = true := O.lt_le hxa hba'
        rw [if_pos hxa, ins, if_pos hxb, mrg, if_pos hxa, mrg, if_neg hba]
      · rw [if_neg hxa, ins_mrg O x h1.2 hB]
        rw [show mrg lt (a :: A) (ins lt x (b :: B)) = a :: mrg lt A (ins lt x (b :: B)) from ?_]
        rw [ins]
        split
        · rename_i hxb
          rw [mrg, if_neg hxa]
        · rw [mrg, if_neg hba]
termination_by A B => A.length + B.length
theorem fold_up (O : SOrd lt) (l : List α) : ∀ {o : List α}, Up lt o → Up lt (l.foldl (fun o x => ins lt x o) o) := by
  induction l with
  | nil => intro o h; exact h
  | cons x l ih => intro o h; exact ih (ins_up O x h)
theorem isort_up (O : SOrd lt) (l : List α) : Up lt (isort lt l) := fold_up O l .nil
theorem fold_mrg (O : SOrd lt) (l : List α) : ∀ {A o : List α}, Up lt A → Up lt o → l.foldl (fun o x => ins lt x o) (mrg lt A o) = mrg lt A (l.foldl (fun o x => ins lt x o) o) := by
  induction l with
  | nil => intro A o _ _; rfl
  | cons x l ih =>
    intro A o hA ho
    rw [List.foldl_cons, List.foldl_cons, ins_mrg O x hA ho]
    exact ih hA (ins_up O x ho)
/-- Sorted in two parts that are made one then: sorted. -/
theorem isort_app (O : SOrd lt) (A B : List α) : isort lt (A ++ B) = mrg lt (isort lt A) (isort lt B) := by
  have h := fold_mrg O B (isort_up O A) .nil
  rw [mrg_nil] at h
  rw [isort, List.foldl_append]
  exact h
theorem fold_len (l : List α) : ∀ o : List α, (l.foldl (fun o x => ins lt x o) o).length = o.length + l.length := by
  induction l with
  | nil => intro o; rfl
  | cons x l ih => intro o; rw [List.foldl_cons, ih, ins_len, List.length_cons]; omega
theorem isort_len (l : List α) : (isort lt l).length = l.length := by rw [isort, fold_len]; simp
theorem isort_snoc (l : List α) (x : α) : isort lt (l ++ [x]) = ins lt x (isort lt l) := by simp [isort, List.foldl_append]
/-- Where x goes, found from behind: l in order, cut so that x is less than all of the right part, and than none of the left part. -/
theorem ins_cut {x : α} : ∀ {L R : List α}, (∀ y ∈ L, lt x y = false) → (∀ y ∈ R, lt x y = true) → ins lt x (L ++ R) = L ++ x :: R
  | [], [], _, _ => rfl
  | [], y :: R, _, h => by rw [List.nil_append, ins, if_pos (h y (List.mem_cons_self ..))]; rfl
  | y :: L, R, h1, h2 => by
    rw [List.cons_append, ins, if_neg (by rw [h1 y (List.mem_cons_self ..)]; decide), ins_cut (fun z hz => h1 z (List.mem_cons_of_mem _ hz)) h2]; rfl
theorem one_mrg {x : α} : ∀ {L R : List α}, (∀ y ∈ L, lt y x = true) → (∀ y ∈ R, lt y x = false) → mrg lt [x] (L ++ R) = L ++ x :: R
  | [], [], _, _ => by simp [mrg]
  | [], y :: R, _, h => by rw [List.nil_append, mrg, if_neg (by rw [h y (List.mem_cons_self ..)]; decide), nil_mrg]; rfl
  | y :: L, R, h1, h2 => by
    rw [List.cons_append, mrg, if_pos (h1 y (List.mem_cons_self ..)), one_mrg (fun z hz => h1 z (List.mem_cons_of_mem _ hz)) h2]; rfl
theorem mrg_one (x : α) : ∀ (l : List α), mrg lt l [x] = ins lt x l
  | [] => by simp [mrg, ins]
  | y :: l => by
    rw [mrg, ins]
    split
    · rw [mrg_nil]
    · rw [mrg_one x l]
/-- An element less than the last one of a part in order that stands right ahead: .. -/
theorem up_last (O : SOrd lt) {L : List α} {x y : α} (hu : Up lt (L ++ [y])) (h : lt x y = false) : ∀ z ∈ L ++ [y], lt x z = false := fun z hz => by
  rcases List.mem_append.1 hz with hz | hz
  · exact O.neg ((List.pairwise_append.1 hu).2.2 z hz y (by simp)) h
  · rw [List.mem_singleton] at hz; subst hz; exact h
theorem up_head (O : SOrd lt) {R : List α} {x y : α} (hu : Up lt (y :: R)) (h : lt x y = true) : ∀ z ∈ y :: R, lt x z = true := fun z hz => by
  rcases List.mem_cons.1 hz with rfl | hz
  · exact h
  · exact O.lt_le h ((List.pairwise_cons.1 hu).1 z hz)
theorem up_last' (O : SOrd lt) {L : List α} {x y : α} (hu : Up lt (L ++ [y])) (h : lt y x = true) : ∀ z ∈ L ++ [y], lt z x = true := fun z hz => by
  rcases List.mem_append.1 hz with hz | hz
  · exact O.le_lt ((List.pairwise_append.1 hu).2.2 z hz y (by simp)) h
  · rw [List.mem_singleton] at hz; subst hz; exact h
theorem up_head' (O : SOrd lt) {R : List α} {x y : α} (hu : Up lt (y :: R)) (h : lt y x = false) : ∀ z ∈ y :: R, lt z x = false := fun z hz => by
  rcases List.mem_cons.1 hz with rfl | hz
  · exact h
  · exact O.neg h ((List.pairwise_cons.1 hu).1 z hz)
/-- Keys of two ints. -/
def klt (x y : Int × Int) : Bool := decide (x.1 < y.1 ∨ x.1 = y.1 ∧ x.2 < y.2)
theorem klt_ord {β : Type} (key : β → Int × Int)   : SOrd (fun x y : β => klt (key x) (key y)) where
  asy := by intro x y h; unfold klt at *; simp only [decide_eq_true_eq, decide_eq_false_iff_not] at *; omega
  neg := by intro x y z h1 h2; unfold klt at *; simp only [decide_eq_false_iff_not] at *; omega
end Srt
end Go.Proofs.YtmbcfijhlpeddaaDoor
/- Rows of structs of five cells that are sorted in place: their cells, one set, two swapped. -/
namespace Go.Proofs.YtmbcfijhlpeddaaDoor
open Go.ChangeShapes Go.WideShapes Go.ChangeAt Go.RowKit
set_option linter.unusedVariables false
set_option linter.unusedSimpArgs false
/-- A struct of five cells: four ints and a value. -/
structure E5 where
  a : Int
  b : Int
  k : Int
  n : Int
  v : Value
def cE (e : E5) : List Value := [.int .i64 e.a, .int .i64 e.b, .int .i64 e.k, .int .i64 e.n, e.v]
def agE (e : E5) : Value := .agg #[.int .i64 e.a, .int .i64 e.b, .int .i64 e.k, .int .i64 e.n, e.v]
def cL (l : List E5) : List Value := l.flatMap cE
theorem cL_cons (e : E5) (l : List E5) : cL (e :: l) = .int .i64 e.a :: .int .i64 e.b :: .int .i64 e.k :: .int .i64 e.n :: e.v :: cL l := rfl
theorem cL_len (l : List E5) : (cL l).length = l.length * 5 := by
  induction l with
  | nil => rfl
  | cons e l ih => rw [cL_cons]; simp only [List.length_cons, ih]; omega
theorem cL_at : ∀ {l : List E5} {i : Nat} {e : E5}, l[i]? = some e → (cL l)[i * 5]? = some (.int .i64 e.a) ∧ (cL l)[i * 5 + 1]? = some (.int .i64 e.b) ∧ (cL l)[i * 5 + 2]? = some (.int .i64 e.k) ∧ (cL l)[i * 5 + 3]? = some (.int .i64 e.n) ∧ (cL l)[i * 5 + 4]? = some e.v
  | [], _, _, h => by simp at h
  | x :: l, 0, e, h => by
    simp at h; subst h
    exact ⟨rfl, rfl, rfl, rfl, rfl⟩
  | x :: l, i + 1, e, h => by
    have h' : l[i]? = some e := by simpa using h
    have ih := cL_at h'
    rw [show (i + 1) * 5 = i * 5 + 5 by omega, cL_cons]
    rw [show i * 5 + 5 + 1 = i * 5 + 1 + 5 by omega, show i * 5 + 5 + 2 = i * 5 + 2 + 5 by omega, show i * 5 + 5 + 3 = i * 5 + 3 + 5 by omega, show i * 5 + 5 + 4 = i * 5 + 4 + 5 by omega]
    simpa using ih
def set5 (l : List Value) (o : Nat) (e : E5) : List Value := ((((l.set o (.int .i64 e.a)).set (o + 1) (.int .i64 e.b)).set (o + 2) (.int .i64 e.k)).set (o + 3) (.int .i64 e.n)).set (o + 4) e.v
theorem cL_set : ∀ (l : List E5) (i : Nat) (e : E5), set5 (cL l) (i * 5) e = cL (l.set i e)
  | [], i, e => by simp [set5, cL]
  | x :: l, 0, e => by rw [cL_cons]; rfl
  | x :: l, i + 1, e => by
    have ih := cL_set l i e
    rw [List.set_cons_succ, cL_cons, cL_cons, ← ih]
    unfold set5
    rw [show (i + 1) * 5 = i * 5 + 5 by omega, show i * 5 + 5 + 1 = i * 5 + 1 + 5 by omega, show i * 5 + 5 + 2 = i * 5 + 2 + 5 by omega, show i * 5 + 5 + 3 = i * 5 + 3 + 5 by omega, show i * 5 + 5 + 4 = i * 5 + 4 + 5 by omega]
    simp
/-- Block g is such a row. -/
def RowE (w : World) (g : Nat) (T : TypeId) (l : List E5) : Prop := w.heap[g]? = some (.cells (cL l).toArray T (0, 0))
theorem RowE.lt {w : World} {g : Nat} {T : TypeId} {l : List E5} (h : RowE w g T l) : g < w.heap.size := by
  by_cases hl : g < w.heap.size
  · exact hl
  · unfold RowE at h; rw [Array.getElem?_eq_none (by omega)] at h; cases h
theorem RowE.cells {w : World} {g : Nat} {T : TypeId} {l : List E5} (h : RowE w g T l) {i : Nat} {e : E5} (hi : l[i]? = some e) :
    w.cell? ⟨g, i * 5, none⟩ = some (.int .i64 e.a) ∧ w.cell? ⟨g, i * 5 + 1, none⟩ = some (.int .i64 e.b) ∧ w.cell? ⟨g, i * 5 + 2, none⟩ = some (.int .i64 e.k) ∧ w.cell? ⟨g, i * 5 + 3, none⟩ = some (.int .i64 e.n) ∧ w.cell? ⟨g, i * 5 + 4, none⟩ = some e.v := by
  obtain ⟨h0, h1, h2, h3, h4⟩ := cL_at hi
  unfold RowE at h
  refine ⟨?_, ?_, ?_, ?_, ?_⟩ <;> (rw [cell_of_row _ _ _ _ _ _ h]; simpa using by assumption)
theorem RowE.free {w : World} {g : Nat} {T : TypeId} {l : List E5} (h : RowE w g T l) (o : Nat) : w.frozen? ⟨g, o, none⟩ = false := frozen_of_row _ _ _ _ _ h
theorem RowE.below {w w' : World} {g : Nat} {T : TypeId} {l : List E5} (h : RowE w g T l) (hb : Below w.heap.size w w') : RowE w' g T l := (hb.block g h.lt).trans h
def s5o (w : World) (b o : Nat) (e : E5) : World := ((((w.setCell ⟨b, o, none⟩ (.int .i64 e.a)).setCell ⟨b, o + 1, none⟩ (.int .i64 e.b)).setCell ⟨b, o + 2, none⟩ (.int .i64 e.k)).setCell ⟨b, o + 3, none⟩ (.int .i64 e.n)).setCell ⟨b, o + 4, none⟩ e.v
theorem row_put {w : World} {g o : Nat} {cs : Array Value} {T : TypeId} {fr : Nat × Nat} (h : w.heap[g]? = some (.cells cs T fr)) (v : Value) : (w.setCell ⟨g, o, none⟩ v).heap[g]? = some (.cells (cs.setIfInBounds o v) T fr) := by
  simp [World.setCell, Array.getElem?_modify, h]
theorem RowE.set {w : World} {g : Nat} {T : TypeId} {l : List E5} (h : RowE w g T l) (i : Nat) (e : E5) : RowE (s5o w g (i * 5) e) g T (l.set i e) := by
  unfold RowE at *
  unfold s5o
  have k := row_put (row_put (row_put (row_put (row_put h (o := i * 5) (.int .i64 e.a)) (o := i * 5 + 1) (.int .i64 e.b)) (o := i * 5 + 2) (.int .i64 e.k)) (o := i * 5 + 3) (.int .i64 e.n)) (o := i * 5 + 4) e.v
  rw [k, ← cL_set]
  simp [set5]
theorem s5o_but (w : World) (b o : Nat) (e : E5) : But w (s5o w b o e) b := ((((But.set _ _ _ _).trans (But.set _ _ _ _)).trans (But.set _ _ _ _)).trans (But.set _ _ _ _)).trans (But.set _ _ _ _)
/-- Two that stand side by side, swapped. -/
theorem set_swap {α : Type} (P R : List α) (x y : α) : ((P ++ y :: x :: R).set P.length x).set (P.length + 1) y = P ++ x :: y :: R := by
  induction P with
  | nil => rfl
  | cons p P ih => simp
theorem set_swap' {α : Type} (P R : List α) (x y : α) : ((P ++ y :: x :: R).set (P.length + 1) y).set P.length x = P ++ x :: y :: R := by
  induction P with
  | nil => rfl
  | cons p P ih => simp
end Go.Proofs.YtmbcfijhlpeddaaDoor
