/- CandTells: the plan without a choice of any number, and all that are worth a trial, or that it is no size. -/
import Derived.Test.YtfjioflggkmhcaaCandk
import Derived.Test.YtfjioflggkmhcaaCmpr
namespace Go.Proofs.Ytfjioflggkmhcaa
open Go.ChangeShapes Go.WideShapes Go.ChangeAt Go.RowKit
set_option linter.unusedVariables false
set_option linter.unusedSimpArgs false
set_option maxRecDepth 100000 in
set_option maxHeartbeats 4000000 in
theorem live19 (W : World) : Calls Try.prog 42 #[] W fun e w' => e = .returned (.bool true) ∧ Below W.heap.size W w' := by
  have P96 := Lib.hid (fun w => cand_Plain 96 w has96)
  have LI5 := Lib.hid (fun w => cand_list 5 w has5)
  obtain ⟨e1, e2, e3⟩ := pl96
  obtain ⟨g1, g2⟩ := l5
  have E3 := Lib.hid e3
  have E2 := Lib.hid e2
  have G1 := Lib.hid g1
  have G2 := Lib.hid g2
  have E1 := Lib.hid e1
  clear e1 e2 e3 g1 g2
  generalize plT 16777216 96 = D1 at *
  have HTOP := Lib.hid (ofL_top (candL 5))
  generalize ofL (candL 5) = F at *
  generalize candL 5 = L at *
  go_enter Try.func42, Try.ntmps42
  go_wp2_with fail
  refine (P96.out _).mono ?_
  rintro e w1 ⟨v1, rfl, hk1, b1⟩
  have hK1 := hk1.to (lim := w1.heap.size) (fun _ hb => hb.1)
  obtain ⟨p1, c1, rfl, _, _⟩ := hK1.form
  rw [E2.out] at hK1
  rw [E1.out, E2.out]
  obtain ⟨w2, hw2, y0, y1, y2, b2, hs2⟩ := box3 w1 4 D1.n (.slice p1 2 c1) 24
  obtain ⟨kb, ko, kv, rfl, hkb, _, z1, _, _⟩ := hK1.get (i := 1) (by omega)
  rw [E3.out] at z1
  have HW2 := Lib.hid hw2
  have HB := Lib.hid (b1.trans (b2.mono b1.size))
  have ly : w1.heap.size < w2.heap.size := by omega
  have lz := hkb
  have z1 := (b2.cell (p := ⟨kb, ko + 1 * 3 + 1, none⟩) hkb).trans z1
  clear hk1 hK1 b1 b2 hw2
  go_upto_region 2 with fail
  rw [← HW2.out]
  clear HW2
  go_wp2_with fail
  refine (LI5.out _).mono ?_
  rintro e w3 ⟨v5, rfl, hO, b3⟩
  have hKL : Kids w3 w3.heap.size v5 F := OwnT.kids (lim := 0) (B := w2.heap.size + 1) (by rw [HTOP.out]; exact hO)
  obtain ⟨p5, c5, rfl, _, _⟩ := hKL.form
  rw [G1.out] at hKL ⊢
  obtain ⟨qb, qo, qv, rfl, hqb, u0, _, _, _⟩ := hKL.get (i := 2) (by omega)
  rw [G2.out] at u0
  have x0 := (b3.cell (p := ⟨w1.heap.size, 0, none⟩) ly).trans y0
  have x2 := (b3.cell (p := ⟨w1.heap.size, 2, none⟩) ly).trans y2
  have z1 := (b3.cell (p := ⟨kb, ko + 1 * 3 + 1, none⟩) (show kb < w2.heap.size by omega)).trans z1
  have HB3 := Lib.hid (HB.out.trans (b3.mono HB.out.size))
  clear y0 y1 y2 hO hKL b3 HB
  go_wp2_with fail
  go_ret
  exact ⟨rfl, HB3.out⟩
namespace candTells
set_option maxRecDepth 100000 in
set_option maxHeartbeats 4000000 in
theorem no (n : Int) (W : World) (h0 : -9223372036854775808 ≤ n) (h1 : n ≤ 9223372036854775807) (hh : hasb n = false) : Calls Try.prog 10 #[.int .i64 n] W fun e w' => e = .returned (.bool true) ∧ Below W.heap.size W w' := by
  have LV := Lib.hid (fun w => live19 w)
  have PN := Lib.hid (fun w => cand_Plainno n w h0 h1 hh)
  have LN := Lib.hid (fun w => cand_listno n w h0 h1 hh)
  have RH := fun w => r4_has n w h0 h1
  rw [hh] at RH
  have RH := Lib.hid RH
  have SM := Lib.hid (fun w => r13_same .nil .nil (.slice none 0 0) (.slice none 0 0) 0 0 0 0 0 w (Kids.nought _ _) (Kids.nought _ _) (Nat.zero_le _))
  have E : decide (cmpN 0 0 .nil 0 0 .nil = 0) = true := by decide
  rw [E] at SM
  clear E hh
  go_enter Try.func10, Try.ntmps10
  go_wp2_with fail
  refine (PN.out _).mono ?_
  rintro e w1 ⟨rfl, b1⟩
  obtain ⟨w2, hw2, y0, y1, y2, b2, hs2⟩ := box3 w1 0 0 (.slice none 0 0) 24
  have HW2 := Lib.hid hw2
  have HB := Lib.hid (b1.trans (b2.mono b1.size))
  clear hw2 b1 b2
  go_upto_region 2 with fail
  rw [← HW2.out]
  clear HW2
  go_wp2_with fail
  refine (LN.out _).mono ?_
  rintro e wq ⟨rfl, rfl⟩
  go_wp2_with fail
  refine (RH.out _).mono ?_
  rintro e wq ⟨rfl, rfl⟩
  go_wp2_with fail
  refine (SM.out _).mono ?_
  rintro e w3 ⟨rfl, b3⟩
  go_wp2_with fail
  refine (LV.out _).mono ?_
  rintro e w4 ⟨rfl, b4⟩
  go_wp2_with fail
  go_ret
  exact ⟨rfl, HB.out.trans ((b3.trans (b4.mono b3.size)).mono HB.out.size)⟩
theorem cmp3_self (x : Int) : cmp3 x x = 0 := by unfold cmp3; simp
set_option maxRecDepth 100000 in
set_option maxHeartbeats 8000000 in
theorem yes (n : Nat) (W : World) (hh : hasb n = true) : Calls Try.prog 10 #[.int .i64 (n : Int)] W fun e w' => e = .returned (.bool true) ∧ Below W.heap.size W w' := by
  obtain ⟨h1, h2, -⟩ := hasb_dvd hh
  have LV := Lib.hid (fun w => live19 w)
  have PN := Lib.hid (fun w => cand_Plain n w hh)
  have LN := Lib.hid (fun w => cand_list n w hh)
  have RL := Lib.hid (fun w => r19_list n w (by omega) (by omega))
  have RP := Lib.hid (fun w => r19_plain 16777216 n w (by omega) (by omega) (by omega))
  have RH := fun w => r4_has n w (by omega) (by omega)
  rw [hh] at RH
  have RH := Lib.hid RH
  have SM := Lib.hid (fun (ks : Fo) v v' (k n : Int) lim w (h : Kids w lim v ks) (h' : Kids w lim v' ks) hl => (show Calls Try.prog 20 #[.agg #[.int .i64 k, .int .i64 n, v], .agg #[.int .i64 k, .int .i64 n, v']] w fun e w' => e = .returned (.bool true) ∧ Below w.heap.size w w' by
    have := r13_same ks ks v v' k n k n lim w h h' hl
    rw [decide_eq_true (cmpN_self k n ks)] at this
    exact this))
  have HTOP := Lib.hid (ofL_top (candL n))
  have FLEN := Lib.hid (ofL_len (candL n))
  have hlen : (candL n).length ≤ 1000 := by
    have := fa_len (N := n) (by omega) (by omega)
    have l4 := prsL_len 4 n (prN n)
    have l5 := prsL_len 5 n (pwN n)
    have e4 : (prN n).length = (fa n).length := by unfold prN; rw [List.length_map]
    have e5 : (pwN n).length = (fa n).length := by unfold pwN; rw [List.length_map]
    have o1 := opt_len (n ≤ 64) ⟨1, n, .nil⟩
    have o2 := opt_len (2 ≤ n ∧ n ≤ 5) ⟨2, n, .nil⟩
    have o3 := opt_len (2 ≤ n ∧ pwb n = true) ⟨3, n, .nil⟩
    have o6 := opt_len (3 ≤ n ∧ prb n = true) (oneT 6 n (n - 1))
    have o7 := opt_len (2 ≤ n ∧ n ≤ 8388608) (oneT 7 n (abvN (2 * n - 1)))
    unfold candL
    simp only [List.length_append]
    omega
  generalize plT 16777216 n = D1 at *
  generalize hF : ofL (candL n) = F at *
  generalize candL n = L at *
  obtain ⟨M, hM⟩ : ∃ M, L.length = M := ⟨_, rfl⟩
  rw [hM] at FLEN hlen
  have h2 : n ≤ 16777216 := by omega
  clear hh hF hM h1
  go_enter Try.func10, Try.ntmps10
  go_wp2_with fail
  refine (PN.out _).mono ?_
  rintro e w1 ⟨v1, rfl, hk1, b1⟩
  have hK1 := hk1.to (lim := w1.heap.size) (fun _ hb => hb.1)
  obtain ⟨p1, m1, c1, rfl, _, _, HM1⟩ := hK1.shape
  obtain ⟨w2, hw2, y0, y1, y2, b2, hs2⟩ := box3 w1 D1.k D1.n (.slice p1 m1 c1) 24
  have HW2 := Lib.hid hw2
  have HB := Lib.hid (b1.trans (b2.mono b1.size))
  have HK1 := Lib.hid (hK1.below (Nat.le_refl _) b2)
  have ly : w1.heap.size < w2.heap.size := by omega
  have hl12 : w1.heap.size ≤ w2.heap.size := by omega
  clear hw2 hk1 hK1 b1 b2 HM1
  go_upto_region 2 with fail
  rw [← HW2.out]
  clear HW2
  go_wp2_with fail
  refine (LN.out _).mono ?_
  rintro e w3 ⟨v5, rfl, hO, b3⟩
  have hKL : Kids w3 w3.heap.size v5 F := OwnT.kids (lim := 0) (B := w2.heap.size + 1) (by rw [HTOP.out]; exact hO)
  obtain ⟨p5, c5, rfl, _, _⟩ := hKL.form
  rw [FLEN.out] at hKL ⊢
  have HKL := Lib.hid hKL
  have HB3 := Lib.hid (HB.out.trans (b3.mono HB.out.size))
  have HK3 := Lib.hid (HK1.out.below hl12 b3)
  have x0 := (b3.cell (p := ⟨w1.heap.size, 0, none⟩) ly).trans y0
  have x1 := (b3.cell (p := ⟨w1.heap.size, 1, none⟩) ly).trans y1
  have x2 := (b3.cell (p := ⟨w1.heap.size, 2, none⟩) ly).trans y2
  have hl3 := b3.size
  clear y0 y1 y2 hO hKL b3 HB HK1
  go_wp2_with fail
  refine (RH.out _).mono ?_
  rintro e wq ⟨rfl, rfl⟩
  go_wp2_with fail
  refine (RL.out _).mono ?_
  rintro e w4 ⟨v6, rfl, hO, b4⟩
  have hKL : Kids w4 w4.heap.size v6 F := OwnT.kids (lim := 0) (B := w3.heap.size) (by rw [HTOP.out]; exact hO)
  obtain ⟨p6, c6, rfl, _, _⟩ := hKL.form
  rw [FLEN.out] at hKL ⊢
  have HKM := Lib.hid hKL
  have HKL4 := Lib.hid (HKL.out.below (Nat.le_refl _) b4)
  have HK4 := Lib.hid (HK3.out.below (by omega) b4)
  have ly3 : w1.heap.size < w3.heap.size := by omega
  have z0 := (b4.cell (p := ⟨w1.heap.size, 0, none⟩) ly3).trans x0
  have z1 := (b4.cell (p := ⟨w1.heap.size, 1, none⟩) ly3).trans x1
  have z2 := (b4.cell (p := ⟨w1.heap.size, 2, none⟩) ly3).trans x2
  have HB4 := Lib.hid (HB3.out.trans (b4.mono HB3.out.size))
  have hl4 := b4.size
  clear x0 x1 x2 hO hKL b4 HB3 HKL HK3
  have ly4 : w1.heap.size < w4.heap.size := by omega
  generalize w1.heap.size = X at *
  go_wp2_with fail
  have KC := Lib.hid (fun w (hb : Below w4.heap.size w4 w) => (show w.cell? ⟨X, 0, none⟩ = some (.int .i64 D1.k) ∧ w.cell? ⟨X, 1, none⟩ = some (.int .i64 D1.n) ∧ w.cell? ⟨X, 2, none⟩ = some (.slice p1 m1 c1) from ⟨(hb.cell (p := ⟨X, 0, none⟩) ly4).trans z0, (hb.cell (p := ⟨X, 1, none⟩) ly4).trans z1, (hb.cell (p := ⟨X, 2, none⟩) ly4).trans z2⟩))
  clear z0 z1 z2
  have Bk : Below w4.heap.size w4 w4.drew := (Below.refl _ _).drew
  refine wp_region_held_drew (S := (fun w' => w'.cell? ⟨X, 0, none⟩ = some (.int .i64 D1.k) ∧ w'.cell? ⟨X, 1, none⟩ = some (.int .i64 D1.n) ∧ w'.cell? ⟨X, 2, none⟩ = some (.slice p1 m1 c1))) (by kernel_rfl) (KC.out _ Bk) (fun hHeld => ?_)
  generalize w4.drew = u at *
  refine wpAnyH_take (i := 0) (v := ?v6) rfl (by kernel_rfl) (by kernel_rfl) (by kernel_rfl) (fun _ _ _ h => h) (Or.inl ⟨by kernel_rfl, ?hy6⟩) (by assumption) ?rest6
  case hy6 => intro w hSw; (try dsimp only at hSw); go_simp; (first | done | with_reducible rfl)
  (try simp only [Act.put, List.getElem_toArray, List.getElem_cons_zero, List.getElem_cons_succ, List.setIfInBounds_toArray, List.set_cons_zero, List.set_cons_succ])
  refine wpAnyH_take (i := 1) (v := ?v7) rfl (by kernel_rfl) (by kernel_rfl) (by kernel_rfl) (fun _ _ _ h => h) (Or.inl ⟨by kernel_rfl, ?hy7⟩) (by assumption) ?rest7
  case hy7 => intro w hSw; (try dsimp only at hSw); go_simp; (first | done | with_reducible rfl)
  (try simp only [Act.put, List.getElem_toArray, List.getElem_cons_zero, List.getElem_cons_succ, List.setIfInBounds_toArray, List.set_cons_zero, List.set_cons_succ])
  refine wpAnyH_take (i := 2) (v := ?v8) rfl (by kernel_rfl) (by kernel_rfl) (by kernel_rfl) (fun _ _ _ h => h) (Or.inl ⟨by kernel_rfl, ?hy8⟩) (by assumption) ?rest8
  case hy8 => intro w hSw; (try dsimp only at hSw); go_simp; (first | done | with_reducible rfl)
  (try simp only [Act.put, List.getElem_toArray, List.getElem_cons_zero, List.getElem_cons_succ, List.setIfInBounds_toArray, List.set_cons_zero, List.set_cons_succ])
  refine wpAnyH_take (i := 3) (v := ?v9) rfl (by kernel_rfl) (by kernel_rfl) (by kernel_rfl) (fun _ _ _ h => h) (Or.inl ⟨by kernel_rfl, ?hy9⟩) (by assumption) ?rest9
  case hy9 => intro w hSw; (try dsimp only at hSw); go_simp; (first | done | with_reducible rfl)
  (try simp only [Act.put, List.getElem_toArray, List.getElem_cons_zero, List.getElem_cons_succ, List.setIfInBounds_toArray, List.set_cons_zero, List.set_cons_succ])
  refine wpAnyH_take (i := 4) (v := ?v10) rfl (by kernel_rfl) (by kernel_rfl) (by kernel_rfl) (fun _ _ _ h => h) (Or.inl ⟨by kernel_rfl, ?hy10⟩) (by assumption) ?rest10
  case hy10 => intro w hSw; (try dsimp only at hSw); go_simp; (first | done | with_reducible rfl)
  (try simp only [Act.put, List.getElem_toArray, List.getElem_cons_zero, List.getElem_cons_succ, List.setIfInBounds_toArray, List.set_cons_zero, List.set_cons_succ])
  refine wpAnyH_take (i := 5) (v := ?v11) rfl (by kernel_rfl) (by kernel_rfl) (by kernel_rfl) (fun _ _ _ h => h) (Or.inl ⟨by kernel_rfl, ?hy11⟩) (by assumption) ?rest11
  case hy11 => intro w hSw; (try dsimp only at hSw); go_simp; (first | done | with_reducible rfl)
  (try simp only [Act.put, List.getElem_toArray, List.getElem_cons_zero, List.getElem_cons_succ, List.setIfInBounds_toArray, List.set_cons_zero, List.set_cons_succ])
  refine wpAnyH_take (i := 6) (v := ?v12) rfl (by kernel_rfl) (by kernel_rfl) (by kernel_rfl) (fun _ _ _ h => h) (Or.inl ⟨by kernel_rfl, ?hy12⟩) (by assumption) ?rest12
  case hy12 => intro w hSw; (try dsimp only at hSw); go_simp; (first | done | with_reducible rfl)
  (try simp only [Act.put, List.getElem_toArray, List.getElem_cons_zero, List.getElem_cons_succ, List.setIfInBounds_toArray, List.set_cons_zero, List.set_cons_succ])
  refine wpAnyH_take (i := 7) (v := ?v13) rfl (by kernel_rfl) (by kernel_rfl) (by kernel_rfl) (fun _ _ _ h => h) (Or.inl ⟨by kernel_rfl, ?hy13⟩) (by assumption) ?rest13
  case hy13 => intro w hSw; (try dsimp only at hSw); go_simp; (first | done | with_reducible rfl)
  (try simp only [Act.put, List.getElem_toArray, List.getElem_cons_zero, List.getElem_cons_succ, List.setIfInBounds_toArray, List.set_cons_zero, List.set_cons_succ])
  refine wpAnyH_take (i := 8) (v := ?v14) rfl (by kernel_rfl) (by kernel_rfl) (by kernel_rfl) (fun _ _ _ h => h) (Or.inl ⟨by kernel_rfl, ?hy14⟩) (by assumption) ?rest14
  case hy14 => intro w hSw; (try dsimp only at hSw); go_simp; (first | done | with_reducible rfl)
  (try simp only [Act.put, List.getElem_toArray, List.getElem_cons_zero, List.getElem_cons_succ, List.setIfInBounds_toArray, List.set_cons_zero, List.set_cons_succ])
  refine wpAnyH_ready (rs := [9]) (by kernel_rfl) (by simp) ?_
  refine AllReadyH.cons rfl (fun K hK => ?_) AllReadyH.nil
  go_simp
  refine (RP.out _).mono ?_
  rintro e ux ⟨v7, rfl, hk7, bx⟩
  have hK7 := hk7.to (lim := ux.heap.size) (fun _ hb => hb.1)
  obtain ⟨p7, m7, c7, rfl, _, _, _⟩ := hK7.shape
  (try go_wp2_with fail)
  have Bk2 := Bk.trans (bx.mono Bk.size)
  refine hK.out _ _ (KC.out _ Bk2) (fun hHeld2 => ?_)
  clear hK K hHeld
  have hHeld := hHeld2
  clear hHeld2
  (try simp only [Act.put, List.getElem_toArray, List.getElem_cons_zero, List.getElem_cons_succ, List.setIfInBounds_toArray, List.set_cons_zero, List.set_cons_succ])
  have S7 := Lib.hid (SM.out D1.ks (.slice p1 m1 c1) (.slice p7 m7 c7) D1.k D1.n ux.heap.size ux ((HK4.out.below (by omega) Bk2).mono (by have := Bk2.size; omega)) hK7 (Nat.le_refl _))
  clear hK7 hk7 Bk bx
  have Bk := Bk2
  clear Bk2
  refine wpAnyH_ready (rs := [10]) (by kernel_rfl) (by simp) ?_
  refine AllReadyH.cons rfl (fun K hK => ?_) AllReadyH.nil
  go_simp
  refine S7.out.mono ?_
  rintro e uy ⟨rfl, bx⟩
  (try go_wp2_with fail)
  have Bk2 := Bk.trans (bx.mono Bk.size)
  refine hK.out _ _ (KC.out _ Bk2) (fun hHeld2 => ?_)
  clear hK K hHeld
  have hHeld := hHeld2
  clear hHeld2
  (try simp only [Act.put, List.getElem_toArray, List.getElem_cons_zero, List.getElem_cons_succ, List.setIfInBounds_toArray, List.set_cons_zero, List.set_cons_succ])
  clear Bk bx S7
  have Bk := Bk2
  clear Bk2
  generalize uy = u2 at *
  refine wpAnyH_take (i := 11) (v := ?v15) rfl (by kernel_rfl) (by kernel_rfl) (by kernel_rfl) (fun _ _ _ h => h) (Or.inl ⟨by kernel_rfl, ?hy15⟩) (by assumption) ?rest15
  case hy15 => intro w hSw; (try dsimp only at hSw); go_simp; (first | done | with_reducible rfl)
  (try simp only [Act.put, List.getElem_toArray, List.getElem_cons_zero, List.getElem_cons_succ, List.setIfInBounds_toArray, List.set_cons_zero, List.set_cons_succ])
  refine wpAnyH_take (i := 12) (v := ?v16) rfl (by kernel_rfl) (by kernel_rfl) (by kernel_rfl) (fun _ _ _ h => h) (Or.inl ⟨by kernel_rfl, ?hy16⟩) (by assumption) ?rest16
  case hy16 => intro w hSw; (try dsimp only at hSw); go_simp; (first | done | with_reducible rfl)
  (try simp only [Act.put, List.getElem_toArray, List.getElem_cons_zero, List.getElem_cons_succ, List.setIfInBounds_toArray, List.set_cons_zero, List.set_cons_succ])
  refine wpAnyH_take (i := 13) (v := ?v17) rfl (by kernel_rfl) (by kernel_rfl) (by kernel_rfl) (fun _ _ _ h => h) (Or.inl ⟨by kernel_rfl, ?hy17⟩) (by assumption) ?rest17
  case hy17 => intro w hSw; (try dsimp only at hSw); go_simp; (first | done | with_reducible rfl)
  (try simp only [Act.put, List.getElem_toArray, List.getElem_cons_zero, List.getElem_cons_succ, List.setIfInBounds_toArray, List.set_cons_zero, List.set_cons_succ])
  refine wpAnyH_take (i := 14) (v := ?v18) rfl (by kernel_rfl) (by kernel_rfl) (by kernel_rfl) (fun _ _ _ h => h) (Or.inl ⟨by kernel_rfl, ?hy18⟩) (by assumption) ?rest18
  case hy18 => intro w hSw; (try dsimp only at hSw); go_simp; (first | done | with_reducible rfl)
  (try simp only [Act.put, List.getElem_toArray, List.getElem_cons_zero, List.getElem_cons_succ, List.setIfInBounds_toArray, List.set_cons_zero, List.set_cons_succ])
  refine wpAnyH_take (i := 15) (v := ?v19) rfl (by kernel_rfl) (by kernel_rfl) (by kernel_rfl) (fun _ _ _ h => h) (Or.inl ⟨by kernel_rfl, ?hy19⟩) (by assumption) ?rest19
  case hy19 => intro w hSw; (try dsimp only at hSw); go_simp; (first | done | with_reducible rfl)
  (try simp only [Act.put, List.getElem_toArray, List.getElem_cons_zero, List.getElem_cons_succ, List.setIfInBounds_toArray, List.set_cons_zero, List.set_cons_succ])
  refine wpAnyH_take (i := 16) (v := ?v20) rfl (by kernel_rfl) (by kernel_rfl) (by kernel_rfl) (fun _ _ _ h => h) (Or.inl ⟨by kernel_rfl, ?hy20⟩) (by assumption) ?rest20
  case hy20 => intro w hSw; (try dsimp only at hSw); go_simp; (first | done | with_reducible rfl)
  (try simp only [Act.put, List.getElem_toArray, List.getElem_cons_zero, List.getElem_cons_succ, List.setIfInBounds_toArray, List.set_cons_zero, List.set_cons_succ])
  refine wpAnyH_take (i := 17) (v := ?v21) rfl (by kernel_rfl) (by kernel_rfl) (by kernel_rfl) (fun _ _ _ h => h) (Or.inl ⟨by kernel_rfl, ?hy21⟩) (by assumption) ?rest21
  case hy21 => intro w hSw; (try dsimp only at hSw); go_simp; (first | done | with_reducible rfl)
  (try simp only [Act.put, List.getElem_toArray, List.getElem_cons_zero, List.getElem_cons_succ, List.setIfInBounds_toArray, List.set_cons_zero, List.set_cons_succ])
  refine wpAnyH_take (i := 18) (v := ?v22) rfl (by kernel_rfl) (by kernel_rfl) (by kernel_rfl) (fun _ _ _ h => h) (Or.inl ⟨by kernel_rfl, ?hy22⟩) (by assumption) ?rest22
  case hy22 => intro w hSw; (try dsimp only at hSw); go_simp; (first | done | with_reducible rfl)
  (try simp only [Act.put, List.getElem_toArray, List.getElem_cons_zero, List.getElem_cons_succ, List.setIfInBounds_toArray, List.set_cons_zero, List.set_cons_succ])
  refine wpAnyH_take (i := 19) (v := ?v23) rfl (by kernel_rfl) (by kernel_rfl) (by kernel_rfl) (fun _ _ _ h => h) (Or.inl ⟨by kernel_rfl, ?hy23⟩) (by assumption) ?rest23
  case hy23 => intro w hSw; (try dsimp only at hSw); go_simp; (first | done | with_reducible rfl)
  (try simp only [Act.put, List.getElem_toArray, List.getElem_cons_zero, List.getElem_cons_succ, List.setIfInBounds_toArray, List.set_cons_zero, List.set_cons_succ])
  refine wpAnyH_done (by kernel_rfl) ?_ _
  go_wp2_with fail
  go_loopw [8] (fun x wr => ∃ i : Nat, i ≤ M ∧ x = .int .i64 i ∧ Hid (Below w4.heap.size w4 wr)) (fun x _ => M - (intOf x).toNat)
  case atStart => exact ⟨0, Nat.zero_le _, rfl, Lib.hid Bk⟩
  case round =>
    clear Bk
    obtain ⟨i, hi, rfl, HBw⟩ := hrel
    by_cases hlt : i < M
    · obtain ⟨ab, ao, av, rfl, hab, a0, a1, a2, hKa⟩ := (HKL4.out.below (by omega) HBw.out).get hlt
      obtain ⟨bb, bo, bv, rfl, hbb, b0, b1, b2, hKb⟩ := (HKM.out.below (Nat.le_refl _) HBw.out).get hlt
      obtain ⟨ap, am, ac, rfl, _, _, HA⟩ := hKa.shape
      obtain ⟨bp, bm, bc, rfl, _, _, HBb⟩ := hKb.shape
      have dd : decide ((i : Int) < (M : Int)) = true := decide_eq_true (by omega)
      have SMi := Lib.hid (fun w' (hb : Below wr.heap.size wr w') => SM.out (F.kids i) _ _ (F.k i) (F.n i) w4.heap.size w' (((hKa.mono (by omega)).below (by have := HBw.out.size; omega) hb)) ((hKb.below (by have := HBw.out.size; omega) hb)) (by have := HBw.out.size; have := hb.size; omega))
      have KI := Lib.hid (fun w' (hb : Below wr.heap.size wr w') => (show w'.cell? ⟨ab, ao + i * 3, none⟩ = some (.int .i64 (F.k i)) ∧ w'.cell? ⟨ab, ao + i * 3 + 1, none⟩ = some (.int .i64 (F.n i)) ∧ w'.cell? ⟨ab, ao + i * 3 + 2, none⟩ = some (.slice ap am ac) ∧ w'.cell? ⟨bb, bo + i * 3, none⟩ = some (.int .i64 (F.k i)) ∧ w'.cell? ⟨bb, bo + i * 3 + 1, none⟩ = some (.int .i64 (F.n i)) ∧ w'.cell? ⟨bb, bo + i * 3 + 2, none⟩ = some (.slice bp bm bc) ∧ Below wr.heap.size wr w' from
        ⟨(hb.cell (p := ⟨ab, _, none⟩) (block_lt_of_cell a0)).trans a0, (hb.cell (p := ⟨ab, _, none⟩) (block_lt_of_cell a1)).trans a1, (hb.cell (p := ⟨ab, _, none⟩) (block_lt_of_cell a2)).trans a2, (hb.cell (p := ⟨bb, _, none⟩) (block_lt_of_cell b0)).trans b0, (hb.cell (p := ⟨bb, _, none⟩) (block_lt_of_cell b1)).trans b1, (hb.cell (p := ⟨bb, _, none⟩) (block_lt_of_cell b2)).trans b2, hb⟩))
      generalize F.k i = fk at *
      generalize F.n i = fn at *
      clear a0 a1 a2 b0 b1 b2 hKa hKb HA HBb
      go_wp2_with fail
      have Bk : Below wr.heap.size wr wr.drew := (Below.refl _ _).drew
      refine wp_region_held_drew (S := (fun w' => w'.cell? ⟨ab, ao + i * 3, none⟩ = some (.int .i64 fk) ∧ w'.cell? ⟨ab, ao + i * 3 + 1, none⟩ = some (.int .i64 fn) ∧ w'.cell? ⟨ab, ao + i * 3 + 2, none⟩ = some (.slice ap am ac) ∧ w'.cell? ⟨bb, bo + i * 3, none⟩ = some (.int .i64 fk) ∧ w'.cell? ⟨bb, bo + i * 3 + 1, none⟩ = some (.int .i64 fn) ∧ w'.cell? ⟨bb, bo + i * 3 + 2, none⟩ = some (.slice bp bm bc) ∧ Below wr.heap.size wr w')) (by kernel_rfl) (KI.out _ Bk) (fun hHeld => ?_)
      generalize wr.drew = u at *
      refine wpAnyH_take (i := 0) (v := ?v24) rfl (by kernel_rfl) (by kernel_rfl) (by kernel_rfl) (fun _ _ _ h => h) (Or.inl ⟨by kernel_rfl, ?hy24⟩) (by assumption) ?rest24
      case hy24 => intro w hSw; (try dsimp only at hSw); go_simp; (first | done | with_reducible rfl)
      (try simp only [Act.put, List.getElem_toArray, List.getElem_cons_zero, List.getElem_cons_succ, List.setIfInBounds_toArray, List.set_cons_zero, List.set_cons_succ])
      refine wpAnyH_take (i := 1) (v := ?v25) rfl (by kernel_rfl) (by kernel_rfl) (by kernel_rfl) (fun _ _ _ h => h) (Or.inl ⟨by kernel_rfl, ?hy25⟩) (by assumption) ?rest25
      case hy25 => intro w hSw; (try dsimp only at hSw); go_simp; (first | done | with_reducible rfl)
      (try simp only [Act.put, List.getElem_toArray, List.getElem_cons_zero, List.getElem_cons_succ, List.setIfInBounds_toArray, List.set_cons_zero, List.set_cons_succ])
      refine wpAnyH_take (i := 2) (v := ?v26) rfl (by kernel_rfl) (by kernel_rfl) (by kernel_rfl) (fun _ _ _ h => h) (Or.inl ⟨by kernel_rfl, ?hy26⟩) (by assumption) ?rest26
      case hy26 => intro w hSw; (try dsimp only at hSw); go_simp; (first | done | with_reducible rfl)
      (try simp only [Act.put, List.getElem_toArray, List.getElem_cons_zero, List.getElem_cons_succ, List.setIfInBounds_toArray, List.set_cons_zero, List.set_cons_succ])
      refine wpAnyH_take (i := 3) (v := ?v27) rfl (by kernel_rfl) (by kernel_rfl) (by kernel_rfl) (fun _ _ _ h => h) (Or.inl ⟨by kernel_rfl, ?hy27⟩) (by assumption) ?rest27
      case hy27 => intro w hSw; (try dsimp only at hSw); go_simp; (first | done | with_reducible rfl)
      (try simp only [Act.put, List.getElem_toArray, List.getElem_cons_zero, List.getElem_cons_succ, List.setIfInBounds_toArray, List.set_cons_zero, List.set_cons_succ])
      refine wpAnyH_take (i := 4) (v := ?v28) rfl (by kernel_rfl) (by kernel_rfl) (by kernel_rfl) (fun _ _ _ h => h) (Or.inl ⟨by kernel_rfl, ?hy28⟩) (by assumption) ?rest28
      case hy28 => intro w hSw; (try dsimp only at hSw); go_simp; (first | done | with_reducible rfl)
      (try simp only [Act.put, List.getElem_toArray, List.getElem_cons_zero, List.getElem_cons_succ, List.setIfInBounds_toArray, List.set_cons_zero, List.set_cons_succ])
      refine wpAnyH_take (i := 5) (v := ?v29) rfl (by kernel_rfl) (by kernel_rfl) (by kernel_rfl) (fun _ _ _ h => h) (Or.inl ⟨by kernel_rfl, ?hy29⟩) (by assumption) ?rest29
      case hy29 => intro w hSw; (try dsimp only at hSw); go_simp; (first | done | with_reducible rfl)
      (try simp only [Act.put, List.getElem_toArray, List.getElem_cons_zero, List.getElem_cons_succ, List.setIfInBounds_toArray, List.set_cons_zero, List.set_cons_succ])
      refine wpAnyH_take (i := 6) (v := ?v30) rfl (by kernel_rfl) (by kernel_rfl) (by kernel_rfl) (fun _ _ _ h => h) (Or.inl ⟨by kernel_rfl, ?hy30⟩) (by assumption) ?rest30
      case hy30 => intro w hSw; (try dsimp only at hSw); go_simp; (first | done | with_reducible rfl)
      (try simp only [Act.put, List.getElem_toArray, List.getElem_cons_zero, List.getElem_cons_succ, List.setIfInBounds_toArray, List.set_cons_zero, List.set_cons_succ])
      refine wpAnyH_take (i := 7) (v := ?v31) rfl (by kernel_rfl) (by kernel_rfl) (by kernel_rfl) (fun _ _ _ h => h) (Or.inl ⟨by kernel_rfl, ?hy31⟩) (by assumption) ?rest31
      case hy31 => intro w hSw; (try dsimp only at hSw); go_simp; (first | done | with_reducible rfl)
      (try simp only [Act.put, List.getElem_toArray, List.getElem_cons_zero, List.getElem_cons_succ, List.setIfInBounds_toArray, List.set_cons_zero, List.set_cons_succ])
      refine wpAnyH_ready (rs := [8]) (by kernel_rfl) (by simp) ?_
      refine AllReadyH.cons rfl (fun K hK => ?_) AllReadyH.nil
      go_simp
      refine (SMi.out _ Bk).mono ?_
      rintro e ux ⟨rfl, bx⟩
      (try go_wp2_with fail)
      have Bk2 := Bk.trans (bx.mono Bk.size)
      refine hK.out _ _ (KI.out _ Bk2) (fun hHeld2 => ?_)
      clear hK K hHeld
      have hHeld := hHeld2
      clear hHeld2
      (try simp only [Act.put, List.getElem_toArray, List.getElem_cons_zero, List.getElem_cons_succ, List.setIfInBounds_toArray, List.set_cons_zero, List.set_cons_succ])
      clear Bk bx
      have Bk := Bk2
      clear Bk2
      refine wpAnyH_take (i := 9) (v := ?v32) rfl (by kernel_rfl) (by kernel_rfl) (by kernel_rfl) (fun _ _ _ h => h) (Or.inl ⟨by kernel_rfl, ?hy32⟩) (by assumption) ?rest32
      case hy32 => intro w hSw; (try dsimp only at hSw); go_simp; (first | done | with_reducible rfl)
      (try simp only [Act.put, List.getElem_toArray, List.getElem_cons_zero, List.getElem_cons_succ, List.setIfInBounds_toArray, List.set_cons_zero, List.set_cons_succ])
      refine wpAnyH_done (by kernel_rfl) ?_ _
      go_wp2_with fail
      go_roundw
      case rel => exact ⟨i + 1, by omega, by go_num, Lib.hid (HBw.out.trans (Bk.mono HBw.out.size))⟩
      case measure => (first | (simp [intOf]; done) | (simp [intOf]; omega) | (simp only [intOf]; omega))
    · obtain rfl : i = M := by omega
      have dd : decide ((i : Int) < (i : Int)) = false := decide_eq_false (by omega)
      go_wp2_with fail
      refine (LV.out _).mono ?_
      rintro e w9 ⟨rfl, b9⟩
      go_wp2_with fail
      go_ret
      exact ⟨rfl, HB4.out.trans ((HBw.out.trans (b9.mono HBw.out.size)).mono HB4.out.size)⟩
theorem walk (W : World) (a0 : Int) (w0 : -9223372036854775808 ≤ a0 ∧ a0 ≤ 9223372036854775807) :
    Calls Try.prog 10 #[.int .i64 a0] W fun e W' => e = .returned (.bool true) ∧ Below W.heap.size W W' := by
  cases hh : hasb a0 with
  | false => exact no a0 W w0.1 w0.2 hh
  | true =>
    obtain ⟨n, rfl⟩ : ∃ n : Nat, a0 = n := ⟨a0.toNat, by have := (hasb_dvd hh).1; omega⟩
    exact yes n W hh
end candTells
end Go.Proofs.Ytfjioflggkmhcaa
