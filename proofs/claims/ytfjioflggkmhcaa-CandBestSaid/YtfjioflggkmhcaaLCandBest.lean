/- CandBest: one of them all, that of the least work, or that it is no size. -/
import Derived.Test.YtfjioflggkmhcaaCandl
namespace Go.Proofs.Ytfjioflggkmhcaa
open Go.ChangeShapes Go.WideShapes Go.ChangeAt Go.RowKit
set_option linter.unusedVariables false
set_option linter.unusedSimpArgs false
namespace candBest
set_option maxRecDepth 100000 in
set_option maxHeartbeats 4000000 in
theorem no (n : Int) (W : World) (h0 : -9223372036854775808 ≤ n) (h1 : n ≤ 9223372036854775807) (hh : hasb n = false) : Calls Try.prog 12 #[.int .i64 n] W fun e w' => e = .returned (.bool true) ∧ Below W.heap.size W w' := by
  have LV := Lib.hid (fun w => live19 w)
  have BN := Lib.hid (fun w => cand_bestno n w h0 h1 hh)
  have RH := fun w => r4_has n w h0 h1
  rw [hh] at RH
  have RH := Lib.hid RH
  have SM := Lib.hid (fun w => r13_same .nil .nil (.slice none 0 0) (.slice none 0 0) 0 0 0 0 0 w (Kids.nought _ _) (Kids.nought _ _) (Nat.zero_le _))
  have E : decide (cmpN 0 0 .nil 0 0 .nil = 0) = true := by decide
  rw [E] at SM
  clear E hh
  go_enter Try.func12, Try.ntmps12
  go_wp2_with fail
  refine (BN.out _).mono ?_
  rintro e w1 ⟨rfl, b1⟩
  obtain ⟨w2, hw2, y0, y1, y2, b2, hs2⟩ := box3 w1 0 0 (.slice none 0 0) 24
  have HW2 := Lib.hid hw2
  have HB := Lib.hid (b1.trans (b2.mono b1.size))
  clear hw2 b1 b2
  go_upto_region 2 with fail
  rw [← HW2.out]
  clear HW2
  go_wp2_with fail
  refine (RH.out _).mono ?_
  rintro e wq ⟨rfl, rfl⟩
  go_wp2_with fail
  refine (SM.out _).mono ?_
  rintro e w3 ⟨rfl, b3⟩
  go_wp2_with fail
  refine (LV.out _).mono ?_
  rintro e w4 ⟨rfl, b4⟩
  go_wp2_with fail
  go_ret
  exact ⟨rfl, HB.out.trans ((b3.trans (b4.mono b3.size)).mono HB.out.size)⟩
set_option maxRecDepth 100000 in
set_option maxHeartbeats 8000000 in
theorem yes (n : Nat) (W : World) (hh : hasb n = true) : Calls Try.prog 12 #[.int .i64 (n : Int)] W fun e w' => e = .returned (.bool true) ∧ Below W.heap.size W w' := by
  obtain ⟨h1, h2, -⟩ := hasb_dvd hh
  obtain ⟨M, a, eL, r1, r2, FLEN, ha, hs, wf, hN, HO, HMIN⟩ := best_of hh
  have LV := Lib.hid (fun w => live19 w)
  have RL := Lib.hid (fun w => r19_list n w (by omega) (by omega))
  have RH := fun w => r4_has n w (by omega) (by omega)
  rw [hh] at RH
  have RH := Lib.hid RH
  have BN := Lib.hid (fun w => cand_best n w hh (ofL (candL n)) (ofL_top _) a M FLEN ha hs wf hN)
  have HTOP := Lib.hid (ofL_top (candL n))
  generalize ofL (candL n) = F at *
  generalize candL n = L at *
  obtain ⟨E, hE⟩ : ∃ E : Nat → Int, ∀ i, estN (F.k i) (F.n i) (F.kids i) = E i := ⟨fun i => estN (F.k i) (F.n i) (F.kids i), fun _ => rfl⟩
  obtain ⟨g1, g2⟩ := chkd_ok (HO a ha).1
  have hE1 := (estN_rng g1 g2).1
  rw [hE] at hE1
  have HM := Lib.hid (fun j (hj : j < M) => (show E a ≤ E j by have := HMIN j hj; rwa [hE, hE] at this))
  have CE := Lib.hid (fun v lim w (hK : Kids w lim v (F.kids a)) (hl : lim ≤ w.heap.size) => (show Calls Try.prog 32 #[.agg #[.int .i64 (F.k a), .int .i64 (F.n a), v]] w fun e w' => e = .returned (.tuple #[.int .i64 (E a), .int .i64 0]) ∧ Below w.heap.size w w' by
    obtain ⟨o2, o3, o4, o5, o6⟩ := HO a ha
    have := cost_top (F.kids a) v (F.k a) (F.n a) lim w (by omega) hK hl o4 o5
    rwa [show costE (F.k a) (F.n a) (F.kids a) = E a by rw [← hE]; exact if_pos o2, o2] at this))
  have EI := Lib.hid (fun i (hi : i < M) v lim w (hK : Kids w lim v (F.kids i)) (hl : lim ≤ w.heap.size) => (show Calls Try.prog 34 #[.agg #[.int .i64 (F.k i), .int .i64 (F.n i), v]] w fun e w' => e = .returned (.int .i64 (E i)) ∧ Below w.heap.size w w' by
    obtain ⟨g1, g2⟩ := chkd_ok (HO i hi).1
    have := r18_est (F.kids i).cnt (F.kids i) (F.k i) (F.n i) v lim w (Nat.le_refl _) hK hl g1 g2
    rwa [hE] at this))
  have LE := Lib.hid (fun v lim w (hK : Kids w lim v F) hl => (show Calls Try.prog 38 #[v] w fun e w' => e = .returned (.int .i64 (a : Int)) ∧ Below w.heap.size w w' by
    have := r18_least F v lim w hK hl wf hN
    rwa [FLEN, hs] at this))
  have SM := Lib.hid (fun i j v v' lim w (h : Kids w lim v (F.kids i)) (h' : Kids w lim v' (F.kids j)) hl => (show ∃ t : Bool, Hid (i = j → t = true) ∧ Calls Try.prog 20 #[.agg #[.int .i64 (F.k i), .int .i64 (F.n i), v], .agg #[.int .i64 (F.k j), .int .i64 (F.n j), v']] w fun e w' => e = .returned (.bool t) ∧ Below w.heap.size w w' from
    ⟨_, Lib.hid (fun e => by subst e; exact decide_eq_true (cmpN_self _ _ _)), r13_same (F.kids i) (F.kids j) v v' (F.k i) (F.n i) (F.k j) (F.n j) lim w h h' hl⟩))
  have HFL := Lib.hid FLEN
  have HE1 := Lib.hid hE1
  clear hE HO HMIN hs wf hN hh eL g1 g2 h1 h2 FLEN hE1
  obtain ⟨ka, hka⟩ : ∃ ka, F.k a = ka := ⟨_, rfl⟩
  obtain ⟨na, hna⟩ : ∃ na, F.n a = na := ⟨_, rfl⟩
  have HKA := Lib.hid hka
  have HNA := Lib.hid hna
  rw [hka, hna] at BN CE
  clear hka hna
  go_enter Try.func12, Try.ntmps12
  go_wp2_with fail
  refine (BN.out _).mono ?_
  rintro e w1 ⟨p1, m1, c1, rfl, hk1, b1⟩
  obtain ⟨w2, hw2, y0, y1, y2, b2, hs2⟩ := box3 w1 ka na (.slice p1 m1 c1) 24
  have HW2 := Lib.hid hw2
  have HB := Lib.hid (b1.trans (b2.mono b1.size))
  have HK2 := Lib.hid (hk1.below (Nat.le_refl _) b2)
  have ly : w1.heap.size < w2.heap.size := by omega
  clear hw2 hk1 b1 b2 hs2
  go_upto_region 2 with fail
  rw [← HW2.out]
  clear HW2
  go_wp2_with fail
  refine (RH.out _).mono ?_
  rintro e wq ⟨rfl, rfl⟩
  go_wp2_with fail
  refine (RL.out _).mono ?_
  rintro e w3 ⟨v5, rfl, hOw, b3⟩
  have hKL : Kids w3 w3.heap.size v5 F := OwnT.kids (lim := 0) (B := w2.heap.size) (by rw [HTOP.out]; exact hOw)
  obtain ⟨p5, c5, rfl, _, _⟩ := hKL.form
  rw [HFL.out] at hKL ⊢
  have HKL := Lib.hid hKL
  have HB3 := Lib.hid (HB.out.trans (b3.mono HB.out.size))
  have HK3 := Lib.hid ((HK2.out.below (by omega) b3).mono (show w1.heap.size ≤ w3.heap.size by have := b3.size; omega))
  have x0 := (b3.cell (p := ⟨w1.heap.size, 0, none⟩) ly).trans y0
  have x1 := (b3.cell (p := ⟨w1.heap.size, 1, none⟩) ly).trans y1
  have x2 := (b3.cell (p := ⟨w1.heap.size, 2, none⟩) ly).trans y2
  have ly3 : w1.heap.size < w3.heap.size := by have := b3.size; omega
  have CEi := Lib.hid (CE.out _ w3.heap.size w3 HK3.out (Nat.le_refl _))
  clear y0 y1 y2 hOw hKL b3 HB HK2 ly
  go_wp2_with fail
  refine CEi.out.mono ?_
  rintro e w4 ⟨rfl, b4⟩
  have HKL4 := Lib.hid (HKL.out.below (Nat.le_refl _) b4)
  have HK4 := Lib.hid (HK3.out.below (Nat.le_refl _) b4)
  have HB4 := Lib.hid (HB3.out.trans (b4.mono HB3.out.size))
  have z0 := (b4.cell (p := ⟨w1.heap.size, 0, none⟩) ly3).trans x0
  have z1 := (b4.cell (p := ⟨w1.heap.size, 1, none⟩) ly3).trans x1
  have z2 := (b4.cell (p := ⟨w1.heap.size, 2, none⟩) ly3).trans x2
  have hl4 := b4.size
  have ly4 : w1.heap.size < w4.heap.size := by omega
  generalize w1.heap.size = X at *
  have KC := Lib.hid (fun w (hb : Below w4.heap.size w4 w) => (show w.cell? ⟨X, 0, none⟩ = some (.int .i64 ka) ∧ w.cell? ⟨X, 1, none⟩ = some (.int .i64 na) ∧ w.cell? ⟨X, 2, none⟩ = some (.slice p1 m1 c1) from ⟨(hb.cell (p := ⟨X, 0, none⟩) ly4).trans z0, (hb.cell (p := ⟨X, 1, none⟩) ly4).trans z1, (hb.cell (p := ⟨X, 2, none⟩) ly4).trans z2⟩))
  clear x0 x1 x2 z0 z1 z2 b4 HB3 HK3 HKL CEi ly3
  go_wp2_with fail
  go_loopw [8, 9] (fun x y wr => ∃ (i : Nat) (t : Bool), i ≤ M ∧ x = .bool t ∧ y = .int .i64 i ∧ Hid (a < i → t = true) ∧ Hid (Below w4.heap.size w4 wr)) (fun _ y _ => M - (intOf y).toNat)
  case atStart => exact ⟨0, false, Nat.zero_le _, rfl, rfl, Lib.hid (fun h => absurd h (Nat.not_lt_zero _)), Lib.hid (Below.refl _ _)⟩
  case round =>
    obtain ⟨i, t, hi, rfl, rfl, HT, HBw⟩ := hrel
    have hsw := HBw.out.size
    by_cases hlt : i < M
    · obtain ⟨ab, ao, av, rfl, hab, a0, a1, a2, hKa⟩ := (HKL4.out.below (by omega) HBw.out).get hlt
      obtain ⟨ap, am, ac, rfl, _, _, HAp⟩ := hKa.shape
      have dd : decide ((i : Int) < (M : Int)) = true := decide_eq_true (by omega)
      have de : decide (E i < E a) = false := decide_eq_false (by have := HM.out i hlt; omega)
      have EIi := Lib.hid (fun w' (hb : Below wr.heap.size wr w') => EI.out i hlt (.slice ap am ac) w3.heap.size w' (hKa.below (by omega) hb) (by have := hb.size; omega))
      have SMi := Lib.hid (fun w' (hb : Below wr.heap.size wr w') => (show ∃ t : Bool, Hid (i = a → t = true) ∧ Calls Try.prog 20 #[.agg #[.int .i64 (F.k i), .int .i64 (F.n i), .slice ap am ac], .agg #[.int .i64 ka, .int .i64 na, .slice p1 m1 c1]] w' fun e w'' => e = .returned (.bool t) ∧ Below w'.heap.size w' w'' by
        have := SM.out i a _ _ w3.heap.size w' (hKa.below (by omega) hb) (HK4.out.below hl4 (HBw.out.trans (hb.mono hsw))) (by have := hb.size; omega)
        rwa [HKA.out, HNA.out] at this))
      have KI := Lib.hid (fun w' (hb : Below wr.heap.size wr w') => (show w'.cell? ⟨ab, ao + i * 3, none⟩ = some (.int .i64 (F.k i)) ∧ w'.cell? ⟨ab, ao + i * 3 + 1, none⟩ = some (.int .i64 (F.n i)) ∧ w'.cell? ⟨ab, ao + i * 3 + 2, none⟩ = some (.slice ap am ac) ∧ Below wr.heap.size wr w' from
        ⟨(hb.cell (p := ⟨ab, _, none⟩) (block_lt_of_cell a0)).trans a0, (hb.cell (p := ⟨ab, _, none⟩) (block_lt_of_cell a1)).trans a1, (hb.cell (p := ⟨ab, _, none⟩) (block_lt_of_cell a2)).trans a2, hb⟩))
      generalize F.k i = fk at *
      generalize F.n i = fn at *
      generalize hei : E i = ei at *
      clear a0 a1 a2 hKa HAp hei
      have KF := Lib.hid (fun w' (hb : Below wr.heap.size wr w') => (show w'.cell? ⟨X, 0, none⟩ = some (.int .i64 ka) ∧ w'.cell? ⟨X, 1, none⟩ = some (.int .i64 na) ∧ w'.cell? ⟨X, 2, none⟩ = some (.slice p1 m1 c1) ∧ w'.cell? ⟨ab, ao + i * 3, none⟩ = some (.int .i64 fk) ∧ w'.cell? ⟨ab, ao + i * 3 + 1, none⟩ = some (.int .i64 fn) ∧ w'.cell? ⟨ab, ao + i * 3 + 2, none⟩ = some (.slice ap am ac) ∧ Below wr.heap.size wr w' from
        ⟨(KC.out w' (HBw.out.trans (hb.mono hsw))).1, (KC.out w' (HBw.out.trans (hb.mono hsw))).2.1, (KC.out w' (HBw.out.trans (hb.mono hsw))).2.2, (KI.out w' hb).1, (KI.out w' hb).2.1, (KI.out w' hb).2.2.1, hb⟩))
      cases t with
      | true =>
        clear KF SMi
        go_wp2_with fail
        have Bk : Below wr.heap.size wr wr.drew := (Below.refl _ _).drew
        refine wp_region_held_drew (S := (fun w' => Below wr.heap.size wr w')) (by kernel_rfl) Bk (fun hHeld => ?_)
        generalize wr.drew = u at *
        refine wpAnyH_take (i := 0) (v := ?v6) rfl (by kernel_rfl) (by kernel_rfl) (by kernel_rfl) (fun _ _ _ h => h) (Or.inl ⟨by kernel_rfl, ?hy6⟩) (by assumption) ?rest6
        case hy6 => intro w hSw; (try dsimp only at hSw); go_simp; (first | done | with_reducible rfl)
        (try simp only [Act.put, List.getElem_toArray, List.getElem_cons_zero, List.getElem_cons_succ, List.setIfInBounds_toArray, List.set_cons_zero, List.set_cons_succ])
        refine wpAnyH_take (i := 1) (v := ?v7) rfl (by kernel_rfl) (by kernel_rfl) (by kernel_rfl) (fun _ _ _ h => h) (Or.inl ⟨by kernel_rfl, ?hy7⟩) (by assumption) ?rest7
        case hy7 => intro w hSw; (try dsimp only at hSw); go_simp; (first | done | with_reducible rfl)
        (try simp only [Act.put, List.getElem_toArray, List.getElem_cons_zero, List.getElem_cons_succ, List.setIfInBounds_toArray, List.set_cons_zero, List.set_cons_succ])
        refine wpAnyH_take (i := 2) rfl (by kernel_rfl) (by kernel_rfl) (by kernel_rfl) (fun _ _ _ h => h) (Or.inr ⟨by kernel_rfl, rfl⟩) (by assumption) ?_
        (try simp only [Act.put, List.getElem_toArray, List.getElem_cons_zero, List.getElem_cons_succ, List.setIfInBounds_toArray, List.set_cons_zero, List.set_cons_succ])
        refine wpAnyH_take (i := 3) rfl (by kernel_rfl) (by kernel_rfl) (by kernel_rfl) (fun _ _ _ h => h) (Or.inr ⟨by kernel_rfl, rfl⟩) (by assumption) ?_
        (try simp only [Act.put, List.getElem_toArray, List.getElem_cons_zero, List.getElem_cons_succ, List.setIfInBounds_toArray, List.set_cons_zero, List.set_cons_succ])
        refine wpAnyH_take (i := 4) rfl (by kernel_rfl) (by kernel_rfl) (by kernel_rfl) (fun _ _ _ h => h) (Or.inr ⟨by kernel_rfl, rfl⟩) (by assumption) ?_
        (try simp only [Act.put, List.getElem_toArray, List.getElem_cons_zero, List.getElem_cons_succ, List.setIfInBounds_toArray, List.set_cons_zero, List.set_cons_succ])
        refine wpAnyH_take (i := 5) rfl (by kernel_rfl) (by kernel_rfl) (by kernel_rfl) (fun _ _ _ h => h) (Or.inr ⟨by kernel_rfl, rfl⟩) (by assumption) ?_
        (try simp only [Act.put, List.getElem_toArray, List.getElem_cons_zero, List.getElem_cons_succ, List.setIfInBounds_toArray, List.set_cons_zero, List.set_cons_succ])
        refine wpAnyH_take (i := 6) rfl (by kernel_rfl) (by kernel_rfl) (by kernel_rfl) (fun _ _ _ h => h) (Or.inr ⟨by kernel_rfl, rfl⟩) (by assumption) ?_
        (try simp only [Act.put, List.getElem_toArray, List.getElem_cons_zero, List.getElem_cons_succ, List.setIfInBounds_toArray, List.set_cons_zero, List.set_cons_succ])
        refine wpAnyH_take (i := 7) rfl (by kernel_rfl) (by kernel_rfl) (by kernel_rfl) (fun _ _ _ h => h) (Or.inr ⟨by kernel_rfl, rfl⟩) (by assumption) ?_
        (try simp only [Act.put, List.getElem_toArray, List.getElem_cons_zero, List.getElem_cons_succ, List.setIfInBounds_toArray, List.set_cons_zero, List.set_cons_succ])
        refine wpAnyH_take (i := 8) (v := ?v8) rfl (by kernel_rfl) (by kernel_rfl) (by kernel_rfl) (fun _ _ _ h => h) (Or.inl ⟨by kernel_rfl, ?hy8⟩) (by assumption) ?rest8
        case hy8 => intro w hSw; (try dsimp only at hSw); go_simp; (first | done | with_reducible rfl)
        (try simp only [Act.put, List.getElem_toArray, List.getElem_cons_zero, List.getElem_cons_succ, List.setIfInBounds_toArray, List.set_cons_zero, List.set_cons_succ])
        refine wpAnyH_take (i := 9) (v := ?v9) rfl (by kernel_rfl) (by kernel_rfl) (by kernel_rfl) (fun _ _ _ h => h) (Or.inl ⟨by kernel_rfl, ?hy9⟩) (by assumption) ?rest9
        case hy9 => intro w hSw; (try dsimp only at hSw); go_simp; (first | done | with_reducible rfl)
        (try simp only [Act.put, List.getElem_toArray, List.getElem_cons_zero, List.getElem_cons_succ, List.setIfInBounds_toArray, List.set_cons_zero, List.set_cons_succ])
        refine wpAnyH_done (by kernel_rfl) ?_ _
        obtain ⟨e0, e1, e2, _⟩ := KI.out _ Bk
        have EIu := Lib.hid (EIi.out _ Bk)
        clear KI
        go_wp2_with fail
        refine EIu.out.mono ?_
        rintro e ue ⟨rfl, be⟩
        go_wp2_with fail
        go_roundw
        case rel => exact ⟨i + 1, true, by omega, rfl, by go_num, Lib.hid (fun _ => rfl), Lib.hid (HBw.out.trans ((Bk.trans (be.mono Bk.size)).mono hsw))⟩
        case measure => (first | (simp [intOf]; done) | (simp [intOf]; omega) | (simp only [intOf]; omega))
      | false =>
        go_wp2_with fail
        have Bk : Below wr.heap.size wr wr.drew := (Below.refl _ _).drew
        refine wp_region_held_drew (S := (fun w' => w'.cell? ⟨X, 0, none⟩ = some (.int .i64 ka) ∧ w'.cell? ⟨X, 1, none⟩ = some (.int .i64 na) ∧ w'.cell? ⟨X, 2, none⟩ = some (.slice p1 m1 c1) ∧ w'.cell? ⟨ab, ao + i * 3, none⟩ = some (.int .i64 fk) ∧ w'.cell? ⟨ab, ao + i * 3 + 1, none⟩ = some (.int .i64 fn) ∧ w'.cell? ⟨ab, ao + i * 3 + 2, none⟩ = some (.slice ap am ac) ∧ Below wr.heap.size wr w')) (by kernel_rfl) (KF.out _ Bk) (fun hHeld => ?_)
        generalize wr.drew = u at *
        refine wpAnyH_take (i := 0) (v := ?v10) rfl (by kernel_rfl) (by kernel_rfl) (by kernel_rfl) (fun _ _ _ h => h) (Or.inl ⟨by kernel_rfl, ?hy10⟩) (by assumption) ?rest10
        case hy10 => intro w hSw; (try dsimp only at hSw); go_simp; (first | done | with_reducible rfl)
        (try simp only [Act.put, List.getElem_toArray, List.getElem_cons_zero, List.getElem_cons_succ, List.setIfInBounds_toArray, List.set_cons_zero, List.set_cons_succ])
        refine wpAnyH_take (i := 1) (v := ?v11) rfl (by kernel_rfl) (by kernel_rfl) (by kernel_rfl) (fun _ _ _ h => h) (Or.inl ⟨by kernel_rfl, ?hy11⟩) (by assumption) ?rest11
        case hy11 => intro w hSw; (try dsimp only at hSw); go_simp; (first | done | with_reducible rfl)
        (try simp only [Act.put, List.getElem_toArray, List.getElem_cons_zero, List.getElem_cons_succ, List.setIfInBounds_toArray, List.set_cons_zero, List.set_cons_succ])
        refine wpAnyH_take (i := 2) (v := ?v12) rfl (by kernel_rfl) (by kernel_rfl) (by kernel_rfl) (fun _ _ _ h => h) (Or.inl ⟨by kernel_rfl, ?hy12⟩) (by assumption) ?rest12
        case hy12 => intro w hSw; (try dsimp only at hSw); go_simp; (first | done | with_reducible rfl)
        (try simp only [Act.put, List.getElem_toArray, List.getElem_cons_zero, List.getElem_cons_succ, List.setIfInBounds_toArray, List.set_cons_zero, List.set_cons_succ])
        refine wpAnyH_take (i := 3) (v := ?v13) rfl (by kernel_rfl) (by kernel_rfl) (by kernel_rfl) (fun _ _ _ h => h) (Or.inl ⟨by kernel_rfl, ?hy13⟩) (by assumption) ?rest13
        case hy13 => intro w hSw; (try dsimp only at hSw); go_simp; (first | done | with_reducible rfl)
        (try simp only [Act.put, List.getElem_toArray, List.getElem_cons_zero, List.getElem_cons_succ, List.setIfInBounds_toArray, List.set_cons_zero, List.set_cons_succ])
        refine wpAnyH_take (i := 4) (v := ?v14) rfl (by kernel_rfl) (by kernel_rfl) (by kernel_rfl) (fun _ _ _ h => h) (Or.inl ⟨by kernel_rfl, ?hy14⟩) (by assumption) ?rest14
        case hy14 => intro w hSw; (try dsimp only at hSw); go_simp; (first | done | with_reducible rfl)
        (try simp only [Act.put, List.getElem_toArray, List.getElem_cons_zero, List.getElem_cons_succ, List.setIfInBounds_toArray, List.set_cons_zero, List.set_cons_succ])
        refine wpAnyH_take (i := 5) (v := ?v15) rfl (by kernel_rfl) (by kernel_rfl) (by kernel_rfl) (fun _ _ _ h => h) (Or.inl ⟨by kernel_rfl, ?hy15⟩) (by assumption) ?rest15
        case hy15 => intro w hSw; (try dsimp only at hSw); go_simp; (first | done | with_reducible rfl)
        (try simp only [Act.put, List.getElem_toArray, List.getElem_cons_zero, List.getElem_cons_succ, List.setIfInBounds_toArray, List.set_cons_zero, List.set_cons_succ])
        refine wpAnyH_take (i := 6) (v := ?v16) rfl (by kernel_rfl) (by kernel_rfl) (by kernel_rfl) (fun _ _ _ h => h) (Or.inl ⟨by kernel_rfl, ?hy16⟩) (by assumption) ?rest16
        case hy16 => intro w hSw; (try dsimp only at hSw); go_simp; (first | done | with_reducible rfl)
        (try simp only [Act.put, List.getElem_toArray, List.getElem_cons_zero, List.getElem_cons_succ, List.setIfInBounds_toArray, List.set_cons_zero, List.set_cons_succ])
        refine wpAnyH_ready (rs := [7]) (by kernel_rfl) (by simp) ?_
        refine AllReadyH.cons rfl (fun K hK => ?_) AllReadyH.nil
        go_simp
        obtain ⟨t, HTT, SMt⟩ := SMi.out _ Bk
        refine SMt.mono ?_
        rintro e ux ⟨rfl, bx⟩
        (try go_wp2_with fail)
        have Bk2 := Bk.trans (bx.mono Bk.size)
        refine hK.out _ _ (KF.out _ Bk2) (fun hHeld2 => ?_)
        clear hK K hHeld
        have hHeld := hHeld2
        clear hHeld2
        (try simp only [Act.put, List.getElem_toArray, List.getElem_cons_zero, List.getElem_cons_succ, List.setIfInBounds_toArray, List.set_cons_zero, List.set_cons_succ])
        clear Bk bx
        have Bk := Bk2
        clear Bk2
        refine wpAnyH_take (i := 8) (v := ?v17) rfl (by kernel_rfl) (by kernel_rfl) (by kernel_rfl) (fun _ _ _ h => h) (Or.inl ⟨by kernel_rfl, ?hy17⟩) (by assumption) ?rest17
        case hy17 => intro w hSw; (try dsimp only at hSw); go_simp; (first | done | with_reducible rfl)
        (try simp only [Act.put, List.getElem_toArray, List.getElem_cons_zero, List.getElem_cons_succ, List.setIfInBounds_toArray, List.set_cons_zero, List.set_cons_succ])
        refine wpAnyH_take (i := 9) (v := ?v18) rfl (by kernel_rfl) (by kernel_rfl) (by kernel_rfl) (fun _ _ _ h => h) (Or.inl ⟨by kernel_rfl, ?hy18⟩) (by assumption) ?rest18
        case hy18 => intro w hSw; (try dsimp only at hSw); go_simp; (first | done | with_reducible rfl)
        (try simp only [Act.put, List.getElem_toArray, List.getElem_cons_zero, List.getElem_cons_succ, List.setIfInBounds_toArray, List.set_cons_zero, List.set_cons_succ])
        refine wpAnyH_done (by kernel_rfl) ?_ _
        obtain ⟨e0, e1, e2, _⟩ := KI.out _ Bk
        have EIu := Lib.hid (EIi.out _ Bk)
        clear KI KF
        have HN := Lib.hid (show a < i + 1 → t = true from fun h => by
          by_cases hia : i = a
          · exact HTT.out hia
          · exact absurd (HT.out (by omega)) Bool.noConfusion)
        go_wp2_with fail
        refine EIu.out.mono ?_
        rintro e ue ⟨rfl, be⟩
        go_wp2_with fail
        go_roundw
        case rel => exact ⟨i + 1, t, by omega, rfl, by go_num, HN, Lib.hid (HBw.out.trans ((Bk.trans (be.mono Bk.size)).mono hsw))⟩
        case measure => (first | (simp [intOf]; done) | (simp [intOf]; omega) | (simp only [intOf]; omega))
    · obtain rfl : i = M := by omega
      obtain rfl : t = true := HT.out ha
      obtain ⟨ab, ao, av, rfl, hab, a0, a1, a2, hKa⟩ := (HKL4.out.below (by omega) HBw.out).get ha
      obtain ⟨ap, am, ac, rfl, _, _, HAp⟩ := hKa.shape
      rw [HKA.out] at a0
      rw [HNA.out] at a1
      have dd : decide ((i : Int) < (i : Int)) = false := decide_eq_false (by omega)
      have da : decide (1 ≤ E a) = true := decide_eq_true HE1.out
      have ca : decide ((a : Int) < (i : Int)) = true := decide_eq_true (by omega)
      have LEi := Lib.hid (fun w' (hb : Below wr.heap.size wr w') => LE.out (.slice (some ⟨ab, ao, none⟩) i c5) w3.heap.size w' (HKL4.out.below (by omega) (HBw.out.trans (hb.mono hsw))) (by have := hb.size; omega))
      have SMa := Lib.hid (fun w' (hb : Below wr.heap.size wr w') => (show Calls Try.prog 20 #[.agg #[.int .i64 ka, .int .i64 na, .slice p1 m1 c1], .agg #[.int .i64 ka, .int .i64 na, .slice ap am ac]] w' fun e w'' => e = .returned (.bool true) ∧ Below w'.heap.size w' w'' by
        obtain ⟨t, h1, h2⟩ := SM.out a a _ _ w3.heap.size w' (HK4.out.below hl4 (HBw.out.trans (hb.mono hsw))) (hKa.below (by omega) hb) (by have := hb.size; omega)
        rwa [HKA.out, HNA.out, h1.out rfl] at h2))
      have KE := Lib.hid (fun w' (hb : Below wr.heap.size wr w') => (show w'.cell? ⟨X, 0, none⟩ = some (.int .i64 ka) ∧ w'.cell? ⟨X, 1, none⟩ = some (.int .i64 na) ∧ w'.cell? ⟨X, 2, none⟩ = some (.slice p1 m1 c1) ∧ w'.cell? ⟨ab, ao + a * 3, none⟩ = some (.int .i64 ka) ∧ w'.cell? ⟨ab, ao + a * 3 + 1, none⟩ = some (.int .i64 na) ∧ w'.cell? ⟨ab, ao + a * 3 + 2, none⟩ = some (.slice ap am ac) ∧ Below wr.heap.size wr w' from
        ⟨(KC.out w' (HBw.out.trans (hb.mono hsw))).1, (KC.out w' (HBw.out.trans (hb.mono hsw))).2.1, (KC.out w' (HBw.out.trans (hb.mono hsw))).2.2, (hb.cell (p := ⟨ab, _, none⟩) (block_lt_of_cell a0)).trans a0, (hb.cell (p := ⟨ab, _, none⟩) (block_lt_of_cell a1)).trans a1, (hb.cell (p := ⟨ab, _, none⟩) (block_lt_of_cell a2)).trans a2, hb⟩))
      clear a0 a1 a2 hKa HAp
      go_wp2_with fail
      have Bk : Below wr.heap.size wr wr.drew := (Below.refl _ _).drew
      refine wp_region_held_drew (S := (fun w' => w'.cell? ⟨X, 0, none⟩ = some (.int .i64 ka) ∧ w'.cell? ⟨X, 1, none⟩ = some (.int .i64 na) ∧ w'.cell? ⟨X, 2, none⟩ = some (.slice p1 m1 c1) ∧ w'.cell? ⟨ab, ao + a * 3, none⟩ = some (.int .i64 ka) ∧ w'.cell? ⟨ab, ao + a * 3 + 1, none⟩ = some (.int .i64 na) ∧ w'.cell? ⟨ab, ao + a * 3 + 2, none⟩ = some (.slice ap am ac) ∧ Below wr.heap.size wr w')) (by kernel_rfl) (KE.out _ Bk) (fun hHeld => ?_)
      generalize wr.drew = u at *
      refine wpAnyH_take (i := 0) (v := ?v19) rfl (by kernel_rfl) (by kernel_rfl) (by kernel_rfl) (fun _ _ _ h => h) (Or.inl ⟨by kernel_rfl, ?hy19⟩) (by assumption) ?rest19
      case hy19 => intro w hSw; (try dsimp only at hSw); go_simp; (first | done | with_reducible rfl)
      (try simp only [Act.put, List.getElem_toArray, List.getElem_cons_zero, List.getElem_cons_succ, List.setIfInBounds_toArray, List.set_cons_zero, List.set_cons_succ])
      refine wpAnyH_take (i := 1) (v := ?v20) rfl (by kernel_rfl) (by kernel_rfl) (by kernel_rfl) (fun _ _ _ h => h) (Or.inl ⟨by kernel_rfl, ?hy20⟩) (by assumption) ?rest20
      case hy20 => intro w hSw; (try dsimp only at hSw); go_simp; (first | done | with_reducible rfl)
      (try simp only [Act.put, List.getElem_toArray, List.getElem_cons_zero, List.getElem_cons_succ, List.setIfInBounds_toArray, List.set_cons_zero, List.set_cons_succ])
      refine wpAnyH_take (i := 2) (v := ?v21) rfl (by kernel_rfl) (by kernel_rfl) (by kernel_rfl) (fun _ _ _ h => h) (Or.inl ⟨by kernel_rfl, ?hy21⟩) (by assumption) ?rest21
      case hy21 => intro w hSw; (try dsimp only at hSw); go_simp; (first | done | with_reducible rfl)
      (try simp only [Act.put, List.getElem_toArray, List.getElem_cons_zero, List.getElem_cons_succ, List.setIfInBounds_toArray, List.set_cons_zero, List.set_cons_succ])
      refine wpAnyH_take (i := 3) (v := ?v22) rfl (by kernel_rfl) (by kernel_rfl) (by kernel_rfl) (fun _ _ _ h => h) (Or.inl ⟨by kernel_rfl, ?hy22⟩) (by assumption) ?rest22
      case hy22 => intro w hSw; (try dsimp only at hSw); go_simp; (first | done | with_reducible rfl)
      (try simp only [Act.put, List.getElem_toArray, List.getElem_cons_zero, List.getElem_cons_succ, List.setIfInBounds_toArray, List.set_cons_zero, List.set_cons_succ])
      refine wpAnyH_take (i := 4) (v := ?v23) rfl (by kernel_rfl) (by kernel_rfl) (by kernel_rfl) (fun _ _ _ h => h) (Or.inl ⟨by kernel_rfl, ?hy23⟩) (by assumption) ?rest23
      case hy23 => intro w hSw; (try dsimp only at hSw); go_simp; (first | done | with_reducible rfl)
      (try simp only [Act.put, List.getElem_toArray, List.getElem_cons_zero, List.getElem_cons_succ, List.setIfInBounds_toArray, List.set_cons_zero, List.set_cons_succ])
      refine wpAnyH_take (i := 5) (v := ?v24) rfl (by kernel_rfl) (by kernel_rfl) (by kernel_rfl) (fun _ _ _ h => h) (Or.inl ⟨by kernel_rfl, ?hy24⟩) (by assumption) ?rest24
      case hy24 => intro w hSw; (try dsimp only at hSw); go_simp; (first | done | with_reducible rfl)
      (try simp only [Act.put, List.getElem_toArray, List.getElem_cons_zero, List.getElem_cons_succ, List.setIfInBounds_toArray, List.set_cons_zero, List.set_cons_succ])
      refine wpAnyH_take (i := 6) (v := ?v25) rfl (by kernel_rfl) (by kernel_rfl) (by kernel_rfl) (fun _ _ _ h => h) (Or.inl ⟨by kernel_rfl, ?hy25⟩) (by assumption) ?rest25
      case hy25 => intro w hSw; (try dsimp only at hSw); go_simp; (first | done | with_reducible rfl)
      (try simp only [Act.put, List.getElem_toArray, List.getElem_cons_zero, List.getElem_cons_succ, List.setIfInBounds_toArray, List.set_cons_zero, List.set_cons_succ])
      refine wpAnyH_take (i := 7) (v := ?v26) rfl (by kernel_rfl) (by kernel_rfl) (by kernel_rfl) (fun _ _ _ h => h) (Or.inl ⟨by kernel_rfl, ?hy26⟩) (by assumption) ?rest26
      case hy26 => intro w hSw; (try dsimp only at hSw); go_simp; (first | done | with_reducible rfl)
      (try simp only [Act.put, List.getElem_toArray, List.getElem_cons_zero, List.getElem_cons_succ, List.setIfInBounds_toArray, List.set_cons_zero, List.set_cons_succ])
      refine wpAnyH_take (i := 8) (v := ?v27) rfl (by kernel_rfl) (by kernel_rfl) (by kernel_rfl) (fun _ _ _ h => h) (Or.inl ⟨by kernel_rfl, ?hy27⟩) (by assumption) ?rest27
      case hy27 => intro w hSw; (try dsimp only at hSw); go_simp; (first | done | with_reducible rfl)
      (try simp only [Act.put, List.getElem_toArray, List.getElem_cons_zero, List.getElem_cons_succ, List.setIfInBounds_toArray, List.set_cons_zero, List.set_cons_succ])
      refine wpAnyH_take (i := 9) (v := ?v28) rfl (by kernel_rfl) (by kernel_rfl) (by kernel_rfl) (fun _ _ _ h => h) (Or.inl ⟨by kernel_rfl, ?hy28⟩) (by assumption) ?rest28
      case hy28 => intro w hSw; (try dsimp only at hSw); go_simp; (first | done | with_reducible rfl)
      (try simp only [Act.put, List.getElem_toArray, List.getElem_cons_zero, List.getElem_cons_succ, List.setIfInBounds_toArray, List.set_cons_zero, List.set_cons_succ])
      refine wpAnyH_take (i := 10) (v := ?v29) rfl (by kernel_rfl) (by kernel_rfl) (by kernel_rfl) (fun _ _ _ h => h) (Or.inl ⟨by kernel_rfl, ?hy29⟩) (by assumption) ?rest29
      case hy29 => intro w hSw; (try dsimp only at hSw); go_simp; (first | done | with_reducible rfl)
      (try simp only [Act.put, List.getElem_toArray, List.getElem_cons_zero, List.getElem_cons_succ, List.setIfInBounds_toArray, List.set_cons_zero, List.set_cons_succ])
      refine wpAnyH_take (i := 11) (v := ?v30) rfl (by kernel_rfl) (by kernel_rfl) (by kernel_rfl) (fun _ _ _ h => h) (Or.inl ⟨by kernel_rfl, ?hy30⟩) (by assumption) ?rest30
      case hy30 => intro w hSw; (try dsimp only at hSw); go_simp; (first | done | with_reducible rfl)
      (try simp only [Act.put, List.getElem_toArray, List.getElem_cons_zero, List.getElem_cons_succ, List.setIfInBounds_toArray, List.set_cons_zero, List.set_cons_succ])
      refine wpAnyH_take (i := 12) (v := ?v31) rfl (by kernel_rfl) (by kernel_rfl) (by kernel_rfl) (fun _ _ _ h => h) (Or.inl ⟨by kernel_rfl, ?hy31⟩) (by assumption) ?rest31
      case hy31 => intro w hSw; (try dsimp only at hSw); go_simp; (first | done | with_reducible rfl)
      (try simp only [Act.put, List.getElem_toArray, List.getElem_cons_zero, List.getElem_cons_succ, List.setIfInBounds_toArray, List.set_cons_zero, List.set_cons_succ])
      refine wpAnyH_ready (rs := [13]) (by kernel_rfl) (by simp) ?_
      refine AllReadyH.cons rfl (fun K hK => ?_) AllReadyH.nil
      go_simp
      refine (LEi.out _ Bk).mono ?_
      rintro e ux ⟨rfl, bx⟩
      (try go_wp2_with fail)
      have Bk2 := Bk.trans (bx.mono Bk.size)
      refine hK.out _ _ (KE.out _ Bk2) (fun hHeld2 => ?_)
      clear hK K hHeld
      have hHeld := hHeld2
      clear hHeld2
      (try simp only [Act.put, List.getElem_toArray, List.getElem_cons_zero, List.getElem_cons_succ, List.setIfInBounds_toArray, List.set_cons_zero, List.set_cons_succ])
      clear Bk bx
      have Bk := Bk2
      clear Bk2
      refine wpAnyH_take (i := 14) (v := ?v32) rfl (by kernel_rfl) (by kernel_rfl) (by kernel_rfl) (fun _ _ _ h => h) (Or.inl ⟨by kernel_rfl, ?hy32⟩) (by assumption) ?rest32
      case hy32 => intro w hSw; (try dsimp only at hSw); go_simp; (first | done | with_reducible rfl)
      (try simp only [Act.put, List.getElem_toArray, List.getElem_cons_zero, List.getElem_cons_succ, List.setIfInBounds_toArray, List.set_cons_zero, List.set_cons_succ])
      refine wpAnyH_take (i := 15) (v := ?v33) rfl (by kernel_rfl) (by kernel_rfl) (by kernel_rfl) (fun _ _ _ h => h) (Or.inl ⟨by kernel_rfl, ?hy33⟩) (by assumption) ?rest33
      case hy33 => intro w hSw; (try dsimp only at hSw); go_simp; (first | done | with_reducible rfl)
      (try simp only [Act.put, List.getElem_toArray, List.getElem_cons_zero, List.getElem_cons_succ, List.setIfInBounds_toArray, List.set_cons_zero, List.set_cons_succ])
      refine wpAnyH_ready (rs := [16]) (by kernel_rfl) (by simp) ?_
      refine AllReadyH.cons rfl (fun K hK => ?_) AllReadyH.nil
      go_simp
      refine (SMa.out _ Bk).mono ?_
      rintro e uy ⟨rfl, bx⟩
      (try go_wp2_with fail)
      have Bk2 := Bk.trans (bx.mono Bk.size)
      refine hK.out _ _ (KE.out _ Bk2) (fun hHeld2 => ?_)
      clear hK K hHeld
      have hHeld := hHeld2
      clear hHeld2
      (try simp only [Act.put, List.getElem_toArray, List.getElem_cons_zero, List.getElem_cons_succ, List.setIfInBounds_toArray, List.set_cons_zero, List.set_cons_succ])
      clear Bk bx
      have Bk := Bk2
      clear Bk2
      refine wpAnyH_take (i := 17) (v := ?v34) rfl (by kernel_rfl) (by kernel_rfl) (by kernel_rfl) (fun _ _ _ h => h) (Or.inl ⟨by kernel_rfl, ?hy34⟩) (by assumption) ?rest34
      case hy34 => intro w hSw; (try dsimp only at hSw); go_simp; (first | done | with_reducible rfl)
      (try simp only [Act.put, List.getElem_toArray, List.getElem_cons_zero, List.getElem_cons_succ, List.setIfInBounds_toArray, List.set_cons_zero, List.set_cons_succ])
      refine wpAnyH_take (i := 18) (v := ?v35) rfl (by kernel_rfl) (by kernel_rfl) (by kernel_rfl) (fun _ _ _ h => h) (Or.inl ⟨by kernel_rfl, ?hy35⟩) (by assumption) ?rest35
      case hy35 => intro w hSw; (try dsimp only at hSw); go_simp; (first | done | with_reducible rfl)
      (try simp only [Act.put, List.getElem_toArray, List.getElem_cons_zero, List.getElem_cons_succ, List.setIfInBounds_toArray, List.set_cons_zero, List.set_cons_succ])
      refine wpAnyH_ready (rs := [19]) (by kernel_rfl) (by simp) ?_
      refine AllReadyH.cons rfl (fun K hK => ?_) AllReadyH.nil
      go_simp
      refine (LV.out _).mono ?_
      rintro e uz ⟨rfl, bx⟩
      (try go_wp2_with fail)
      have Bk2 := Bk.trans (bx.mono Bk.size)
      refine hK.out _ _ (KE.out _ Bk2) (fun hHeld2 => ?_)
      clear hK K hHeld
      have hHeld := hHeld2
      clear hHeld2
      (try simp only [Act.put, List.getElem_toArray, List.getElem_cons_zero, List.getElem_cons_succ, List.setIfInBounds_toArray, List.set_cons_zero, List.set_cons_succ])
      clear Bk bx
      have Bk := Bk2
      clear Bk2
      refine wpAnyH_take (i := 20) (v := ?v36) rfl (by kernel_rfl) (by kernel_rfl) (by kernel_rfl) (fun _ _ _ h => h) (Or.inl ⟨by kernel_rfl, ?hy36⟩) (by assumption) ?rest36
      case hy36 => intro w hSw; (try dsimp only at hSw); go_simp; (first | done | with_reducible rfl)
      (try simp only [Act.put, List.getElem_toArray, List.getElem_cons_zero, List.getElem_cons_succ, List.setIfInBounds_toArray, List.set_cons_zero, List.set_cons_succ])
      refine wpAnyH_take (i := 21) (v := ?v37) rfl (by kernel_rfl) (by kernel_rfl) (by kernel_rfl) (fun _ _ _ h => h) (Or.inl ⟨by kernel_rfl, ?hy37⟩) (by assumption) ?rest37
      case hy37 => intro w hSw; (try dsimp only at hSw); go_simp; (first | done | with_reducible rfl)
      (try simp only [Act.put, List.getElem_toArray, List.getElem_cons_zero, List.getElem_cons_succ, List.setIfInBounds_toArray, List.set_cons_zero, List.set_cons_succ])
      refine wpAnyH_done (by kernel_rfl) ?_ _
      go_wp2_with fail
      go_ret
      exact ⟨rfl, HB4.out.trans ((HBw.out.trans (Bk.mono hsw)).mono HB4.out.size)⟩
theorem walk (W : World) (a0 : Int) (w0 : -9223372036854775808 ≤ a0 ∧ a0 ≤ 9223372036854775807) :
    Calls Try.prog 12 #[.int .i64 a0] W fun e W' => e = .returned (.bool true) ∧ Below W.heap.size W W' := by
  cases hh : hasb a0 with
  | false => exact no a0 W w0.1 w0.2 hh
  | true =>
    obtain ⟨n, rfl⟩ : ∃ n : Nat, a0 = n := ⟨a0.toNat, by have := (hasb_dvd hh).1; omega⟩
    exact yes n W hh
end candBest
end Go.Proofs.Ytfjioflggkmhcaa
