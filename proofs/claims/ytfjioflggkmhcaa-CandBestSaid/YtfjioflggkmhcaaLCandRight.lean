/- CandRight: all of them are plans of that size, there is one at least, and not too many, no two the same. -/
import Derived.Test.YtfjioflggkmhcaaSizeu
import Derived.Test.YtfjioflggkmhcaaLCandTells
namespace Go.Proofs.Ytfjioflggkmhcaa
open Go.ChangeShapes Go.WideShapes Go.ChangeAt Go.RowKit
set_option linter.unusedVariables false
set_option linter.unusedSimpArgs false
theorem ofL_at (l : List Nd) (i : Nat) (h : i < l.length) : l[i]? = some ⟨(ofL l).k i, (ofL l).n i, (ofL l).kids i⟩ := by
  have := Fo.top_at (ofL l) i (by rw [ofL_len]; exact h)
  rwa [ofL_top] at this
namespace candRight
set_option maxRecDepth 100000 in
theorem no (n : Int) (W : World) (h0 : -9223372036854775808 ≤ n) (h1 : n ≤ 9223372036854775807) (hh : hasb n = false) : Calls Try.prog 11 #[.int .i64 n] W fun e w' => e = .returned (.bool true) ∧ Below W.heap.size W w' := by
  have LV := Lib.hid (fun w => live19 w)
  have LN := Lib.hid (fun w => cand_listno n w h0 h1 hh)
  have RH := fun w => r4_has n w h0 h1
  rw [hh] at RH
  have RH := Lib.hid RH
  clear hh
  go_enter Try.func11, Try.ntmps11
  go_wp2_with fail
  refine (LN.out _).mono ?_
  rintro e wq ⟨rfl, rfl⟩
  go_wp2_with fail
  refine (RH.out _).mono ?_
  rintro e wq ⟨rfl, rfl⟩
  go_wp2_with fail
  refine (LV.out _).mono ?_
  rintro e w4 ⟨rfl, b4⟩
  go_wp2_with fail
  go_ret
  exact ⟨rfl, b4⟩
set_option maxRecDepth 100000 in
set_option maxHeartbeats 8000000 in
theorem yes (n : Nat) (W : World) (hh : hasb n = true) : Calls Try.prog 11 #[.int .i64 (n : Int)] W fun e w' => e = .returned (.bool true) ∧ Below W.heap.size W w' := by
  obtain ⟨h1, h2, h3⟩ := hasb_dvd hh
  have h1 : 1 ≤ n := by omega
  have h2 : n ≤ 16777216 := by omega
  have hn : n ∣ 18446744069414584320 := Nat.dvd_of_mod_eq_zero (has_mod h3)
  have LV := Lib.hid (fun w => live19 w)
  have PN := Lib.hid (fun w => cand_Plain n w hh)
  have LN := Lib.hid (fun w => cand_list n w hh)
  have hR := right_all h1 h2 hn
  unfold rightB at hR
  rw [← cand_C h1 h2 hn, ← pl_40 h1 h2 hn] at hR
  simp only [Bool.and_eq_true, decide_eq_true_eq, List.all_eq_true] at hR
  obtain ⟨⟨⟨⟨r1, r2⟩, r3⟩, r4⟩, r5⟩ := hR
  have P3 := okB_ok h2 r3
  have HTOP := Lib.hid (ofL_top (candL n))
  have FLEN := Lib.hid (ofL_len (candL n))
  have HO := Lib.hid (fun i (hi : i < (candL n).length) => okB_ok h2 (r4 _ (List.mem_of_getElem? (ofL_at (candL n) i hi))))
  have HA := Lib.hid (fun i j (hi : i < (candL n).length) (hj : j < (candL n).length) (hji : j < i) => (show cmpN ((ofL (candL n)).k i) ((ofL (candL n)).n i) ((ofL (candL n)).kids i) ((ofL (candL n)).k j) ((ofL (candL n)).n j) ((ofL (candL n)).kids j) ≠ 0 by
    have := apart_at (candL n) r5 i j hi hj hji
    have e1 := ofL_at (candL n) i hi
    have e2 := ofL_at (candL n) j hj
    rw [List.getElem?_eq_getElem hi] at e1
    rw [List.getElem?_eq_getElem hj] at e2
    rw [Option.some.inj e1, Option.some.inj e2] at this
    exact this))
  have VF := Lib.hid (fun (ks : Fo) v (k z : Int) lim w (ez : z = (n : Int)) (ec : chkd k z ks = 0) (wk : -9223372036854775808 ≤ k ∧ k ≤ 9223372036854775807) (wf : ks.wf) (hN : ks.cnt ≤ 60) (hK : Kids w lim v ks) (hl : lim ≤ w.heap.size) => (show Calls Try.prog 45 #[.agg #[.int .i64 (n : Int), .int .i64 0], .agg #[.int .i64 k, .int .i64 z, v]] w fun e w' => e = .returned (.int .i64 0) ∧ Below w.heap.size w w' by
    have := r14_for ks v (n : Int) 0 k z lim w (by omega) hK hl (by omega) wk (by omega) wf
    rw [ec, ez] at this
    unfold fori at this
    rw [if_neg (by rw [hh]; exact Bool.noConfusion), if_neg (by simp), if_neg (by simp), if_neg (by simp)] at this
    rw [ez]
    exact this))
  have SM := Lib.hid (fun (ks ks' : Fo) v v' (k z k' z' : Int) lim w (hne : cmpN k z ks k' z' ks' ≠ 0) (h : Kids w lim v ks) (h' : Kids w lim v' ks') hl => (show Calls Try.prog 20 #[.agg #[.int .i64 k, .int .i64 z, v], .agg #[.int .i64 k', .int .i64 z', v']] w fun e w' => e = .returned (.bool false) ∧ Below w.heap.size w w' by
    have := r13_same ks ks' v v' k z k' z' lim w h h' hl
    rw [decide_eq_false hne] at this
    exact this))
  clear r3 r4 r5 hh h3 hn
  generalize plT 16777216 n = D1 at *
  generalize hF : ofL (candL n) = F at *
  generalize candL n = L at *
  obtain ⟨M, hM⟩ : ∃ M, L.length = M := ⟨_, rfl⟩
  rw [hM] at FLEN r1 r2 HO HA
  obtain ⟨q1, q2, q3, q4, q5, q6⟩ := P3
  have Q1 := Lib.hid q1
  have Q2 := Lib.hid q2
  have Q5 := Lib.hid q5
  clear hF hM q1 q2 q5 q4
  go_enter Try.func11, Try.ntmps11
  go_wp2_with fail
  refine (LN.out _).mono ?_
  rintro e w3 ⟨v5, rfl, hOw, b3⟩
  have hKL : Kids w3 w3.heap.size v5 F := OwnT.kids (lim := 0) (B := W.heap.size + 1) (by rw [HTOP.out]; exact hOw)
  obtain ⟨p5, c5, rfl, _, _⟩ := hKL.form
  rw [FLEN.out] at hKL ⊢
  have HKL := Lib.hid hKL
  have HB3 := Lib.hid b3
  clear hOw hKL b3
  go_wp2_with fail
  refine (PN.out _).mono ?_
  rintro e w1 ⟨v1, rfl, hk1, b1⟩
  have hK1 := hk1.to (lim := w1.heap.size) (fun _ hb => hb.1)
  obtain ⟨p1, m1, c1, rfl, _, _, HM1⟩ := hK1.shape
  obtain ⟨w2, hw2, y0, y1, y2, b2, hs2⟩ := box3 w1 D1.k D1.n (.slice p1 m1 c1) 24
  have HW2 := Lib.hid hw2
  have HB2 := Lib.hid (b1.trans (b2.mono b1.size))
  have HK2 := Lib.hid (hK1.below (Nat.le_refl _) b2)
  have VP := Lib.hid (VF.out D1.ks (.slice p1 m1 c1) D1.k D1.n w1.heap.size w2 Q1.out Q2.out q3 Q5.out q6 HK2.out (by omega))
  have HKL2 := Lib.hid (HKL.out.below (Nat.le_refl _) HB2.out)
  have hl32 := HB2.out.size
  have dm1 : decide ((M : Int) < 1) = false := decide_eq_false (by omega)
  have dm1' : decide (M < 1) = false := decide_eq_false (by omega)
  have dm2 : decide ((12 : Int) < (M : Int)) = false := decide_eq_false (by omega)
  have dm2' : decide (12 < M) = false := decide_eq_false (by omega)
  clear hw2 hk1 hK1 b1 b2 HM1 HKL
  go_upto_region 5 with fail
  rw [← HW2.out]
  clear HW2
  go_wp2_with fail
  refine VP.out.mono ?_
  rintro e w4 ⟨rfl, b4⟩
  have HB4 := Lib.hid (HB3.out.trans ((HB2.out.trans (b4.mono HB2.out.size)).mono HB3.out.size))
  have HKL4 := Lib.hid (HKL2.out.below (by omega) b4)
  have hl4 := b4.size
  clear y0 y1 y2 b4 HB3 HB2 HKL2 VP HK2
  go_wp2_with fail
  go_loopw [7, 8] (fun x y wr => ∃ (i : Nat) (s8 : Value), s8 = y ∧ i ≤ M ∧ x = .int .i64 i ∧ Hid (Below w4.heap.size w4 wr)) (fun x _ _ => M - (intOf x).toNat)
  case atStart => exact ⟨0, _, rfl, Nat.zero_le _, rfl, Lib.hid (Below.refl _ _)⟩
  case round =>
    obtain ⟨i, s8, rfl, hi, rfl, HBw⟩ := hrel
    by_cases hlt : i < M
    · obtain ⟨ab, ao, av, rfl, hab, a0, a1, a2, hKa⟩ := (HKL4.out.below (by omega) HBw.out).get hlt
      obtain ⟨ap, am, ac, rfl, _, _, HAp⟩ := hKa.shape
      have dd : decide ((i : Int) < (M : Int)) = true := decide_eq_true (by omega)
      obtain ⟨o1, o2, o3, o4, o5, o6⟩ := HO.out i hlt
      have VI := Lib.hid (VF.out (F.kids i) (.slice ap am ac) (F.k i) (F.n i) w3.heap.size wr o1 o2 o3 o5 o6 hKa (by have := HBw.out.size; omega))
      clear o1 o2 o3 o4 o5 o6 hKa HAp
      have A0 := Lib.hid a0
      generalize hfk : F.k i = fk at *
      generalize hfn : F.n i = fn at *
      have HFK := Lib.hid hfk
      have HFN := Lib.hid hfn
      clear hfk hfn
      go_wp2_with fail
      refine VI.out.mono ?_
      rintro e w5 ⟨rfl, b5⟩
      have HB5 := Lib.hid (HBw.out.trans (b5.mono HBw.out.size))
      clear a0 a1 a2 VI b5 A0 HBw
      go_wp2_with fail
      go_loopw [8] (fun y wr' => ∃ j : Nat, j ≤ i ∧ y = .int .i64 j ∧ Hid (Below w4.heap.size w4 wr')) (fun y _ => i - (intOf y).toNat)
      case atStart => exact ⟨0, Nat.zero_le _, rfl, HB5⟩
      case round =>
        clear HB5
        obtain ⟨j, hj, rfl, HB6⟩ := hrel
        by_cases hjl : j < i
        · obtain ⟨_, _, av, eab, hab, a0, a1, a2, hKa⟩ := (HKL4.out.below (by omega) HB6.out).get hlt
          cases eab
          obtain ⟨_, _, bv, ebb, hbb, b0, b1, b2, hKb⟩ := (HKL4.out.below (by omega) HB6.out).get (i := j) (by omega)
          cases ebb
          obtain ⟨ap, am, ac, rfl, _, _, HAp⟩ := hKa.shape
          obtain ⟨bp, bm, bc, rfl, _, _, HBp⟩ := hKb.shape
          have dj : decide ((j : Int) < (i : Int)) = true := decide_eq_true (by omega)
          have hjM : j < M := by omega
          have hne := HA.out i j hlt (by omega) hjl
          rw [HFK.out] at a0
          rw [HFN.out] at a1
          rw [HFK.out, HFN.out] at hne
          have SMi := Lib.hid (fun w' (hb : Below wr.heap.size wr w') => SM.out (F.kids i) (F.kids j) _ _ fk fn (F.k j) (F.n j) w3.heap.size w' hne (hKa.below (by have := HB6.out.size; omega) hb) (hKb.below (by have := HB6.out.size; omega) hb) (by have := HB6.out.size; have := hb.size; omega))
          have KI := Lib.hid (fun w' (hb : Below wr.heap.size wr w') => (show w'.cell? ⟨ab, ao + i * 3, none⟩ = some (.int .i64 fk) ∧ w'.cell? ⟨ab, ao + i * 3 + 1, none⟩ = some (.int .i64 fn) ∧ w'.cell? ⟨ab, ao + i * 3 + 2, none⟩ = some (.slice ap am ac) ∧ w'.cell? ⟨ab, ao + j * 3, none⟩ = some (.int .i64 (F.k j)) ∧ w'.cell? ⟨ab, ao + j * 3 + 1, none⟩ = some (.int .i64 (F.n j)) ∧ w'.cell? ⟨ab, ao + j * 3 + 2, none⟩ = some (.slice bp bm bc) ∧ Below wr.heap.size wr w' from
            ⟨(hb.cell (p := ⟨ab, _, none⟩) (block_lt_of_cell a0)).trans a0, (hb.cell (p := ⟨ab, _, none⟩) (block_lt_of_cell a1)).trans a1, (hb.cell (p := ⟨ab, _, none⟩) (block_lt_of_cell a2)).trans a2, (hb.cell (p := ⟨ab, _, none⟩) (block_lt_of_cell b0)).trans b0, (hb.cell (p := ⟨ab, _, none⟩) (block_lt_of_cell b1)).trans b1, (hb.cell (p := ⟨ab, _, none⟩) (block_lt_of_cell b2)).trans b2, hb⟩))
          generalize F.k j = gk at *
          generalize F.n j = gn at *
          clear a0 a1 a2 b0 b1 b2 hKa hKb HAp HBp hne
          go_wp2_with fail
          have Bk : Below wr.heap.size wr wr.drew := (Below.refl _ _).drew
          refine wp_region_held_drew (S := (fun w' => w'.cell? ⟨ab, ao + i * 3, none⟩ = some (.int .i64 fk) ∧ w'.cell? ⟨ab, ao + i * 3 + 1, none⟩ = some (.int .i64 fn) ∧ w'.cell? ⟨ab, ao + i * 3 + 2, none⟩ = some (.slice ap am ac) ∧ w'.cell? ⟨ab, ao + j * 3, none⟩ = some (.int .i64 gk) ∧ w'.cell? ⟨ab, ao + j * 3 + 1, none⟩ = some (.int .i64 gn) ∧ w'.cell? ⟨ab, ao + j * 3 + 2, none⟩ = some (.slice bp bm bc) ∧ Below wr.heap.size wr w')) (by kernel_rfl) (KI.out _ Bk) (fun hHeld => ?_)
          generalize wr.drew = u at *
          refine wpAnyH_take (i := 0) (v := ?v6) rfl (by kernel_rfl) (by kernel_rfl) (by kernel_rfl) (fun _ _ _ h => h) (Or.inl ⟨by kernel_rfl, ?hy6⟩) (by assumption) ?rest6
          case hy6 => intro w hSw; (try dsimp only at hSw); go_simp; (first | done | with_reducible rfl)
          (try simp only [Act.put, List.getElem_toArray, List.getElem_cons_zero, List.getElem_cons_succ, List.setIfInBounds_toArray, List.set_cons_zero, List.set_cons_succ])
          refine wpAnyH_take (i := 1) (v := ?v7) rfl (by kernel_rfl) (by kernel_rfl) (by kernel_rfl) (fun _ _ _ h => h) (Or.inl ⟨by kernel_rfl, ?hy7⟩) (by assumption) ?rest7
          case hy7 => intro w hSw; (try dsimp only at hSw); go_simp; (first | done | with_reducible rfl)
          (try simp only [Act.put, List.getElem_toArray, List.getElem_cons_zero, List.getElem_cons_succ, List.setIfInBounds_toArray, List.set_cons_zero, List.set_cons_succ])
          refine wpAnyH_take (i := 2) (v := ?v8) rfl (by kernel_rfl) (by kernel_rfl) (by kernel_rfl) (fun _ _ _ h => h) (Or.inl ⟨by kernel_rfl, ?hy8⟩) (by assumption) ?rest8
          case hy8 => intro w hSw; (try dsimp only at hSw); go_simp; (first | done | with_reducible rfl)
          (try simp only [Act.put, List.getElem_toArray, List.getElem_cons_zero, List.getElem_cons_succ, List.setIfInBounds_toArray, List.set_cons_zero, List.set_cons_succ])
          refine wpAnyH_take (i := 3) (v := ?v9) rfl (by kernel_rfl) (by kernel_rfl) (by kernel_rfl) (fun _ _ _ h => h) (Or.inl ⟨by kernel_rfl, ?hy9⟩) (by assumption) ?rest9
          case hy9 => intro w hSw; (try dsimp only at hSw); go_simp; (first | done | with_reducible rfl)
          (try simp only [Act.put, List.getElem_toArray, List.getElem_cons_zero, List.getElem_cons_succ, List.setIfInBounds_toArray, List.set_cons_zero, List.set_cons_succ])
          refine wpAnyH_take (i := 4) (v := ?v10) rfl (by kernel_rfl) (by kernel_rfl) (by kernel_rfl) (fun _ _ _ h => h) (Or.inl ⟨by kernel_rfl, ?hy10⟩) (by assumption) ?rest10
          case hy10 => intro w hSw; (try dsimp only at hSw); go_simp; (first | done | with_reducible rfl)
          (try simp only [Act.put, List.getElem_toArray, List.getElem_cons_zero, List.getElem_cons_succ, List.setIfInBounds_toArray, List.set_cons_zero, List.set_cons_succ])
          refine wpAnyH_take (i := 5) (v := ?v11) rfl (by kernel_rfl) (by kernel_rfl) (by kernel_rfl) (fun _ _ _ h => h) (Or.inl ⟨by kernel_rfl, ?hy11⟩) (by assumption) ?rest11
          case hy11 => intro w hSw; (try dsimp only at hSw); go_simp; (first | done | with_reducible rfl)
          (try simp only [Act.put, List.getElem_toArray, List.getElem_cons_zero, List.getElem_cons_succ, List.setIfInBounds_toArray, List.set_cons_zero, List.set_cons_succ])
          refine wpAnyH_take (i := 6) (v := ?v12) rfl (by kernel_rfl) (by kernel_rfl) (by kernel_rfl) (fun _ _ _ h => h) (Or.inl ⟨by kernel_rfl, ?hy12⟩) (by assumption) ?rest12
          case hy12 => intro w hSw; (try dsimp only at hSw); go_simp; (first | done | with_reducible rfl)
          (try simp only [Act.put, List.getElem_toArray, List.getElem_cons_zero, List.getElem_cons_succ, List.setIfInBounds_toArray, List.set_cons_zero, List.set_cons_succ])
          refine wpAnyH_take (i := 7) (v := ?v13) rfl (by kernel_rfl) (by kernel_rfl) (by kernel_rfl) (fun _ _ _ h => h) (Or.inl ⟨by kernel_rfl, ?hy13⟩) (by assumption) ?rest13
          case hy13 => intro w hSw; (try dsimp only at hSw); go_simp; (first | done | with_reducible rfl)
          (try simp only [Act.put, List.getElem_toArray, List.getElem_cons_zero, List.getElem_cons_succ, List.setIfInBounds_toArray, List.set_cons_zero, List.set_cons_succ])
          refine wpAnyH_ready (rs := [8]) (by kernel_rfl) (by simp) ?_
          refine AllReadyH.cons rfl (fun K hK => ?_) AllReadyH.nil
          go_simp
          refine (SMi.out _ Bk).mono ?_
          rintro e ux ⟨rfl, bx⟩
          (try go_wp2_with fail)
          have Bk2 := Bk.trans (bx.mono Bk.size)
          refine hK.out _ _ (KI.out _ Bk2) (fun hHeld2 => ?_)
          clear hK K hHeld
          have hHeld := hHeld2
          clear hHeld2
          (try simp only [Act.put, List.getElem_toArray, List.getElem_cons_zero, List.getElem_cons_succ, List.setIfInBounds_toArray, List.set_cons_zero, List.set_cons_succ])
          clear Bk bx
          have Bk := Bk2
          clear Bk2
          refine wpAnyH_done (by kernel_rfl) ?_ _
          go_wp2_with fail
          go_roundw
          case rel => exact ⟨j + 1, by omega, by go_num, Lib.hid (HB6.out.trans (Bk.mono HB6.out.size))⟩
          case measure => (first | (simp [intOf]; done) | (simp [intOf]; omega) | (simp only [intOf]; omega))
        · obtain rfl : j = i := by omega
          have dj : decide ((j : Int) < (j : Int)) = false := decide_eq_false (by omega)
          go_wp2_with fail
          go_roundw
          case rel => exact ⟨j + 1, _, rfl, by omega, by go_num, HB6⟩
          case measure => (first | (simp [intOf]; done) | (simp [intOf]; omega) | (simp only [intOf]; omega))
    · obtain rfl : i = M := by omega
      have dd : decide ((i : Int) < (i : Int)) = false := decide_eq_false (by omega)
      go_wp2_with fail
      refine (LV.out _).mono ?_
      rintro e w9 ⟨rfl, b9⟩
      go_wp2_with fail
      go_ret
      exact ⟨rfl, HB4.out.trans ((HBw.out.trans (b9.mono HBw.out.size)).mono HB4.out.size)⟩
theorem walk (W : World) (a0 : Int) (w0 : -9223372036854775808 ≤ a0 ∧ a0 ≤ 9223372036854775807) :
    Calls Try.prog 11 #[.int .i64 a0] W fun e W' => e = .returned (.bool true) ∧ Below W.heap.size W W' := by
  cases hh : hasb a0 with
  | false => exact no a0 W w0.1 w0.2 hh
  | true =>
    obtain ⟨n, rfl⟩ : ∃ n : Nat, a0 = n := ⟨a0.toNat, by have := (hasb_dvd hh).1; omega⟩
    exact yes n W hh
end candRight
end Go.Proofs.Ytfjioflggkmhcaa
