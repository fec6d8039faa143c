/- Put together by program (merge.py): Chk14 Bulk. -/
import Derived.Test.YtbhnlfgccldmaaaGreatZd4
import Derived.Test.YtbhnlfgccldmaaaGreatZd8
/- Reference 13's Much and Depth; reference 14's Check. -/
namespace Go.Proofs.YtbhnlfgccldmaaaGreat
open Go.ChangeShapes Go.WideShapes Go.ChangeAt Go.RowKit
set_option linter.unusedVariables false
set_option maxRecDepth 100000 in
theorem r13_much (ks : Fo) (v : Value) (k n : Int) (lim : Nat) (W : World) (hN : ks.cnt ≤ 1048576) (hK : Kids W lim v ks) (hl : lim ≤ W.heap.size) :
    Calls Tryz.prog 12 #[.agg #[.int .i64 k, .int .i64 n, v]] W fun e w' => e = .returned (.bool (decide (80 < ks.cnt + 1))) ∧ Below W.heap.size W w' := by
  have RL := Lib.hid (fun W h1 h2 => r13_list 1048576 ks v k n lim W hN (by omega) h1 h2)
  obtain ⟨p, m, c, rfl, hc1, hc2, HM⟩ := hK.shape
  obtain ⟨w0, hw0, c0, c1, c2, hB, hsz⟩ := box3 W k n (.slice p m c) 24
  have hK0 := hK.below hl hB
  have HL := Lib.hid (show (Nd.mk k n ks :: ks.pre).length = ks.cnt + 1 by simp [Fo.pre_len])
  generalize Nd.mk k n ks :: ks.pre = L at *
  have DZ := Lib.hid (show decide ((80 : Int) < ((ks.cnt + 1 : Nat) : Int)) = decide (80 < ks.cnt + 1) from decide_eq_decide.2 (by omega))
  generalize decide (80 < ks.cnt + 1) = z at *
  generalize ks.cnt + 1 = q at *
  go_enter Tryz.func12, Tryz.ntmps12
  go_wp2_with fail
  rw [← hw0]
  clear hw0
  refine (RL.out _ hK0 (by omega)).mono ?_
  rintro e w1 ⟨v1, rfl, hO, b1⟩
  obtain ⟨a, c', rfl, _⟩ := hO.shape
  rw [HL.out]
  clear hO
  go_wp2_with fail
  go_ret
  exact ⟨ret_bool (by first | exact DZ.out | (rw [← DZ.out]; simp)), hB.trans (b1.mono hB.size)⟩
theorem Fo.depth_drop (f : Fo) (i : Nat) (h : i < f.len) : (f.drop i).depth = max ((f.kids i).depth + 1) (f.drop (i + 1)).depth := by rw [Fo.drop_at f i h, Fo.depth]
set_option maxRecDepth 100000 in
set_option maxHeartbeats 2000000 in
theorem r13_depth (N : Nat) : ∀ (ks : Fo) (v : Value) (k n : Int) (lim : Nat) (W : World), ks.cnt ≤ N → N ≤ 1048576 → Kids W lim v ks → lim ≤ W.heap.size →
    Calls Tryz.prog 99 #[.agg #[.int .i64 k, .int .i64 n, v]] W fun e w' => e = .returned (.int .i64 ((ks.depth + 1 : Nat) : Int)) ∧ Below W.heap.size W w' := by
  induction N using Nat.strongRecOn with
  | _ N ih =>
  intro ks v k n lim W hN hN2 hK hl
  obtain ⟨p, m, c, rfl, hc1, hc2, HM⟩ := hK.shape
  obtain ⟨w0, hw0, c0, c1, c2, hB, hsz⟩ := box3 W k n (.slice p m c) 24
  have hK0 := hK.below hl hB
  have x0 : W.heap.size < w0.heap.size := by omega
  have IH := Lib.hid ih
  have DS := Lib.hid (fun i (hi : i < m) => Fo.depth_drop ks i (by rw [← HM.out]; exact hi))
  have D0 := Lib.hid (show max 0 (ks.drop 0).depth = ks.depth by rw [Fo.drop_zero]; omega)
  have DE := Lib.hid (show (ks.drop m).depth = 0 by rw [HM.out, Fo.drop_len]; rfl)
  have DC := Nat.le_trans (Fo.depth_cnt ks) hN
  have PC := Lib.hid (fun i (hi : i < m) => (show (ks.kids i).cnt < N from Nat.lt_of_lt_of_le (Fo.cnt_kids ks i (by rw [← HM.out]; exact hi)) hN))
  have hB0 := Below.refl w0.heap.size w0
  clear ih HM
  generalize hD : ks.depth = D at *
  clear hD
  go_enter Tryz.func99, Tryz.ntmps99
  go_wp2_with fail
  rw [← hw0]
  clear hw0
  go_loopw [3, 4] (fun x y wr => ∃ i q : Nat, i ≤ m ∧ x = .int .i64 q ∧ y = .int .i64 i ∧ Hid (max q (ks.drop i).depth = D) ∧ Hid (Below w0.heap.size w0 wr)) (fun _ y _ => m - (intOf y).toNat)
  case atStart => exact ⟨0, 0, Nat.zero_le _, rfl, rfl, D0, Lib.hid hB0⟩
  case round =>
    clear hB0 D0
    obtain ⟨i, q, hi, rfl, rfl, HD, HB⟩ := hrel
    have hs := HB.out.size
    have k2 := (HB.out.cell (p := ⟨W.heap.size, 2, none⟩) x0).trans c2
    by_cases hlt : i < m
    · obtain ⟨b, o, v, rfl, hb, g0, g1, g2, hKi⟩ := (hK0.below (by omega) HB.out).get hlt
      obtain ⟨a', m', c', rfl, _, _, _⟩ := hKi.shape
      have dd : decide ((i : Int) < (m : Int)) = true := decide_eq_true (by omega)
      have CI := Lib.hid (IH.out _ (PC.out i hlt) (ks.kids i) _ (ks.k i) (ks.n i) lim wr (Nat.le_refl _) (by have := PC.out i hlt; omega) hKi (by omega))
      have DS1 := DS.out i hlt
      have HD1 := HD.out
      rw [DS1] at HD1
      obtain ⟨t, ht⟩ : ∃ t, (ks.kids i).depth + 1 = t := ⟨_, rfl⟩
      rw [ht] at CI HD1
      have tD : t ≤ D := by omega
      have H1 := Lib.hid (show q < t → max t (ks.drop (i + 1)).depth = D by intro _; omega)
      have H2 := Lib.hid (show ¬ q < t → max q (ks.drop (i + 1)).depth = D by intro _; omega)
      clear hKi c0 c1 c2 DS1 HD1 HD ht
      by_cases hqt : q < t
      · have dq : decide ((q : Int) < (t : Int)) = true := decide_eq_true (by omega)
        go_wp2_with fail
        refine CI.out.mono ?_
        rintro e w4 ⟨rfl, b4⟩
        go_wp2_with fail
        go_roundw
        case rel => exact ⟨i + 1, t, by omega, rfl, by go_num, Lib.hid (H1.out hqt), Lib.hid (HB.out.trans (b4.mono hs))⟩
        case measure => (first | (simp [intOf]; done) | (simp [intOf]; omega) | (simp only [intOf]; omega))
      · have dq : decide ((q : Int) < (t : Int)) = false := decide_eq_false (by omega)
        go_wp2_with fail
        refine CI.out.mono ?_
        rintro e w4 ⟨rfl, b4⟩
        go_wp2_with fail
        go_roundw
        case rel => exact ⟨i + 1, q, by omega, rfl, by go_num, Lib.hid (H2.out hqt), Lib.hid (HB.out.trans (b4.mono hs))⟩
        case measure => (first | (simp [intOf]; done) | (simp [intOf]; omega) | (simp only [intOf]; omega))
    · obtain rfl : i = m := by omega
      have dd : decide ((i : Int) < (i : Int)) = false := decide_eq_false (by omega)
      have E := HD.out
      rw [DE.out] at E
      obtain rfl : q = D := by omega
      go_wp2_with fail
      go_ret
      exact ⟨ret_i64 (by go_num), hB.trans (HB.out.mono hB.size)⟩
/-- Is a node right? -/
def Nd.ok (d : Nd) : Bool := nodeB d.k d.n d.ks.len (d.ks.n 0) (d.ks.n 1)
/-- What Check tells of a tree. -/
def chkd (k n : Int) (ks : Fo) : Int := if 60 < ks.cnt + 1 ∨ 12 < ks.depth + 1 then 12 else if (Nd.mk k n ks :: ks.pre).all Nd.ok then 0 else 8
theorem all_step (l : List Nd) (i : Nat) (h : i < l.length) : (l.drop i).all Nd.ok = (l[i].ok && (l.drop (i + 1)).all Nd.ok) := by
  rw [List.drop_eq_getElem_cons h, List.all_cons]
set_option maxRecDepth 100000 in
set_option maxHeartbeats 4000000 in
theorem r14_check (ks : Fo) (v : Value) (k n : Int) (lim : Nat) (W : World) (hN : ks.cnt ≤ 1048576) (hK : Kids W lim v ks) (hl : lim ≤ W.heap.size) (wk : -9223372036854775808 ≤ k ∧ k ≤ 9223372036854775807) (wn : -9223372036854775808 ≤ n ∧ n ≤ 9223372036854775807) (wf : ks.wf) :
    Calls Tryz.prog 63 #[.agg #[.int .i64 k, .int .i64 n, v]] W fun e w' => e = .returned (.int .i64 (chkd k n ks)) ∧ Below W.heap.size W w' := by
  have RL := Lib.hid (fun W h1 h2 => r13_list 1048576 ks v k n lim W hN (by omega) h1 h2)
  have RD := Lib.hid (fun W h1 h2 => r13_depth 1048576 ks v k n lim W hN (by omega) h1 h2)
  obtain ⟨p, m, c, rfl, hc1, hc2, HM⟩ := hK.shape
  obtain ⟨w0, hw0, c0, c1, c2, hB, hsz⟩ := box3 W k n (.slice p m c) 24
  have hK0 := hK.below hl hB
  have x0 : W.heap.size < w0.heap.size := by omega
  have HL := Lib.hid (show (Nd.mk k n ks :: ks.pre).length = ks.cnt + 1 by simp [Fo.pre_len])
  have CB := Lib.hid (fun (h : 60 < ks.cnt + 1 ∨ 12 < ks.depth + 1) => (show chkd k n ks = 12 from if_pos h))
  have CS := Lib.hid (fun (h : ¬ (60 < ks.cnt + 1 ∨ 12 < ks.depth + 1)) => (show chkd k n ks = if (Nd.mk k n ks :: ks.pre).all Nd.ok then 0 else 8 from if_neg h))
  have LW := Lib.hid (show ∀ x ∈ (Nd.mk k n ks :: ks.pre), (-9223372036854775808 ≤ x.n ∧ x.n ≤ 9223372036854775807) ∧ x.ks.wf ∧ x.ks.cnt ≤ ks.cnt from fun x hx => by
    rcases List.mem_cons.1 hx with rfl | hx
    · exact ⟨wn, wf, Nat.le_refl _⟩
    · have h1 := Fo.pre_wf ks wf x hx
      exact ⟨h1.2.1, h1.2.2, by have := Fo.pre_cnt ks x hx; omega⟩)
  have dc := Fo.depth_cnt ks
  generalize Nd.mk k n ks :: ks.pre = L at *
  generalize chkd k n ks = z at *
  generalize ks.cnt = C at *
  generalize ks.depth = D at *
  obtain ⟨q, hq⟩ : ∃ q, C + 1 = q := ⟨_, rfl⟩
  rw [hq] at CB CS HL
  by_cases h1 : 60 < q
  · have d1 : decide ((60 : Int) < (q : Int)) = true := decide_eq_true (by omega)
    have E := Lib.hid (CB.out (.inl h1))
    go_enter Tryz.func63, Tryz.ntmps63
    go_wp2_with fail
    rw [← hw0]
    clear hw0
    refine (RL.out _ hK0 (by omega)).mono ?_
    rintro e w1 ⟨v1, rfl, hO, b1⟩
    obtain ⟨a, c', rfl, _⟩ := hO.shape
    rw [HL.out]
    clear hO
    go_wp2_with fail
    go_ret
    exact ⟨ret_i64 E.out.symm, hB.trans (b1.mono hB.size)⟩
  have d1 : decide ((60 : Int) < (q : Int)) = false := decide_eq_false (by omega)
  obtain ⟨t, ht⟩ : ∃ t, D + 1 = t := ⟨_, rfl⟩
  rw [ht] at CB CS RD
  by_cases h2 : 12 < t
  · have d2 : decide ((12 : Int) < (t : Int)) = true := decide_eq_true (by omega)
    have E := Lib.hid (CB.out (.inr h2))
    go_enter Tryz.func63, Tryz.ntmps63
    go_wp2_with fail
    rw [← hw0]
    clear hw0
    refine (RL.out _ hK0 (by omega)).mono ?_
    rintro e w1 ⟨v1, rfl, hO, b1⟩
    obtain ⟨a, c', rfl, _⟩ := hO.shape
    rw [HL.out]
    have k0 := (b1.cell (p := ⟨W.heap.size, 0, none⟩) x0).trans c0
    have k1 := (b1.cell (p := ⟨W.heap.size, 1, none⟩) x0).trans c1
    have k2 := (b1.cell (p := ⟨W.heap.size, 2, none⟩) x0).trans c2
    have hK1 := hK0.below (by omega) b1
    have hs1 := b1.size
    clear hO c0 c1 c2
    go_wp2_with fail
    refine (RD.out _ hK1 (by omega)).mono ?_
    rintro e w2 ⟨rfl, b2⟩
    go_wp2_with fail
    go_ret
    exact ⟨ret_i64 E.out.symm, hB.trans ((b1.trans (b2.mono hs1)).mono hB.size)⟩
  have d2 : decide ((12 : Int) < (t : Int)) = false := decide_eq_false (by omega)
  have E := Lib.hid (CS.out (by omega))
  have AS := Lib.hid (fun i h => all_step L i h)
  have A0 := Lib.hid (show (L.drop 0).all Nd.ok = L.all Nd.ok by rw [List.drop_zero])
  have AE := Lib.hid (show (L.drop q).all Nd.ok = true by rw [← HL.out, List.drop_length]; rfl)
  generalize L.all Nd.ok = yy at *
  go_enter Tryz.func63, Tryz.ntmps63
  go_wp2_with fail
  rw [← hw0]
  clear hw0
  refine (RL.out _ hK0 (by omega)).mono ?_
  rintro e w1 ⟨v1, rfl, hO, b1⟩
  have HO := Lib.hid hO
  obtain ⟨a, c', rfl, hq1, hq2, _⟩ := hO.shape
  rw [HL.out] at HO hq1 ⊢
  have k0 := (b1.cell (p := ⟨W.heap.size, 0, none⟩) x0).trans c0
  have k1 := (b1.cell (p := ⟨W.heap.size, 1, none⟩) x0).trans c1
  have k2 := (b1.cell (p := ⟨W.heap.size, 2, none⟩) x0).trans c2
  have hK1 := hK0.below (by omega) b1
  have hs1 := b1.size
  clear hO c0 c1 c2 CB CS RL
  go_wp2_with fail
  refine (RD.out _ hK1 (by omega)).mono ?_
  rintro e w2 ⟨rfl, b2⟩
  have HO2 := Lib.hid (HO.out.below (by omega) b2)
  have hBB := hB.trans ((b1.trans (b2.mono hs1)).mono hB.size)
  have hs2 := b2.size
  clear HO k0 k1 k2 hK1 RD hK0 hK
  go_wp2_with fail
  have lq : q ≤ 9223372036854775807 := by omega
  have RN := Lib.hid (fun (i : Nat) (h : i < L.length) (u : Value) (w : World) (hu : Kids w lim u L[i].ks) (hl : lim ≤ w.heap.size) => r14_node L[i].k L[i].n u L[i].ks lim w (LW.out _ (List.getElem_mem h)).1 hu hl (LW.out _ (List.getElem_mem h)).2.1 (Nat.le_trans (Fo.len_cnt _) (Nat.le_trans (LW.out _ (List.getElem_mem h)).2.2 hN)))
  have hB0 := Below.refl w2.heap.size w2
  go_loopw [2, 4] (fun _ y wr => ∃ i : Nat, i ≤ q ∧ y = .int .i64 i ∧ Hid ((L.drop i).all Nd.ok = yy) ∧ Hid (Below w2.heap.size w2 wr)) (fun _ y _ => q - (intOf y).toNat)
  case atStart => exact ⟨0, Nat.zero_le _, rfl, A0, Lib.hid hB0⟩
  case round =>
    clear A0 hB0
    obtain ⟨i, hi, rfl, HA, HB⟩ := hrel
    by_cases hlt : i < q
    · have hlL : i < L.length := by rw [HL.out]; exact hlt
      obtain ⟨a', c2', e, _, _, hc⟩ := (HO2.out.below (by omega) HB.out).shape
      simp only [Value.slice.injEq] at e
      obtain ⟨e1, e2, e3⟩ := e
      clear e2
      subst e1
      subst e3
      obtain ⟨g, u, rfl, hg, _, g0, g1, g2, hu⟩ := hc i hlL
      obtain ⟨a'', m'', c'', rfl, _, _, _⟩ := hu.shape
      have dd : decide ((i : Int) < (q : Int)) = true := decide_eq_true (by omega)
      have CI := Lib.hid (RN.out i hlL _ wr hu (by have := HB.out.size; omega))
      have AS1 := AS.out i hlL
      rw [HA.out] at AS1
      have hnd : nodeB L[i].k L[i].n L[i].ks.len (L[i].ks.n 0) (L[i].ks.n 1) = L[i].ok := rfl
      rw [hnd] at CI
      clear hc hu hnd HA
      have hs := HB.out.size
      generalize L[i].k = X at *
      generalize L[i].n = Y at *
      cases ho : L[i].ok with
      | true =>
        rw [ho] at CI AS1
        have H1 := Lib.hid (show (L.drop (i + 1)).all Nd.ok = yy by rw [AS1]; rfl)
        clear AS1 ho
        go_wp2_with fail
        refine CI.out.mono ?_
        rintro e w4 ⟨rfl, b4⟩
        go_wp2_with fail
        go_roundw
        case rel => exact ⟨i + 1, by omega, by go_num, H1, Lib.hid (HB.out.trans (b4.mono hs))⟩
        case measure => (first | (simp [intOf]; done) | (simp [intOf]; omega) | (simp only [intOf]; omega))
      | false =>
        rw [ho] at CI AS1
        have H1 := Lib.hid (show yy = false by rw [AS1]; rfl)
        clear AS1 ho
        go_wp2_with fail
        refine CI.out.mono ?_
        rintro e w4 ⟨rfl, b4⟩
        go_wp2_with fail
        go_ret
        exact ⟨ret_i64 (by rw [E.out, H1.out]; rfl), hBB.trans ((HB.out.trans (b4.mono hs)).mono (by omega))⟩
    · obtain rfl : i = q := by omega
      have dd : decide ((i : Int) < (i : Int)) = false := decide_eq_false (by omega)
      have H1 := Lib.hid (show yy = true by rw [← HA.out]; exact AE.out)
      go_wp2_with fail
      go_ret
      exact ⟨ret_i64 (by rw [E.out, H1.out]; rfl), hBB.trans (HB.out.mono (by omega))⟩
end Go.Proofs.YtbhnlfgccldmaaaGreat
/- Package bulk: which trees are too big. -/
namespace Go.Proofs.YtbhnlfgccldmaaaGreat
open Go.ChangeShapes Go.WideShapes Go.ChangeAt Go.RowKit
set_option linter.unusedVariables false
/-- A row of nodes at a depth, of so many nodes that are left: is it too big, and how many are left behind it? -/
def bigF : Fo → Int → Int → Bool × Int
  | .nil, _, l => (false, l)
  | .cons _ _ ks r, d, l => if l - 1 < 0 ∨ 12 < d then (true, l - 1) else if (bigF ks (d + 1) (l - 1)).1 then (true, (bigF ks (d + 1) (l - 1)).2) else bigF r d (bigF ks (d + 1) (l - 1)).2
/-- The same of one node, by its kids. -/
def bigN (ks : Fo) (d l : Int) : Bool × Int := if l - 1 < 0 ∨ 12 < d then (true, l - 1) else bigF ks (d + 1) (l - 1)
theorem bigF_cons (k n : Int) (ks r : Fo) (d l : Int) : bigF (.cons k n ks r) d l = if (bigN ks d l).1 then (true, (bigN ks d l).2) else bigF r d (bigN ks d l).2 := by
  rw [bigF, bigN]
  by_cases h : l - 1 < 0 ∨ 12 < d
  · simp [h]
  · simp [h]
theorem bigF_yes {f : Fo} {i : Nat} {d l : Int} (h : i < f.len) (hb : (bigN (f.kids i) d l).1 = true) : bigF (f.drop i) d l = (true, (bigN (f.kids i) d l).2) := by
  rw [Fo.drop_at f i h, bigF_cons, if_pos hb]
theorem bigF_no {f : Fo} {i : Nat} {d l : Int} (h : i < f.len) (hb : (bigN (f.kids i) d l).1 = false) : bigF (f.drop i) d l = bigF (f.drop (i + 1)) d (bigN (f.kids i) d l).2 := by
  rw [Fo.drop_at f i h, bigF_cons, if_neg (by simp [hb])]
theorem bigF_end (f : Fo) (d l : Int) : bigF (f.drop f.len) d l = (false, l) := by rw [Fo.drop_len, bigF]
theorem bigN_stop {ks : Fo} {d l : Int} (h : l - 1 < 0 ∨ 12 < d) : bigN ks d l = (true, l - 1) := if_pos h
theorem bigN_go {ks : Fo} {d l : Int} (h : ¬ (l - 1 < 0 ∨ 12 < d)) : bigN ks d l = bigF ks (d + 1) (l - 1) := if_neg h
theorem bigF_bd : ∀ (f : Fo) (d l : Int), 0 ≤ l → (bigF f d l).2 ≤ l ∧ -1 ≤ (bigF f d l).2 ∧ ((bigF f d l).1 = false → 0 ≤ (bigF f d l).2)
  | .nil, d, l, h => by simp only [bigF]; omega
  | .cons _ _ ks r, d, l, h => by
    rw [bigF]
    by_cases h1 : l - 1 < 0 ∨ 12 < d
    · rw [if_pos h1]; refine ⟨by show l - 1 ≤ l; omega, by show -1 ≤ l - 1; omega, fun e => by cases e⟩
    · rw [if_neg h1]
      have a := bigF_bd ks (d + 1) (l - 1) (by omega)
      cases hb : (bigF ks (d + 1) (l - 1)).1 with
      | true => rw [if_pos rfl]; exact ⟨by show (bigF ks (d + 1) (l - 1)).2 ≤ l; omega, a.2.1, fun e => by cases e⟩
      | false =>
        rw [if_neg (by simp)]
        have b := bigF_bd r d (bigF ks (d + 1) (l - 1)).2 (a.2.2 hb)
        exact ⟨by omega, b.2.1, b.2.2⟩
theorem bigN_bd (f : Fo) (d l : Int) (h : 0 ≤ l) : (bigN f d l).2 ≤ l ∧ -1 ≤ (bigN f d l).2 ∧ ((bigN f d l).1 = false → 0 ≤ (bigN f d l).2) := by
  by_cases h1 : l - 1 < 0 ∨ 12 < d
  · rw [bigN_stop h1]; refine ⟨by show l - 1 ≤ l; omega, by show -1 ≤ l - 1; omega, fun e => by cases e⟩
  · rw [bigN_go h1]
    have a := bigF_bd f (d + 1) (l - 1) (by omega)
    exact ⟨by omega, a.2.1, a.2.2⟩
/-- Just the trees that are too deep, or of too many nodes. -/
theorem bigF_what : ∀ (f : Fo) (d l : Int), 0 ≤ l → d ≤ 13 → ((bigF f d l).1 = false ↔ (f.cnt : Int) ≤ l ∧ (f.depth : Int) + d ≤ 13) ∧ ((bigF f d l).1 = false → (bigF f d l).2 = l - f.cnt)
  | .nil, d, l, h, hd => by simp [bigF, Fo.cnt, Fo.depth]; omega
  | .cons _ _ ks r, d, l, h, hd => by
    rw [bigF]
    simp only [Fo.cnt, Fo.depth]
    by_cases h1 : l - 1 < 0 ∨ 12 < d
    · rw [if_pos h1]
      refine ⟨⟨fun e => (by cases e), fun e => ?_⟩, fun e => (by cases e)⟩
      exfalso
      omega
    · rw [if_neg h1]
      have a := bigF_what ks (d + 1) (l - 1) (by omega) (by omega)
      have a2 := bigF_bd ks (d + 1) (l - 1) (by omega)
      cases hb : (bigF ks (d + 1) (l - 1)).1 with
      | true =>
        rw [if_pos rfl]
        refine ⟨⟨fun e => (by cases e), fun e => ?_⟩, fun e => (by cases e)⟩
        exfalso
        rw [hb] at a
        have := a.1.2 (by omega)
        cases this
      | false =>
        rw [if_neg (by simp)]
        have hl := a.2 hb
        have hh := a.1.1 hb
        have b := bigF_what r d (bigF ks (d + 1) (l - 1)).2 (a2.2.2 hb) hd
        rw [hl] at b ⊢
        refine ⟨b.1.trans ?_, fun e => ?_⟩
        · omega
        · have := b.2 e; omega
set_option maxRecDepth 100000 in
set_option maxHeartbeats 2000000 in
theorem big_any (N : Nat) : ∀ (ks : Fo) (v : Value) (k n d l : Int) (L lim : Nat) (W : World), ks.cnt ≤ N → Kids W lim v ks → lim ≤ L → lim ≤ W.heap.size → Bx W L 3 (.int .i64 l) → 0 ≤ l → l ≤ 60 → 1 ≤ d → d ≤ 13 →
    Calls Tryz.prog 133 #[.agg #[.int .i64 k, .int .i64 n, v], .int .i64 d, .pointer (some ⟨L, 0, none⟩)] W fun e w' => e = .returned (.bool (bigN ks d l).1) ∧ Bx w' L 3 (.int .i64 (bigN ks d l).2) ∧ But W w' L := by
  induction N using Nat.strongRecOn with
  | _ N ih =>
  intro ks v k n d l L lim W hN hK hlL hlW hL l0 l1 d0 d1
  obtain ⟨a, m, c, rfl, hc1, hc2, HM⟩ := hK.shape
  have hLlt := hL.lt
  have hne : W.heap.size ≠ L := by omega
  have hcl0 := hL.cell
  have hfr0 := frozen_of_row W L 0 _ _ hL
  have hLa := hL.alloc (.cells #[.int .i64 k, .int .i64 n, .slice a m c] 24)
  have hcl := hLa.cell
  have hfr := frozen_of_row _ L 0 _ _ hLa
  have hV := hL.set (.int .i64 (l - 1))
  have hVc := hV.cell
  have hbV := But.set W L 0 (.int .i64 (l - 1))
  have hVs : (W.setCell ⟨L, 0, none⟩ (.int .i64 (l - 1))).heap.size = W.heap.size := by simp
  obtain ⟨w0, hw0, c0, c1, c2, hB, hlt⟩ := box3 (W.setCell ⟨L, 0, none⟩ (.int .i64 (l - 1))) k n (.slice a m c) 24
  have wl : IntKind.i64.wrap (l - 1) = l - 1 := IntWalk.i64_in _ (by omega)
  have wd : IntKind.i64.wrap (d + 1) = d + 1 := IntWalk.i64_in _ (by omega)
  have HL := Lib.hid (hV.below hB)
  have HB := Lib.hid (hbV.trans (But.of_below L hB))
  have HK := Lib.hid (hK.carry (HB.out.b lim hlL hlW))
  rw [hVs] at c0 c1 c2
  rw [hVs] at hlt
  clear hbV hL hLa hV hB
  by_cases hs : l - 1 < 0 ∨ 12 < d
  · have E := Lib.hid (bigN_stop (ks := ks) hs)
    have E1 : Hid ((bigN ks d l).1 = true) := Lib.hid (by rw [E.out])
    have E2 : Hid ((bigN ks d l).2 = l - 1) := Lib.hid (by rw [E.out])
    rw [E1.out, E2.out]
    clear E E1 E2
    subst hw0
    by_cases h1 : l - 1 < 0
    · have e1 : decide (l - 1 < 0) = true := decide_eq_true h1
      go_enter Tryz.func133, Tryz.ntmps133
      go_wp2_with fail
      go_ret
      exact ⟨rfl, HL.out, HB.out⟩
    · have e1 : decide (l - 1 < 0) = false := decide_eq_false h1
      have e2 : decide (12 < d) = true := decide_eq_true (by omega)
      go_enter Tryz.func133, Tryz.ntmps133
      go_wp2_with fail
      go_ret
      exact ⟨rfl, HL.out, HB.out⟩
  have E := Lib.hid (bigN_go (ks := ks) hs)
  have e1 : decide (l - 1 < 0) = false := decide_eq_false (by omega)
  have e2 : decide (12 < d) = false := decide_eq_false (by omega)
  rw [E.out]
  have HF := Lib.hid (show bigF (ks.drop 0) (d + 1) (l - 1) = bigF ks (d + 1) (l - 1) by rw [Fo.drop_zero])
  have FY := Lib.hid (fun i lv (hi : i < m) (h : (bigN (ks.kids i) (d + 1) lv).1 = true) => bigF_yes (d := d + 1) (l := lv) (show i < ks.len by rw [← HM.out]; exact hi) h)
  have FN := Lib.hid (fun i lv (hi : i < m) (h : (bigN (ks.kids i) (d + 1) lv).1 = false) => bigF_no (d := d + 1) (l := lv) (show i < ks.len by rw [← HM.out]; exact hi) h)
  have FE := Lib.hid (show ∀ lv, bigF (ks.drop m) (d + 1) lv = (false, lv) from fun lv => by rw [HM.out]; exact bigF_end ks (d + 1) lv)
  have CK := Lib.hid (fun i (hi : i < m) => (show (ks.kids i).cnt < N from Nat.lt_of_lt_of_le (Fo.cnt_kids ks i (by rw [← HM.out]; exact hi)) hN))
  have IH := Lib.hid ih
  generalize bigF ks (d + 1) (l - 1) = R at *
  clear E ih HM
  go_enter Tryz.func133, Tryz.ntmps133
  go_wp2_with fail
  rw [← hw0]
  clear hw0 hcl0 hfr0 hcl hfr hVc hVs
  go_loopw [25] (fun x wr => ∃ (i : Nat) (lv : Int), i ≤ m ∧ x = .int .i64 i ∧ Hid (bigF (ks.drop i) (d + 1) lv = R) ∧ 0 ≤ lv ∧ lv ≤ 60 ∧ Hid (Bx wr L 3 (.int .i64 lv)) ∧ Hid (But W wr L)) (fun x _ => m - (intOf x).toNat)
  case atStart => exact ⟨0, l - 1, Nat.zero_le _, rfl, HF, by omega, by omega, HL, HB⟩
  case round =>
    clear HL HB HF HK c0 c1 c2 hlt w0
    obtain ⟨i, lv, hi, rfl, HF, l2, l3, HL, HB⟩ := hrel
    by_cases hlt : i < m
    · obtain ⟨b, o, v, rfl, hb, k0, k1, k2, hKi⟩ := (hK.carry (HB.out.b lim hlL hlW)).get hlt
      obtain ⟨a', m', c', rfl, _, _, _⟩ := hKi.shape
      have dd : decide ((i : Int) < (m : Int)) = true := decide_eq_true (by omega)
      have hz := HB.out.z
      obtain ⟨w3, hw3, m0, m1, m2, hB3, hs3⟩ := box3 wr (ks.k i) (ks.n i) (.slice a' m' c') 24
      have HK3 := Lib.hid (hKi.below (by omega) hB3)
      have HL3 := Lib.hid (HL.out.below hB3)
      have HB3 := Lib.hid (HB.out.trans (But.of_below L hB3))
      have CI := Lib.hid (IH.out _ (CK.out i hlt) (ks.kids i) (.slice a' m' c') (ks.k i) (ks.n i) (d + 1) lv L lim w3 (Nat.le_refl _) HK3.out hlL (by omega) HL3.out l2 l3 (by omega) (by omega))
      have BD := bigN_bd (ks.kids i) (d + 1) lv l2
      cases hr : (bigN (ks.kids i) (d + 1) lv).1 with
      | true =>
        have HR := Lib.hid ((HF.out.symm.trans (FY.out i lv hlt hr)))
        rw [hr] at CI
        clear hr BD HF HL HB hKi hB3
        go_wp2_with fail
        rw [← hw3]
        refine CI.out.mono ?_
        rintro e w4 ⟨rfl, hL4, hB4⟩
        go_wp2_with fail
        go_ret
        exact ⟨by rw [HR.out]; rfl, by rw [HR.out]; exact hL4, HB3.out.trans hB4⟩
      | false =>
        have HR := Lib.hid ((FN.out i lv hlt hr).symm.trans HF.out)
        have h2 := BD.2.2 hr
        have h3 := BD.1
        rw [hr] at CI
        clear hr BD HF HL HB hKi hB3
        generalize (bigN (ks.kids i) (d + 1) lv).2 = lw at *
        go_wp2_with fail
        rw [← hw3]
        refine CI.out.mono ?_
        rintro e w4 ⟨rfl, hL4, hB4⟩
        go_wp2_with fail
        go_roundw
        case rel => exact ⟨i + 1, lw, by omega, by go_num, HR, h2, by omega, Lib.hid hL4, Lib.hid (HB3.out.trans hB4)⟩
        case measure => (first | (simp [intOf]; done) | (simp [intOf]; omega) | (simp only [intOf]; omega))
    · obtain rfl : i = m := by omega
      have dd : decide ((i : Int) < (i : Int)) = false := decide_eq_false (by omega)
      have HR := Lib.hid ((FE.out lv).symm.trans HF.out)
      go_wp2_with fail
      go_ret
      exact ⟨by rw [← HR.out]; rfl, by rw [← HR.out]; exact HL.out, HB.out⟩
theorem bulk_big (ks : Fo) (v : Value) (k n : Int) (lim : Nat) (W : World) (hK : Kids W lim v ks) (hlW : lim ≤ W.heap.size) :
    Calls Tryz.prog 94 #[.agg #[.int .i64 k, .int .i64 n, v]] W fun e w' => e = .returned (.bool (decide (60 < ks.cnt + 1 ∨ 12 < ks.depth + 1))) ∧ Below W.heap.size W w' := by
  have hE : (bigN ks 1 60).1 = decide (60 < ks.cnt + 1 ∨ 12 < ks.depth + 1) := by
    rw [bigN_go (by omega)]
    have h := (bigF_what ks (1 + 1) (60 - 1) (by omega) (by omega)).1
    cases hb : (bigF ks (1 + 1) (60 - 1)).1 with
    | false => have := h.1 hb; exact (decide_eq_false (by omega)).symm
    | true =>
      refine (decide_eq_true ?_).symm
      rw [hb] at h
      refine Classical.byContradiction fun hn => ?_
      have := h.2 (by omega)
      cases this
  obtain ⟨a, m, c, rfl, hc1, hc2, HM⟩ := hK.shape
  obtain ⟨w0, hw0, c0, c1, c2, hB, hsz⟩ := box3 W k n (.slice a m c) 24
  have hb1 := (Below.refl w0.heap.size w0).alloc (Nat.le_refl _) (.cells #[.int .i64 60] 3)
  have hL := Bx.new w0 3 (.int .i64 60) _ rfl
  have BR := Lib.hid (big_any _ ks (.slice a m c) k n 1 60 w0.heap.size lim (w0.alloc (.cells #[.int .i64 60] 3)) (Nat.le_refl _) ((hK.below hlW hB).below (by omega) hb1) (by omega) (by simp; omega) hL (by omega) (by omega) (by omega) (by omega))
  obtain ⟨w1, hw1⟩ : ∃ w1, w1 = w0.alloc (.cells #[.int .i64 60] 3) := ⟨_, rfl⟩
  rw [← hw1] at BR hb1
  have hlt : W.heap.size < w0.heap.size := by omega
  have f0 := (hb1.cell (p := ⟨W.heap.size, 0, none⟩) hlt).trans c0
  have f1 := (hb1.cell (p := ⟨W.heap.size, 1, none⟩) hlt).trans c1
  have f2 := (hb1.cell (p := ⟨W.heap.size, 2, none⟩) hlt).trans c2
  have hBB := hB.trans (hb1.mono hB.size)
  rw [hsz, hE] at BR
  rw [hw1, hw0] at f0 f1 f2
  rw [hw0] at hw1
  have hs1 : W.heap.size + 1 ≤ w1.heap.size := by rw [hw1]; simp
  clear hE hL hb1 hB c0 c1 c2 hw0
  generalize decide (60 < ks.cnt + 1 ∨ 12 < ks.depth + 1) = z at *
  go_enter Tryz.func94, Tryz.ntmps94
  go_wp2_with fail
  rw [← hw1]
  refine BR.out.mono ?_
  rintro e w2 ⟨rfl, _, hB2⟩
  go_wp2_with fail
  go_ret
  exact ⟨rfl, hBB.trans (hB2.b _ (by omega) (by omega))⟩
end Go.Proofs.YtbhnlfgccldmaaaGreat
