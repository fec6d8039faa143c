/- Package cost's est over trees that are right. -/
import Derived.Test.YtfjioflggkmhcaaCostb
namespace Go.Proofs.Ytfjioflggkmhcaa
open Go.ChangeShapes Go.WideShapes Go.ChangeAt Go.RowKit
set_option linter.unusedVariables false
theorem ok_kid : ∀ (ks : Fo) (i : Nat), ks.pre.all Nd.ok = true → i < ks.len → (Nd.mk (ks.k i) (ks.n i) (ks.kids i)).ok = true ∧ (ks.kids i).pre.all Nd.ok = true
  | .nil, _, _, h => by simp [Fo.len] at h
  | .cons k n ks r, 0, h, _ => by
    rw [Fo.pre, List.all_cons, List.all_append] at h
    simp only [Bool.and_eq_true] at h
    exact ⟨h.1, h.2.1⟩
  | .cons k n ks r, i + 1, h, hi => by
    rw [Fo.pre, List.all_cons, List.all_append] at h
    simp only [Bool.and_eq_true] at h
    exact ok_kid r i h.2.2 (by simp [Fo.len] at hi; omega)
theorem estC_1 {n a b na nb : Int} : estC 1 n a b na nb = n * n := rfl
theorem estC_2 {n a b na nb : Int} : estC 2 n a b na nb = 2 * n := rfl
theorem estC_3 {n a b na nb : Int} : estC 3 n a b na nb = n * ((n.toNat.log2 : Nat) : Int) := rfl
theorem estC_4 {n a b na nb : Int} : estC 4 n a b na nb = capm (capm (capm (nb * a) + capm (na * b)) + n) := rfl
theorem estC_5 {n a b na nb : Int} : estC 5 n a b na nb = capm (capm (nb * a) + capm (na * b)) := rfl
theorem estC_6 {n a b na nb : Int} : estC 6 n a b na nb = capm (capm (2 * a) + 2 * n) := rfl
theorem estC_7 {n a b na nb : Int} : estC 7 n a b na nb = capm (capm (capm (2 * a) + na) + 3 * n) := rfl
set_option maxRecDepth 100000 in
set_option maxHeartbeats 4000000 in
theorem cost_est_node (k n : Int) (ks : Fo) (m c lim : Nat) (p : Option Addr) (W : World) (hm : ks.len = m) (hK : Kids W lim (.slice p m c) ks) (hl : lim ≤ W.heap.size) (EO : EstOk Try.prog 56 lim ks)
    (h1 : (Nd.mk k n ks).ok = true) (h2 : ks.pre.all Nd.ok = true) :
    Calls Try.prog 56 #[.agg #[.int .i64 k, .int .i64 n, .slice p m c]] W fun e w' => e = .returned (.int .i64 (estN k n ks)) ∧ Below W.heap.size W w' := by
  have R : Rt k n ks.len (ks.n 0) (ks.n 1) := node_rt h1
  have ER := ests_rng ks h2
  have h3 : k = 3 → 2 ≤ n := fun e => by subst e; exact node_three h1
  unfold estN
  obtain ⟨k1, k7, n1, n2, n64, m0, m2, m1, a1, b1, p2⟩ := R
  have hk : k = 1 ∨ k = 2 ∨ k = 3 ∨ k = 4 ∨ k = 5 ∨ k = 6 ∨ k = 7 := by
    have : 1 ≤ k := k1
    have : k ≤ 7 := k7
    omega
  have n1 : 1 ≤ n := n1
  have n2 : n ≤ 16777216 := n2
  obtain ⟨w0, hw0, c0, c1, c2, hB, hsz⟩ := box3 W k n (.slice p m c) 24
  have hK0 := Lib.hid (hK.below hl hB)
  rcases hk with rfl | rfl | rfl | rfl | rfl | rfl | rfl
  · have hn : n ≤ 64 := n64 rfl
    have TT := Lib.hid (fun w => cost_times n n w (by omega) (by omega))
    have hq := mul_small (x := n) (y := n) (by omega) (by omega) (by omega) (by omega)
    rw [estC_1]
    rw [capm_idem (by omega)] at TT
    generalize n * n = z at *
    go_enter Try.func56, Try.ntmps56
    go_wp2_with fail
    rw [← hw0]
    clear hw0
    go_wp2_with fail
    refine (TT.out _).mono ?_
    rintro e w1 ⟨rfl, rfl⟩
    go_wp2_with fail
    go_ret
    exact ⟨rfl, hB⟩
  · have TT := Lib.hid (fun w => cost_times 2 n w (by omega) (by omega))
    rw [estC_2]
    rw [capm_idem (by omega)] at TT
    generalize 2 * n = z at *
    go_enter Try.func56, Try.ntmps56
    go_wp2_with fail
    rw [← hw0]
    clear hw0
    go_wp2_with fail
    refine (TT.out _).mono ?_
    rintro e w1 ⟨rfl, rfl⟩
    go_wp2_with fail
    go_ret
    exact ⟨rfl, hB⟩
  · obtain ⟨e, he, hn⟩ := p2 rfl
    have hL := len_pow e he
    have hnt : n.toNat = 2 ^ e := by rw [hn]; exact Int.toNat_natCast _
    have hlg : n.toNat.log2 = e := by rw [hnt]; exact log_pow e
    have BL := Lib.hid (fun w => bits_len n w (by omega) (by omega))
    rw [hnt, hL] at BL
    have TT := Lib.hid (fun w => cost_times n ((e : Nat) : Int) w (by omega) (by omega))
    have hq := mul_small (x := n) (y := ((e : Nat) : Int)) (by omega) (by omega) (by omega) (by omega)
    rw [estC_3, hlg]
    rw [capm_idem (by omega)] at TT
    have hwn : IntKind.u64.wrap n = n := IntWalk.u64_in _ (by omega)
    clear hL hnt hlg hn p2
    generalize n * ((e : Nat) : Int) = z at *
    go_enter Try.func56, Try.ntmps56
    go_wp2_with fail
    rw [← hw0]
    clear hw0
    go_wp2_with fail
    refine (BL.out _).mono ?_
    rintro e w1 ⟨rfl, rfl⟩
    go_wp2_with fail
    refine (TT.out _).mono ?_
    rintro e w1 ⟨rfl, rfl⟩
    go_wp2_with fail
    go_ret
    exact ⟨rfl, hB⟩
  · have hm2 : ks.len = 2 := m2 (.inl rfl)
    obtain rfl : m = 2 := by omega
    obtain ⟨x1, x2⟩ := a1 (by show (4 : Int) ≤ 4; omega)
    obtain ⟨y1, y2⟩ := b1 (.inl rfl)
    have CB := Lib.hid (cost_both 4 n ks c lim p w0 hm2 hK0.out (by omega) EO ⟨x1, x2⟩ ⟨y1, y2⟩ (ER 0 (by omega)) (ER 1 (by omega)))
    rw [estC_4]
    have PL := Lib.hid (fun w => cost_plus (capm (capm (ks.n 1 * ks.ests.getD 0 0) + capm (ks.n 0 * ks.ests.getD 1 0))) n w ⟨capm_nn (by
      have q1 := capm_nn (Int.mul_nonneg (show 0 ≤ ks.n 1 by omega) (show 0 ≤ ks.ests.getD 0 0 by have := ER 0 (by omega); omega))
      have q2 := capm_nn (Int.mul_nonneg (show 0 ≤ ks.n 0 by omega) (show 0 ≤ ks.ests.getD 1 0 by have := ER 1 (by omega); omega))
      omega), capm_le _⟩ ⟨by omega, by omega⟩)
    generalize capm (capm (capm (ks.n 1 * ks.ests.getD 0 0) + capm (ks.n 0 * ks.ests.getD 1 0)) + n) = z at *
    generalize capm (capm (ks.n 1 * ks.ests.getD 0 0) + capm (ks.n 0 * ks.ests.getD 1 0)) = z0 at *
    clear hK hK0 EO ER a1 b1 m0 m1 m2 p2 h1 h2
    go_enter Try.func56, Try.ntmps56
    go_wp2_with fail
    rw [← hw0]
    clear hw0
    go_wp2_with fail
    refine CB.out.mono ?_
    rintro e w1 ⟨rfl, b1⟩
    go_wp2_with fail
    refine (PL.out _).mono ?_
    rintro e w2 ⟨rfl, rfl⟩
    go_wp2_with fail
    go_ret
    exact ⟨rfl, hB.trans (b1.mono hB.size)⟩
  · have hm2 : ks.len = 2 := m2 (.inr rfl)
    obtain rfl : m = 2 := by omega
    obtain ⟨x1, x2⟩ := a1 (by show (4 : Int) ≤ 5; omega)
    obtain ⟨y1, y2⟩ := b1 (.inr rfl)
    have CB := Lib.hid (cost_both 5 n ks c lim p w0 hm2 hK0.out (by omega) EO ⟨x1, x2⟩ ⟨y1, y2⟩ (ER 0 (by omega)) (ER 1 (by omega)))
    rw [estC_5]
    generalize capm (capm (ks.n 1 * ks.ests.getD 0 0) + capm (ks.n 0 * ks.ests.getD 1 0)) = z0 at *
    clear hK hK0 EO ER a1 b1 m0 m1 m2 p2 h1 h2
    go_enter Try.func56, Try.ntmps56
    go_wp2_with fail
    rw [← hw0]
    clear hw0
    go_wp2_with fail
    refine CB.out.mono ?_
    rintro e w1 ⟨rfl, b1⟩
    go_wp2_with fail
    go_ret
    exact ⟨rfl, hB.trans (b1.mono hB.size)⟩
  · have hm1 : ks.len = 1 := m1 (.inl rfl)
    obtain rfl : m = 1 := by omega
    obtain ⟨x1, x2⟩ := a1 (by show (4 : Int) ≤ 6; omega)
    obtain ⟨r1, r2⟩ := ER 0 (by omega)
    obtain ⟨b, o, p0, n0, c0', rfl, hb, g0, g1, g2, hk⟩ := hK0.out.one
    have hl0 : lim ≤ w0.heap.size := by omega
    have EK := Lib.hid (EO 0 (.slice p0 n0 c0') w0 (by omega) hk hl0)
    have T0 := Lib.hid (fun w => cost_times 2 (ks.ests.getD 0 0) w (by omega) (by omega))
    have hq0 := capm_nn (show 0 ≤ 2 * ks.ests.getD 0 0 by omega)
    have hq1 := capm_le (2 * ks.ests.getD 0 0)
    have T1 := Lib.hid (fun w => cost_times 2 n w (by omega) (by omega))
    rw [capm_idem (by omega)] at T1
    have PL := Lib.hid (fun w => cost_plus (capm (2 * ks.ests.getD 0 0)) (2 * n) w ⟨by omega, by omega⟩ ⟨by omega, by omega⟩)
    rw [estC_6]
    generalize capm (capm (2 * ks.ests.getD 0 0) + 2 * n) = z at *
    generalize 2 * n = n2' at *
    generalize capm (2 * ks.ests.getD 0 0) = z0 at *
    generalize ks.ests.getD 0 0 = q at *
    generalize ks.k 0 = ka at *
    generalize ks.n 0 = na at *
    clear hK hK0 EO ER a1 b1 m0 m1 m2 p2 h1 h2 hk
    rw [hw0] at g0 g1 g2 EK
    go_enter Try.func56, Try.ntmps56
    go_wp2_with fail
    refine EK.out.mono ?_
    rintro e w1 ⟨rfl, b1⟩
    go_wp2_with fail
    refine (T0.out _).mono ?_
    rintro e w2 ⟨rfl, rfl⟩
    go_wp2_with fail
    refine (T1.out _).mono ?_
    rintro e w2 ⟨rfl, rfl⟩
    go_wp2_with fail
    refine (PL.out _).mono ?_
    rintro e w2 ⟨rfl, rfl⟩
    go_wp2_with fail
    go_ret
    rw [← hw0] at b1
    exact ⟨rfl, hB.trans (b1.mono hB.size)⟩
  · have hm1 : ks.len = 1 := m1 (.inr rfl)
    obtain rfl : m = 1 := by omega
    obtain ⟨x1, x2⟩ := a1 (by show (4 : Int) ≤ 7; omega)
    obtain ⟨r1, r2⟩ := ER 0 (by omega)
    obtain ⟨b, o, p0, n0, c0', rfl, hb, g0, g1, g2, hk⟩ := hK0.out.one
    have hl0 : lim ≤ w0.heap.size := by omega
    have EK := Lib.hid (fun w' (hb : Below w0.heap.size w0 w') => EO 0 (.slice p0 n0 c0') w' (by omega) (hk.below hl0 hb) (by have := hb.size; omega))
    have T0 := Lib.hid (fun w => cost_times 2 (ks.ests.getD 0 0) w (by omega) (by omega))
    have hq0 := capm_nn (show 0 ≤ 2 * ks.ests.getD 0 0 by omega)
    have hq1 := capm_le (2 * ks.ests.getD 0 0)
    have T1 := Lib.hid (fun w => cost_times 3 n w (by omega) (by omega))
    rw [capm_idem (by omega)] at T1
    have PL := Lib.hid (fun w => cost_plus (capm (2 * ks.ests.getD 0 0)) (ks.n 0) w ⟨by omega, by omega⟩ ⟨by omega, by omega⟩)
    have hq2 := capm_nn (show 0 ≤ capm (2 * ks.ests.getD 0 0) + ks.n 0 by omega)
    have hq3 := capm_le (capm (2 * ks.ests.getD 0 0) + ks.n 0)
    have PM := Lib.hid (fun w => cost_plus (capm (capm (2 * ks.ests.getD 0 0) + ks.n 0)) (3 * n) w ⟨by omega, by omega⟩ ⟨by omega, by omega⟩)
    rw [estC_7]
    generalize capm (capm (capm (2 * ks.ests.getD 0 0) + ks.n 0) + 3 * n) = z at *
    generalize capm (capm (2 * ks.ests.getD 0 0) + ks.n 0) = z1 at *
    generalize 3 * n = n2' at *
    generalize capm (2 * ks.ests.getD 0 0) = z0 at *
    generalize ks.ests.getD 0 0 = q at *
    generalize ks.k 0 = ka at *
    generalize ks.n 0 = na at *
    have lX : W.heap.size < w0.heap.size := by omega
    have lb : b < w0.heap.size := by omega
    have MK := Lib.hid (fun w' (hb : Below w0.heap.size w0 w') => (show w'.cell? ⟨W.heap.size, 2, none⟩ = some (.slice (some ⟨b, o, none⟩) 1 c) ∧ w'.cell? ⟨b, o, none⟩ = some (.int .i64 ka) ∧ w'.cell? ⟨b, o + 1, none⟩ = some (.int .i64 na) ∧ w'.cell? ⟨b, o + 2, none⟩ = some (.slice p0 n0 c0') ∧ Below w0.heap.size w0 w' from
      ⟨(hb.cell (p := ⟨W.heap.size, 2, none⟩) lX).trans c2, (hb.cell (p := ⟨b, o, none⟩) lb).trans g0, (hb.cell (p := ⟨b, o + 1, none⟩) lb).trans g1, (hb.cell (p := ⟨b, o + 2, none⟩) lb).trans g2, hb⟩))
    have KP := Lib.hid (fun w1 w' (hS : w1.cell? ⟨W.heap.size, 2, none⟩ = some (.slice (some ⟨b, o, none⟩) 1 c) ∧ w1.cell? ⟨b, o, none⟩ = some (.int .i64 ka) ∧ w1.cell? ⟨b, o + 1, none⟩ = some (.int .i64 na) ∧ w1.cell? ⟨b, o + 2, none⟩ = some (.slice p0 n0 c0') ∧ Below w0.heap.size w0 w1) (hb : Below w1.heap.size w1 w') => MK.out w' (hS.2.2.2.2.trans (hb.mono hS.2.2.2.2.size)))
    clear hK hK0 ER a1 b1 m0 m1 m2 p2 h1 h2
    go_enter Try.func56, Try.ntmps56
    go_wp2_with fail
    rw [← hw0]
    clear hw0
    go_wp2_with fail
    generalize hX : W.heap.size = X at *
    go_region_held3 (fun w' => w'.cell? ⟨X, 2, none⟩ = some (.slice (some ⟨b, o, none⟩) 1 c) ∧ w'.cell? ⟨b, o, none⟩ = some (.int .i64 ka) ∧ w'.cell? ⟨b, o + 1, none⟩ = some (.int .i64 na) ∧ w'.cell? ⟨b, o + 2, none⟩ = some (.slice p0 n0 c0') ∧ Below w0.heap.size w0 w') (first | exact MK.out _ ((Below.refl _ _).drew) | assumption | (refine KP.out _ _ ?_ hb; first | assumption | exact MK.out _ ((Below.refl _ _).drew))) (first | (go_at_call 56; (with_reducible refine (EK.out _ (by go_split_ands; assumption)).mono ?_); rintro e w' ⟨rfl, hb⟩) | (go_at_call 89; (first | with_reducible refine (T0.out _).mono ?_ | with_reducible refine (T1.out _).mono ?_); rintro e w' ⟨rfl, rfl⟩) | (go_at_call 91; (first | with_reducible refine (PL.out _).mono ?_ | with_reducible refine (PM.out _).mono ?_); rintro e w' ⟨rfl, rfl⟩))
    rename_i hSS
    obtain ⟨_, _, _, _, hBB⟩ := hSS
    go_wp2_with fail
    go_ret
    exact ⟨rfl, by rw [← hX] at *; exact hB.trans (hBB.mono hB.size)⟩
theorem cost_est (N : Nat) : ∀ (ks : Fo) (k n : Int) (v : Value) (lim : Nat) (W : World), ks.cnt ≤ N → Kids W lim v ks → lim ≤ W.heap.size → (Nd.mk k n ks).ok = true → ks.pre.all Nd.ok = true →
    Calls Try.prog 56 #[.agg #[.int .i64 k, .int .i64 n, v]] W fun e w' => e = .returned (.int .i64 (estN k n ks)) ∧ Below W.heap.size W w' := by
  induction N using Nat.strongRecOn with
  | _ N ih =>
  intro ks k n v lim W hN hK hl h1 h2
  obtain ⟨p, m, c, rfl, _, _, HM⟩ := hK.shape
  refine cost_est_node k n ks m c lim p W HM.out.symm hK hl (fun i u w hi hu hw => ?_) h1 h2
  obtain ⟨g1, g2⟩ := ok_kid ks i h2 hi
  have hc := Fo.cnt_kids ks i hi
  have := ih (ks.kids i).cnt (by omega) (ks.kids i) (ks.k i) (ks.n i) u lim w (Nat.le_refl _) hu hw g1 g2
  rw [ests_get ks i hi]
  exact this
end Go.Proofs.Ytfjioflggkmhcaa
