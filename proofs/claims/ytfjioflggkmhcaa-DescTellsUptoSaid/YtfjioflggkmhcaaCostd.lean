/- Reference 18's Est, of plans. -/
import Derived.Test.YtfjioflggkmhcaaCostc
namespace Go.Proofs.Ytfjioflggkmhcaa
open Go.ChangeShapes Go.WideShapes Go.ChangeAt Go.RowKit
set_option linter.unusedVariables false
theorem shl_le (e j : Nat) (n : Int) (he : e < 25) (hj : j ≤ e) (hn : n = ((2 ^ e : Nat) : Int)) : wrap64 (2 ^ (j + 1)) ≤ n ↔ j + 1 ≤ e := by
  have h1 : (2 : Nat) ^ (j + 1) ≤ 2 ^ 25 := Nat.pow_le_pow_right (by omega) (by omega)
  have h2 : (2 : Int) ^ (j + 1) = ((2 ^ (j + 1) : Nat) : Int) := by rw [Int.natCast_pow]; rfl
  have h0 : (2 : Nat) ^ 25 = 33554432 := by decide
  have h3 : wrap64 (2 ^ (j + 1)) = 2 ^ (j + 1) := by
    rw [h2]
    generalize (2 : Nat) ^ (j + 1) = P at *
    unfold wrap64; omega
  rw [h3, h2, hn]
  constructor
  · intro h
    exact (Nat.pow_le_pow_iff_right (by omega)).1 (Int.ofNat_le.1 h)
  · intro h
    exact Int.ofNat_le.2 (Nat.pow_le_pow_right (by omega) h)
set_option maxRecDepth 100000 in
set_option maxHeartbeats 4000000 in
theorem r18_est_node (k n : Int) (ks : Fo) (m c lim : Nat) (p : Option Addr) (W : World) (hm : ks.len = m) (hK : Kids W lim (.slice p m c) ks) (hl : lim ≤ W.heap.size) (EO : EstOk Try.prog 34 lim ks)
    (h1 : (Nd.mk k n ks).ok = true) (h2 : ks.pre.all Nd.ok = true) :
    Calls Try.prog 34 #[.agg #[.int .i64 k, .int .i64 n, .slice p m c]] W fun e w' => e = .returned (.int .i64 (estN k n ks)) ∧ Below W.heap.size W w' := by
  have R : Rt k n ks.len (ks.n 0) (ks.n 1) := node_rt h1
  have ER := ests_rng ks h2
  have h3 : k = 3 → 2 ≤ n := fun e => by subst e; exact node_three h1
  unfold estN
  obtain ⟨k1, k7, n1, n2, n64, m0, m2, m1, a1, b1, p2⟩ := R
  have hk : k = 1 ∨ k = 2 ∨ k = 3 ∨ k = 4 ∨ k = 5 ∨ k = 6 ∨ k = 7 := by omega
  obtain ⟨w0, hw0, c0, c1, c2, hB, hsz⟩ := box3 W k n (.slice p m c) 24
  have hK0 := Lib.hid (hK.below hl hB)
  rcases hk with rfl | rfl | rfl | rfl | rfl | rfl | rfl
  · have hn : n ≤ 64 := n64 rfl
    have hq := mul_small (x := n) (y := n) (by omega) (by omega) (by omega) (by omega)
    rw [estC_1]
    have hw : IntKind.i64.wrap (n * n) = n * n := IntWalk.i64_in _ (by omega)
    have E := Lib.hid (rfl : n * n = n * n)
    go_enter Try.func34, Try.ntmps34
    go_wp2_with fail
    go_ret
    rw [← hw0]
    exact ⟨ret_i64 (by first | rfl | omega), hB⟩
  · have hw : IntKind.i64.wrap (2 * n) = 2 * n := IntWalk.i64_in _ (by omega)
    rw [estC_2]
    go_enter Try.func34, Try.ntmps34
    go_wp2_with fail
    go_ret
    rw [← hw0]
    exact ⟨ret_i64 (by first | rfl | omega), hB⟩
  · obtain ⟨e, he, hn⟩ := p2 rfl
    have hnt : n.toNat = 2 ^ e := by rw [hn]; exact Int.toNat_natCast _
    have hlg : n.toNat.log2 = e := by rw [hnt]; exact log_pow e
    have hq := mul_small (x := n) (y := ((e : Nat) : Int)) (by omega) (by omega) (by omega) (by omega)
    rw [estC_3, hlg]
    have hwz : wrap64 (n * ((e : Nat) : Int)) = n * ((e : Nat) : Int) := IntWalk.wrap64_in _ (by omega)
    have HWZ := Lib.hid hwz
    clear hwz
    have WJ := Lib.hid (fun j (hj : j ≤ e) => shl_le e j n he hj hn)
    clear hnt hlg hn p2
    have hw2 : ∀ j : Nat, j ≤ e → IntKind.u64.wrap ((j : Int) + 1) = (j : Int) + 1 ∧ IntKind.i64.wrap ((j : Int) + 1) = (j : Int) + 1 := fun j hj => ⟨IntWalk.u64_in _ (by omega), IntWalk.i64_in _ (by omega)⟩
    have HW := Lib.hid hw2
    clear hw2
    go_enter Try.func34, Try.ntmps34
    go_wp2_with fail
    rw [← hw0]
    clear hw0
    go_loopw [4] (fun x wr => ∃ j : Nat, j ≤ e ∧ x = .int .i64 j ∧ w0 = wr) (fun x _ => e - (intOf x).toNat)
    case atStart => exact ⟨0, by omega, rfl, rfl⟩
    case round =>
      obtain ⟨j, hj, rfl, rfl⟩ := hrel
      obtain ⟨q1, q2⟩ := HW.out j hj
      go_wp2_with fail
      · go_roundw
        case rel => exact ⟨j + 1, (WJ.out j hj).1 (by assumption), by go_num, trivial⟩
        case measure => have := (WJ.out j hj).1 (by assumption); (first | (simp [intOf]; done) | (simp [intOf]; omega) | (simp only [intOf]; omega))
      · go_ret
        have hj2 : j = e := by
          have h : ¬ (j + 1 ≤ e) := fun hh => absurd ((WJ.out j hj).2 hh) (Int.not_le.2 (by assumption))
          omega
        subst hj2
        exact ⟨ret_i64 HWZ.out, hB⟩
  · have hm2 : ks.len = 2 := m2 (.inl rfl)
    obtain rfl : m = 2 := by omega
    obtain ⟨x1, x2⟩ := a1 (by omega)
    obtain ⟨y1, y2⟩ := b1 (.inl rfl)
    obtain ⟨r1, r2⟩ := ER 0 (by omega)
    obtain ⟨s1, s2⟩ := ER 1 (by omega)
    obtain ⟨b, o, p0, n0, d0, p1, n1, d1, rfl, hb, g0, g1, g2, g3, g4, g5, hk, hk'⟩ := hK0.out.two
    have hl0 : lim ≤ w0.heap.size := by omega
    have E0 := Lib.hid (fun w' (hb : Below w0.heap.size w0 w') => EO 0 (.slice p0 n0 d0) w' (by omega) (hk.below hl0 hb) (by have := hb.size; omega))
    have E1 := Lib.hid (fun w' (hb : Below w0.heap.size w0 w') => EO 1 (.slice p1 n1 d1) w' (by omega) (hk'.below hl0 hb) (by have := hb.size; omega))
    have T0 := Lib.hid (fun w => r18_times (ks.n 1) (ks.ests.getD 0 0) w (by omega) (by omega))
    have T1 := Lib.hid (fun w => r18_times (ks.n 0) (ks.ests.getD 1 0) w (by omega) (by omega))
    have q1 := capm_nn (Int.mul_nonneg (show 0 ≤ ks.n 1 by omega) (show 0 ≤ ks.ests.getD 0 0 by omega))
    have q2 := capm_nn (Int.mul_nonneg (show 0 ≤ ks.n 0 by omega) (show 0 ≤ ks.ests.getD 1 0 by omega))
    have q3 := capm_le (ks.n 1 * ks.ests.getD 0 0)
    have q4 := capm_le (ks.n 0 * ks.ests.getD 1 0)
    have PL := Lib.hid (fun w => r18_add (capm (ks.n 1 * ks.ests.getD 0 0)) (capm (ks.n 0 * ks.ests.getD 1 0)) w ⟨by omega, by omega⟩ ⟨by omega, by omega⟩)
    have q5 := capm_nn (show 0 ≤ capm (ks.n 1 * ks.ests.getD 0 0) + capm (ks.n 0 * ks.ests.getD 1 0) by omega)
    have q6 := capm_le (capm (ks.n 1 * ks.ests.getD 0 0) + capm (ks.n 0 * ks.ests.getD 1 0))
    rw [estC_4]
    have PM := Lib.hid (fun w => r18_add (capm (capm (ks.n 1 * ks.ests.getD 0 0) + capm (ks.n 0 * ks.ests.getD 1 0))) n w ⟨by omega, by omega⟩ ⟨by omega, by omega⟩)
    generalize capm (capm (capm (ks.n 1 * ks.ests.getD 0 0) + capm (ks.n 0 * ks.ests.getD 1 0)) + n) = z at *
    generalize capm (capm (ks.n 1 * ks.ests.getD 0 0) + capm (ks.n 0 * ks.ests.getD 1 0)) = z0 at *
    generalize capm (ks.n 1 * ks.ests.getD 0 0) = z1 at *
    generalize capm (ks.n 0 * ks.ests.getD 1 0) = z2 at *
    generalize ks.ests.getD 0 0 = e0 at *
    generalize ks.ests.getD 1 0 = e1 at *
    generalize ks.k 0 = ka at *
    generalize ks.n 0 = na at *
    generalize ks.k 1 = kb at *
    generalize ks.n 1 = nb at *
    have lX : W.heap.size < w0.heap.size := by omega
    have lb : b < w0.heap.size := by omega
    have MK := Lib.hid (fun w' (hb : Below w0.heap.size w0 w') => (show w'.cell? ⟨W.heap.size, 0, none⟩ = some (.int .i64 4) ∧ w'.cell? ⟨W.heap.size, 2, none⟩ = some (.slice (some ⟨b, o, none⟩) 2 c) ∧ w'.cell? ⟨b, o, none⟩ = some (.int .i64 ka) ∧ w'.cell? ⟨b, o + 1, none⟩ = some (.int .i64 na) ∧ w'.cell? ⟨b, o + 2, none⟩ = some (.slice p0 n0 d0) ∧ w'.cell? ⟨b, o + 3, none⟩ = some (.int .i64 kb) ∧ w'.cell? ⟨b, o + 3 + 1, none⟩ = some (.int .i64 nb) ∧ w'.cell? ⟨b, o + 3 + 2, none⟩ = some (.slice p1 n1 d1) ∧ Below w0.heap.size w0 w' from
      ⟨(hb.cell (p := ⟨W.heap.size, 0, none⟩) lX).trans c0, (hb.cell (p := ⟨W.heap.size, 2, none⟩) lX).trans c2, (hb.cell (p := ⟨b, o, none⟩) lb).trans g0, (hb.cell (p := ⟨b, o + 1, none⟩) lb).trans g1, (hb.cell (p := ⟨b, o + 2, none⟩) lb).trans g2, (hb.cell (p := ⟨b, o + 3, none⟩) lb).trans g3, (hb.cell (p := ⟨b, o + 3 + 1, none⟩) lb).trans g4, (hb.cell (p := ⟨b, o + 3 + 2, none⟩) lb).trans g5, hb⟩))
    have KP := Lib.hid (fun w1 w' (hS : w1.cell? ⟨W.heap.size, 0, none⟩ = some (.int .i64 4) ∧ w1.cell? ⟨W.heap.size, 2, none⟩ = some (.slice (some ⟨b, o, none⟩) 2 c) ∧ w1.cell? ⟨b, o, none⟩ = some (.int .i64 ka) ∧ w1.cell? ⟨b, o + 1, none⟩ = some (.int .i64 na) ∧ w1.cell? ⟨b, o + 2, none⟩ = some (.slice p0 n0 d0) ∧ w1.cell? ⟨b, o + 3, none⟩ = some (.int .i64 kb) ∧ w1.cell? ⟨b, o + 3 + 1, none⟩ = some (.int .i64 nb) ∧ w1.cell? ⟨b, o + 3 + 2, none⟩ = some (.slice p1 n1 d1) ∧ Below w0.heap.size w0 w1) (hb : Below w1.heap.size w1 w') => MK.out w' (hS.2.2.2.2.2.2.2.2.trans (hb.mono hS.2.2.2.2.2.2.2.2.size)))
    clear hK hK0 EO ER a1 b1 m0 m1 m2 p2 h1 h2
    go_enter Try.func34, Try.ntmps34
    go_wp2_with fail
    rw [← hw0]
    clear hw0
    go_wp2_with fail
    generalize hX : W.heap.size = X at *
    go_region_held3 (fun w' => w'.cell? ⟨X, 0, none⟩ = some (.int .i64 4) ∧ w'.cell? ⟨X, 2, none⟩ = some (.slice (some ⟨b, o, none⟩) 2 c) ∧ w'.cell? ⟨b, o, none⟩ = some (.int .i64 ka) ∧ w'.cell? ⟨b, o + 1, none⟩ = some (.int .i64 na) ∧ w'.cell? ⟨b, o + 2, none⟩ = some (.slice p0 n0 d0) ∧ w'.cell? ⟨b, o + 3, none⟩ = some (.int .i64 kb) ∧ w'.cell? ⟨b, o + 3 + 1, none⟩ = some (.int .i64 nb) ∧ w'.cell? ⟨b, o + 3 + 2, none⟩ = some (.slice p1 n1 d1) ∧ Below w0.heap.size w0 w') (first | exact MK.out _ ((Below.refl _ _).drew) | assumption | (refine KP.out _ _ ?_ hb; first | assumption | exact MK.out _ ((Below.refl _ _).drew))) (first | (go_at_call 34; (first | with_reducible refine (E0.out _ (by go_split_ands; assumption)).mono ?_ | with_reducible refine (E1.out _ (by go_split_ands; assumption)).mono ?_); rintro e w' ⟨rfl, hb⟩) | (go_at_call 59; (first | with_reducible refine (T0.out _).mono ?_ | with_reducible refine (T1.out _).mono ?_); rintro e w' ⟨rfl, rfl⟩) | (go_at_call 58; (with_reducible refine (PL.out _).mono ?_); rintro e w' ⟨rfl, rfl⟩))
    rename_i hSS
    obtain ⟨cc0, _, _, _, _, _, _, _, hBB⟩ := hSS
    go_wp2_with fail
    refine (PM.out _).mono ?_
    rintro e w2 ⟨rfl, rfl⟩
    go_wp2_with fail
    go_ret
    exact ⟨rfl, by rw [← hX] at *; exact hB.trans (hBB.mono hB.size)⟩
  · have hm2 : ks.len = 2 := m2 (.inr rfl)
    obtain rfl : m = 2 := by omega
    obtain ⟨x1, x2⟩ := a1 (by omega)
    obtain ⟨y1, y2⟩ := b1 (.inr rfl)
    obtain ⟨r1, r2⟩ := ER 0 (by omega)
    obtain ⟨s1, s2⟩ := ER 1 (by omega)
    obtain ⟨b, o, p0, n0, d0, p1, n1, d1, rfl, hb, g0, g1, g2, g3, g4, g5, hk, hk'⟩ := hK0.out.two
    have hl0 : lim ≤ w0.heap.size := by omega
    have E0 := Lib.hid (fun w' (hb : Below w0.heap.size w0 w') => EO 0 (.slice p0 n0 d0) w' (by omega) (hk.below hl0 hb) (by have := hb.size; omega))
    have E1 := Lib.hid (fun w' (hb : Below w0.heap.size w0 w') => EO 1 (.slice p1 n1 d1) w' (by omega) (hk'.below hl0 hb) (by have := hb.size; omega))
    have T0 := Lib.hid (fun w => r18_times (ks.n 1) (ks.ests.getD 0 0) w (by omega) (by omega))
    have T1 := Lib.hid (fun w => r18_times (ks.n 0) (ks.ests.getD 1 0) w (by omega) (by omega))
    have q1 := capm_nn (Int.mul_nonneg (show 0 ≤ ks.n 1 by omega) (show 0 ≤ ks.ests.getD 0 0 by omega))
    have q2 := capm_nn (Int.mul_nonneg (show 0 ≤ ks.n 0 by omega) (show 0 ≤ ks.ests.getD 1 0 by omega))
    have q3 := capm_le (ks.n 1 * ks.ests.getD 0 0)
    have q4 := capm_le (ks.n 0 * ks.ests.getD 1 0)
    have PL := Lib.hid (fun w => r18_add (capm (ks.n 1 * ks.ests.getD 0 0)) (capm (ks.n 0 * ks.ests.getD 1 0)) w ⟨by omega, by omega⟩ ⟨by omega, by omega⟩)
    have q5 := capm_nn (show 0 ≤ capm (ks.n 1 * ks.ests.getD 0 0) + capm (ks.n 0 * ks.ests.getD 1 0) by omega)
    have q6 := capm_le (capm (ks.n 1 * ks.ests.getD 0 0) + capm (ks.n 0 * ks.ests.getD 1 0))
    rw [estC_5]
    generalize capm (capm (ks.n 1 * ks.ests.getD 0 0) + capm (ks.n 0 * ks.ests.getD 1 0)) = z0 at *
    generalize capm (ks.n 1 * ks.ests.getD 0 0) = z1 at *
    generalize capm (ks.n 0 * ks.ests.getD 1 0) = z2 at *
    generalize ks.ests.getD 0 0 = e0 at *
    generalize ks.ests.getD 1 0 = e1 at *
    generalize ks.k 0 = ka at *
    generalize ks.n 0 = na at *
    generalize ks.k 1 = kb at *
    generalize ks.n 1 = nb at *
    have lX : W.heap.size < w0.heap.size := by omega
    have lb : b < w0.heap.size := by omega
    have MK := Lib.hid (fun w' (hb : Below w0.heap.size w0 w') => (show w'.cell? ⟨W.heap.size, 0, none⟩ = some (.int .i64 5) ∧ w'.cell? ⟨W.heap.size, 2, none⟩ = some (.slice (some ⟨b, o, none⟩) 2 c) ∧ w'.cell? ⟨b, o, none⟩ = some (.int .i64 ka) ∧ w'.cell? ⟨b, o + 1, none⟩ = some (.int .i64 na) ∧ w'.cell? ⟨b, o + 2, none⟩ = some (.slice p0 n0 d0) ∧ w'.cell? ⟨b, o + 3, none⟩ = some (.int .i64 kb) ∧ w'.cell? ⟨b, o + 3 + 1, none⟩ = some (.int .i64 nb) ∧ w'.cell? ⟨b, o + 3 + 2, none⟩ = some (.slice p1 n1 d1) ∧ Below w0.heap.size w0 w' from
      ⟨(hb.cell (p := ⟨W.heap.size, 0, none⟩) lX).trans c0, (hb.cell (p := ⟨W.heap.size, 2, none⟩) lX).trans c2, (hb.cell (p := ⟨b, o, none⟩) lb).trans g0, (hb.cell (p := ⟨b, o + 1, none⟩) lb).trans g1, (hb.cell (p := ⟨b, o + 2, none⟩) lb).trans g2, (hb.cell (p := ⟨b, o + 3, none⟩) lb).trans g3, (hb.cell (p := ⟨b, o + 3 + 1, none⟩) lb).trans g4, (hb.cell (p := ⟨b, o + 3 + 2, none⟩) lb).trans g5, hb⟩))
    have KP := Lib.hid (fun w1 w' (hS : w1.cell? ⟨W.heap.size, 0, none⟩ = some (.int .i64 5) ∧ w1.cell? ⟨W.heap.size, 2, none⟩ = some (.slice (some ⟨b, o, none⟩) 2 c) ∧ w1.cell? ⟨b, o, none⟩ = some (.int .i64 ka) ∧ w1.cell? ⟨b, o + 1, none⟩ = some (.int .i64 na) ∧ w1.cell? ⟨b, o + 2, none⟩ = some (.slice p0 n0 d0) ∧ w1.cell? ⟨b, o + 3, none⟩ = some (.int .i64 kb) ∧ w1.cell? ⟨b, o + 3 + 1, none⟩ = some (.int .i64 nb) ∧ w1.cell? ⟨b, o + 3 + 2, none⟩ = some (.slice p1 n1 d1) ∧ Below w0.heap.size w0 w1) (hb : Below w1.heap.size w1 w') => MK.out w' (hS.2.2.2.2.2.2.2.2.trans (hb.mono hS.2.2.2.2.2.2.2.2.size)))
    clear hK hK0 EO ER a1 b1 m0 m1 m2 p2 h1 h2
    go_enter Try.func34, Try.ntmps34
    go_wp2_with fail
    rw [← hw0]
    clear hw0
    go_wp2_with fail
    generalize hX : W.heap.size = X at *
    go_region_held3 (fun w' => w'.cell? ⟨X, 0, none⟩ = some (.int .i64 5) ∧ w'.cell? ⟨X, 2, none⟩ = some (.slice (some ⟨b, o, none⟩) 2 c) ∧ w'.cell? ⟨b, o, none⟩ = some (.int .i64 ka) ∧ w'.cell? ⟨b, o + 1, none⟩ = some (.int .i64 na) ∧ w'.cell? ⟨b, o + 2, none⟩ = some (.slice p0 n0 d0) ∧ w'.cell? ⟨b, o + 3, none⟩ = some (.int .i64 kb) ∧ w'.cell? ⟨b, o + 3 + 1, none⟩ = some (.int .i64 nb) ∧ w'.cell? ⟨b, o + 3 + 2, none⟩ = some (.slice p1 n1 d1) ∧ Below w0.heap.size w0 w') (first | exact MK.out _ ((Below.refl _ _).drew) | assumption | (refine KP.out _ _ ?_ hb; first | assumption | exact MK.out _ ((Below.refl _ _).drew))) (first | (go_at_call 34; (first | with_reducible refine (E0.out _ (by go_split_ands; assumption)).mono ?_ | with_reducible refine (E1.out _ (by go_split_ands; assumption)).mono ?_); rintro e w' ⟨rfl, hb⟩) | (go_at_call 59; (first | with_reducible refine (T0.out _).mono ?_ | with_reducible refine (T1.out _).mono ?_); rintro e w' ⟨rfl, rfl⟩) | (go_at_call 58; (with_reducible refine (PL.out _).mono ?_); rintro e w' ⟨rfl, rfl⟩))
    rename_i hSS
    obtain ⟨cc0, _, _, _, _, _, _, _, hBB⟩ := hSS
    go_wp2_with fail
    go_ret
    exact ⟨rfl, by rw [← hX] at *; exact hB.trans (hBB.mono hB.size)⟩
  · have hm1 : ks.len = 1 := m1 (.inl rfl)
    obtain rfl : m = 1 := by omega
    obtain ⟨x1, x2⟩ := a1 (by omega)
    obtain ⟨r1, r2⟩ := ER 0 (by omega)
    obtain ⟨b, o, p0, n0, c0', rfl, hb, g0, g1, g2, hk⟩ := hK0.out.one
    have hl0 : lim ≤ w0.heap.size := by omega
    have EK := Lib.hid (fun w' (hb : Below w0.heap.size w0 w') => EO 0 (.slice p0 n0 c0') w' (by omega) (hk.below hl0 hb) (by have := hb.size; omega))
    have T0 := Lib.hid (fun w => r18_times 2 (ks.ests.getD 0 0) w (by omega) (by omega))
    have hq0 := capm_nn (show 0 ≤ 2 * ks.ests.getD 0 0 by omega)
    have hq1 := capm_le (2 * ks.ests.getD 0 0)
    rw [estC_6]
    have PL := Lib.hid (fun w => r18_add (capm (2 * ks.ests.getD 0 0)) (2 * n) w ⟨by omega, by omega⟩ ⟨by omega, by omega⟩)
    have hwn : IntKind.i64.wrap (2 * n) = 2 * n := IntWalk.i64_in _ (by omega)
    generalize capm (capm (2 * ks.ests.getD 0 0) + 2 * n) = z at *
    generalize capm (2 * ks.ests.getD 0 0) = z0 at *
    generalize ks.ests.getD 0 0 = q at *
    generalize ks.k 0 = ka at *
    generalize ks.n 0 = na at *
    have EK1 := Lib.hid (EK.out w0 (Below.refl _ _))
    clear hK hK0 EO ER EK a1 b1 m0 m1 m2 p2 h1 h2 hk
    rw [hw0] at g0 g1 g2 EK1
    go_enter Try.func34, Try.ntmps34
    go_wp2_with fail
    refine EK1.out.mono ?_
    rintro e w1 ⟨rfl, b1⟩
    go_wp2_with fail
    refine (T0.out _).mono ?_
    rintro e w2 ⟨rfl, rfl⟩
    go_wp2_with fail
    refine (PL.out _).mono ?_
    rintro e w2 ⟨rfl, rfl⟩
    go_wp2_with fail
    go_ret
    rw [← hw0] at b1
    exact ⟨rfl, hB.trans (b1.mono hB.size)⟩
  · have hm1 : ks.len = 1 := m1 (.inr rfl)
    obtain rfl : m = 1 := by omega
    obtain ⟨x1, x2⟩ := a1 (by omega)
    obtain ⟨r1, r2⟩ := ER 0 (by omega)
    obtain ⟨b, o, p0, n0, c0', rfl, hb, g0, g1, g2, hk⟩ := hK0.out.one
    have hl0 : lim ≤ w0.heap.size := by omega
    have EK := Lib.hid (fun w' (hb : Below w0.heap.size w0 w') => EO 0 (.slice p0 n0 c0') w' (by omega) (hk.below hl0 hb) (by have := hb.size; omega))
    have T0 := Lib.hid (fun w => r18_times 2 (ks.ests.getD 0 0) w (by omega) (by omega))
    have hq0 := capm_nn (show 0 ≤ 2 * ks.ests.getD 0 0 by omega)
    have hq1 := capm_le (2 * ks.ests.getD 0 0)
    rw [estC_7]
    have PL := Lib.hid (fun w => r18_add (capm (2 * ks.ests.getD 0 0)) (ks.n 0) w ⟨by omega, by omega⟩ ⟨by omega, by omega⟩)
    have hq2 := capm_nn (show 0 ≤ capm (2 * ks.ests.getD 0 0) + ks.n 0 by omega)
    have hq3 := capm_le (capm (2 * ks.ests.getD 0 0) + ks.n 0)
    have hwn : IntKind.i64.wrap (3 * n) = 3 * n := IntWalk.i64_in _ (by omega)
    have PM := Lib.hid (fun w => r18_add (capm (capm (2 * ks.ests.getD 0 0) + ks.n 0)) (3 * n) w ⟨by omega, by omega⟩ ⟨by omega, by omega⟩)
    generalize capm (capm (capm (2 * ks.ests.getD 0 0) + ks.n 0) + 3 * n) = z at *
    generalize capm (capm (2 * ks.ests.getD 0 0) + ks.n 0) = z1 at *
    generalize capm (2 * ks.ests.getD 0 0) = z0 at *
    generalize ks.ests.getD 0 0 = q at *
    generalize ks.k 0 = ka at *
    generalize ks.n 0 = na at *
    have lX : W.heap.size < w0.heap.size := by omega
    have lb : b < w0.heap.size := by omega
    have MK := Lib.hid (fun w' (hb : Below w0.heap.size w0 w') => (show w'.cell? ⟨W.heap.size, 2, none⟩ = some (.slice (some ⟨b, o, none⟩) 1 c) ∧ w'.cell? ⟨b, o, none⟩ = some (.int .i64 ka) ∧ w'.cell? ⟨b, o + 1, none⟩ = some (.int .i64 na) ∧ w'.cell? ⟨b, o + 2, none⟩ = some (.slice p0 n0 c0') ∧ Below w0.heap.size w0 w' from
      ⟨(hb.cell (p := ⟨W.heap.size, 2, none⟩) lX).trans c2, (hb.cell (p := ⟨b, o, none⟩) lb).trans g0, (hb.cell (p := ⟨b, o + 1, none⟩) lb).trans g1, (hb.cell (p := ⟨b, o + 2, none⟩) lb).trans g2, hb⟩))
    have KP := Lib.hid (fun w1 w' (hS : w1.cell? ⟨W.heap.size, 2, none⟩ = some (.slice (some ⟨b, o, none⟩) 1 c) ∧ w1.cell? ⟨b, o, none⟩ = some (.int .i64 ka) ∧ w1.cell? ⟨b, o + 1, none⟩ = some (.int .i64 na) ∧ w1.cell? ⟨b, o + 2, none⟩ = some (.slice p0 n0 c0') ∧ Below w0.heap.size w0 w1) (hb : Below w1.heap.size w1 w') => MK.out w' (hS.2.2.2.2.trans (hb.mono hS.2.2.2.2.size)))
    clear hK hK0 ER a1 b1 m0 m1 m2 p2 h1 h2
    go_enter Try.func34, Try.ntmps34
    go_wp2_with fail
    rw [← hw0]
    clear hw0
    go_wp2_with fail
    generalize hX : W.heap.size = X at *
    go_region_held3 (fun w' => w'.cell? ⟨X, 2, none⟩ = some (.slice (some ⟨b, o, none⟩) 1 c) ∧ w'.cell? ⟨b, o, none⟩ = some (.int .i64 ka) ∧ w'.cell? ⟨b, o + 1, none⟩ = some (.int .i64 na) ∧ w'.cell? ⟨b, o + 2, none⟩ = some (.slice p0 n0 c0') ∧ Below w0.heap.size w0 w') (first | exact MK.out _ ((Below.refl _ _).drew) | assumption | (refine KP.out _ _ ?_ hb; first | assumption | exact MK.out _ ((Below.refl _ _).drew))) (first | (go_at_call 34; (with_reducible refine (EK.out _ (by go_split_ands; assumption)).mono ?_); rintro e w' ⟨rfl, hb⟩) | (go_at_call 59; (with_reducible refine (T0.out _).mono ?_); rintro e w' ⟨rfl, rfl⟩) | (go_at_call 58; (first | with_reducible refine (PL.out _).mono ?_ | with_reducible refine (PM.out _).mono ?_); rintro e w' ⟨rfl, rfl⟩))
    rename_i hSS
    obtain ⟨_, _, _, _, hBB⟩ := hSS
    go_wp2_with fail
    go_ret
    exact ⟨rfl, by rw [← hX] at *; exact hB.trans (hBB.mono hB.size)⟩
theorem r18_est (N : Nat) : ∀ (ks : Fo) (k n : Int) (v : Value) (lim : Nat) (W : World), ks.cnt ≤ N → Kids W lim v ks → lim ≤ W.heap.size → (Nd.mk k n ks).ok = true → ks.pre.all Nd.ok = true →
    Calls Try.prog 34 #[.agg #[.int .i64 k, .int .i64 n, v]] W fun e w' => e = .returned (.int .i64 (estN k n ks)) ∧ Below W.heap.size W w' := by
  induction N using Nat.strongRecOn with
  | _ N ih =>
  intro ks k n v lim W hN hK hl h1 h2
  obtain ⟨p, m, c, rfl, _, _, HM⟩ := hK.shape
  refine r18_est_node k n ks m c lim p W HM.out.symm hK hl (fun i u w hi hu hw => ?_) h1 h2
  obtain ⟨g1, g2⟩ := ok_kid ks i h2 hi
  have hc := Fo.cnt_kids ks i hi
  have := ih (ks.kids i).cnt (by omega) (ks.kids i) (ks.k i) (ks.n i) u lim w (Nat.le_refl _) hu hw g1 g2
  rw [ests_get ks i hi]
  exact this
end Go.Proofs.Ytfjioflggkmhcaa
