/- CostTells: the work of any plan is as reckoned by definition, and a tree that is none is not reckoned; of arguments of a bulk of at most 1048576. -/
import Derived.Test.YtfjioflggkmhcaaCoste
namespace Go.Proofs.Ytfjioflggkmhcaa
open Go.ChangeShapes Go.WideShapes Go.ChangeAt Go.RowKit
set_option linter.unusedVariables false
namespace costTells
theorem chkd_zero {k n : Int} {ks : Fo} (h : chkd k n ks = 0) : ¬ (60 < ks.cnt + 1 ∨ 12 < ks.depth + 1) := fun hb => by
  unfold chkd at h; rw [if_pos hb] at h; cases h
theorem chkd_kid {k n : Int} {ks : Fo} {i : Nat} (hi : i < ks.len) (h : chkd k n ks = 0) : chkd (ks.k i) (ks.n i) (ks.kids i) = 0 := by
  have h1 := chkd_zero h
  obtain ⟨_, g2⟩ := chkd_ok h
  obtain ⟨g3, g4⟩ := ok_kid ks i g2 hi
  have h2 := Fo.cnt_kids ks i hi
  have h3 := Fo.depth_kids ks i hi
  unfold chkd
  rw [if_neg (by omega), List.all_cons, g3, g4]
  rfl
set_option maxRecDepth 100000 in
set_option maxHeartbeats 4000000 in
theorem main (dk n : Int) (s : Value) (t : Fo) (W : World) (hK : Kids W W.heap.size s t) (wf : t.wf) (wk : -9223372036854775808 ≤ dk ∧ dk ≤ 9223372036854775807) (wn : -9223372036854775808 ≤ n ∧ n ≤ 9223372036854775807) (hN : t.cnt ≤ 1048576) :
    Calls Try.prog 7 #[.agg #[.int .i64 dk, .int .i64 n, s]] W fun e w' => e = .returned (.bool true) ∧ Below W.heap.size W w' := by
  have LV := Lib.hid (fun w => live18 w)
  obtain ⟨p, m, c, rfl, hc1, hc2, HM⟩ := hK.shape
  obtain ⟨w0, hw0, c0, c1, c2, hB, hs0⟩ := box3 W dk n (.slice p m c) 24
  have hK0 := hK.below (Nat.le_refl _) hB
  have MU := Lib.hid (r13_much t (.slice p m c) dk n W.heap.size w0 hN hK0 (by omega))
  have RC := Lib.hid (fun w' h1 h2 => r14_check t (.slice p m c) dk n W.heap.size w' hN h1 h2 wk wn wf)
  have CT := Lib.hid (fun w' h1 h2 => cost_top t (.slice p m c) dk n W.heap.size w' hN h1 h2 wn wf)
  have xa : W.heap.size < w0.heap.size := by omega
  by_cases hbig : 80 < t.cnt + 1
  · rw [decide_eq_true hbig] at MU
    clear RC CT hK hK0 HM hN
    go_enter Try.func7, Try.ntmps7
    go_wp2_with fail
    rw [← hw0]
    clear hw0
    refine MU.out.mono ?_
    rintro e w2 ⟨rfl, b2⟩
    go_wp2_with fail
    refine (LV.out _).mono ?_
    rintro e w3 ⟨rfl, b3⟩
    go_wp2_with fail
    go_ret
    exact ⟨rfl, hB.trans ((b2.trans (b3.mono b2.size)).mono hB.size)⟩
  rw [decide_eq_false hbig] at MU
  by_cases hck : chkd dk n t = 0
  case neg =>
    have d0 : (chkd dk n t != 0) = true := by simp [hck]
    rw [show costE dk n t = 0 from if_neg hck] at CT
    generalize chkd dk n t = ck at *
    clear hbig HM hN
    go_enter Try.func7, Try.ntmps7
    go_wp2_with fail
    rw [← hw0]
    clear hw0
    refine MU.out.mono ?_
    rintro e w2 ⟨rfl, b2⟩
    have hK2 := hK0.below (by omega) b2
    have hs2 := b2.size
    have e0 := (b2.cell (p := ⟨W.heap.size, 0, none⟩) xa).trans c0
    have e1 := (b2.cell (p := ⟨W.heap.size, 1, none⟩) xa).trans c1
    have e2 := (b2.cell (p := ⟨W.heap.size, 2, none⟩) xa).trans c2
    clear c0 c1 c2 hK0
    go_wp2_with fail
    refine (CT.out _ hK2 (by omega)).mono ?_
    rintro e w3 ⟨rfl, b3⟩
    have b3' := b2.trans (b3.mono hs2)
    have hK3 := hK2.below (by omega) b3
    have hs3 := b3.size
    have f0 := (b3.cell (p := ⟨W.heap.size, 0, none⟩) (by show W.heap.size < w2.heap.size; omega)).trans e0
    have f1 := (b3.cell (p := ⟨W.heap.size, 1, none⟩) (by show W.heap.size < w2.heap.size; omega)).trans e1
    have f2 := (b3.cell (p := ⟨W.heap.size, 2, none⟩) (by show W.heap.size < w2.heap.size; omega)).trans e2
    clear e0 e1 e2 hK2 b3 b2
    go_wp2_with fail
    refine (RC.out _ hK3 (by omega)).mono ?_
    rintro e w4 ⟨rfl, b4⟩
    have b4' := b3'.trans (b4.mono b3'.size)
    clear hK3 b3' b4
    go_wp2_with fail
    refine (LV.out _).mono ?_
    rintro e w5 ⟨rfl, b5⟩
    go_wp2_with fail
    go_ret
    exact ⟨rfl, hB.trans ((b4'.trans (b5.mono b4'.size)).mono hB.size)⟩
  obtain ⟨g1, g2⟩ := chkd_ok hck
  have ER := estN_rng g1 g2
  have RE := Lib.hid (fun w' h1 h2 => r18_est t.cnt t dk n (.slice p m c) W.heap.size w' (Nat.le_refl _) h1 h2 g1 g2)
  have KC := Lib.hid (fun (hi : 0 < t.len) => chkd_kid hi hck)
  have KE := Lib.hid (fun (h : t.len = 1) => est_one g1 g2 h)
  have KT := Lib.hid (fun (u : Value) (w' : World) (hi : 0 < t.len) (h1 : Kids w' W.heap.size u (t.kids 0)) h2 => cost_top (t.kids 0) u (t.k 0) (t.n 0) W.heap.size w' (by have := Fo.cnt_kids t 0 hi; omega) h1 h2 (Fo.wf_at t 0 wf hi).2.1 (Fo.wf_at t 0 wf hi).2.2)
  have KG := Lib.hid (fun (hi : 0 < t.len) => ests_get t 0 hi)
  rw [show costE dk n t = estN dk n t from if_pos hck, hck] at CT
  rw [hck] at RC
  generalize estN dk n t = E at *
  have d1 : decide (E < 1) = false := decide_eq_false (by omega)
  have d2 : decide (1152921504606846976 < E) = false := decide_eq_false (by omega)
  by_cases hm : m = 1
  case neg =>
    have dm : ((m : Int) == 1) = false := by simp; omega
    clear hbig KC KE KT KG hN g1 g2 ER hck
    go_enter Try.func7, Try.ntmps7
    go_wp2_with fail
    rw [← hw0]
    clear hw0
    refine MU.out.mono ?_
    rintro e w2 ⟨rfl, b2⟩
    have hK2 := hK0.below (by omega) b2
    have hs2 := b2.size
    have e0 := (b2.cell (p := ⟨W.heap.size, 0, none⟩) xa).trans c0
    have e1 := (b2.cell (p := ⟨W.heap.size, 1, none⟩) xa).trans c1
    have e2 := (b2.cell (p := ⟨W.heap.size, 2, none⟩) xa).trans c2
    clear c0 c1 c2 hK0
    go_wp2_with fail
    refine (CT.out _ hK2 (by omega)).mono ?_
    rintro e w3 ⟨rfl, b3⟩
    have b3' := b2.trans (b3.mono hs2)
    have hK3 := hK2.below (by omega) b3
    have hs3 := b3.size
    have f0 := (b3.cell (p := ⟨W.heap.size, 0, none⟩) (by show W.heap.size < w2.heap.size; omega)).trans e0
    have f1 := (b3.cell (p := ⟨W.heap.size, 1, none⟩) (by show W.heap.size < w2.heap.size; omega)).trans e1
    have f2 := (b3.cell (p := ⟨W.heap.size, 2, none⟩) (by show W.heap.size < w2.heap.size; omega)).trans e2
    clear e0 e1 e2 hK2 b3 b2
    go_wp2_with fail
    refine (RC.out _ hK3 (by omega)).mono ?_
    rintro e w4 ⟨rfl, b4⟩
    have b4' := b3'.trans (b4.mono b3'.size)
    have hK4 := hK3.below (by omega) b4
    have hs4 := b4.size
    have h0 := (b4.cell (p := ⟨W.heap.size, 0, none⟩) (by show W.heap.size < w3.heap.size; omega)).trans f0
    have h1 := (b4.cell (p := ⟨W.heap.size, 1, none⟩) (by show W.heap.size < w3.heap.size; omega)).trans f1
    have h2 := (b4.cell (p := ⟨W.heap.size, 2, none⟩) (by show W.heap.size < w3.heap.size; omega)).trans f2
    clear hK3 b3' b4 f0 f1 f2
    go_wp2_with fail
    refine (RE.out _ hK4 (by omega)).mono ?_
    rintro e w5 ⟨rfl, b5⟩
    have b5' := b4'.trans (b5.mono b4'.size)
    have i2 := (b5.cell (p := ⟨W.heap.size, 2, none⟩) (by show W.heap.size < w4.heap.size; omega)).trans h2
    clear hK4 b4' b5 h0 h1 h2
    go_wp2_with fail
    refine (LV.out _).mono ?_
    rintro e w6 ⟨rfl, b6⟩
    go_wp2_with fail
    go_ret
    exact ⟨rfl, hB.trans ((b5'.trans (b6.mono b5'.size)).mono hB.size)⟩
  subst hm
  have hm : t.len = 1 := HM.out.symm
  have hi : 0 < t.len := by omega
  have ke := KE.out hm
  have kc := KC.out hi
  have kg := KG.out hi
  have KT := Lib.hid (fun u w' h1 h2 => KT.out u w' hi h1 h2)
  rw [show costE (t.k 0) (t.n 0) (t.kids 0) = estN (t.k 0) (t.n 0) (t.kids 0) from if_pos kc, kc, ← kg] at KT
  obtain ⟨r1, r2⟩ := ests_rng t g2 0 hi
  obtain ⟨b, o, p0, m0, d0, rfl, hb, a0, a1, a2, hk⟩ := hK0.one
  generalize t.ests.getD 0 0 = q at *
  generalize t.k 0 = ka at *
  generalize t.n 0 = na at *
  have wq : IntKind.i64.wrap (2 * q) = 2 * q ∨ E = 1152921504606846976 := by
    rcases ke with h | h
    · exact .inr h
    · exact .inl (IntWalk.i64_in _ (by omega))
  clear hbig KC KE KG hN g1 g2 hck kc kg hm hi HM hK
  have la : W.heap.size < w0.heap.size := xa
  have lb : b < w0.heap.size := by omega
  have MK := Lib.hid (fun w' (hb : Below w0.heap.size w0 w') => (show w'.cell? ⟨W.heap.size, 0, none⟩ = some (.int .i64 dk) ∧ w'.cell? ⟨W.heap.size, 1, none⟩ = some (.int .i64 n) ∧ w'.cell? ⟨W.heap.size, 2, none⟩ = some (.slice (some ⟨b, o, none⟩) 1 c) ∧ w'.cell? ⟨b, o, none⟩ = some (.int .i64 ka) ∧ w'.cell? ⟨b, o + 1, none⟩ = some (.int .i64 na) ∧ w'.cell? ⟨b, o + 2, none⟩ = some (.slice p0 m0 d0) from
    ⟨(hb.cell (p := ⟨W.heap.size, 0, none⟩) la).trans c0, (hb.cell (p := ⟨W.heap.size, 1, none⟩) la).trans c1, (hb.cell (p := ⟨W.heap.size, 2, none⟩) la).trans c2, (hb.cell (p := ⟨b, o, none⟩) lb).trans a0, (hb.cell (p := ⟨b, o + 1, none⟩) lb).trans a1, (hb.cell (p := ⟨b, o + 2, none⟩) lb).trans a2⟩))
  have hl0 : W.heap.size ≤ w0.heap.size := by omega
  have CT := Lib.hid (fun w' (hb : Below w0.heap.size w0 w') => CT.out w' (hK0.below hl0 hb) (by have := hb.size; omega))
  have RC := Lib.hid (fun w' (hb : Below w0.heap.size w0 w') => RC.out w' (hK0.below hl0 hb) (by have := hb.size; omega))
  have RE := Lib.hid (fun w' (hb : Below w0.heap.size w0 w') => RE.out w' (hK0.below hl0 hb) (by have := hb.size; omega))
  have KT := Lib.hid (fun w' (hb : Below w0.heap.size w0 w') => KT.out (.slice p0 m0 d0) w' (hk.below hl0 hb) (by have := hb.size; omega))
  clear c0 c1 c2 a0 a1 a2 hK0 hk
  by_cases hE : E = 1152921504606846976
  · have dE : (E == 1152921504606846976) = true := by simp [hE]
    go_enter Try.func7, Try.ntmps7
    go_wp2_with fail
    rw [← hw0]
    clear hw0
    refine MU.out.mono ?_
    rintro e w2 ⟨rfl, b2⟩
    obtain ⟨c0, c1, c2, a0, a1, a2⟩ := MK.out _ b2
    go_wp2_with fail
    refine (CT.out _ b2).mono ?_
    rintro e w3 ⟨rfl, b3⟩
    have b3 := b2.trans (b3.mono b2.size)
    clear c0 c1 c2 a0 a1 a2
    obtain ⟨c0, c1, c2, a0, a1, a2⟩ := MK.out _ b3
    go_wp2_with fail
    refine (RC.out _ b3).mono ?_
    rintro e w4 ⟨rfl, b4⟩
    have b4 := b3.trans (b4.mono b3.size)
    clear c0 c1 c2 a0 a1 a2
    obtain ⟨c0, c1, c2, a0, a1, a2⟩ := MK.out _ b4
    go_wp2_with fail
    refine (RE.out _ b4).mono ?_
    rintro e w5 ⟨rfl, b5⟩
    have b5 := b4.trans (b5.mono b4.size)
    clear c0 c1 c2 a0 a1 a2
    obtain ⟨c0, c1, c2, a0, a1, a2⟩ := MK.out _ b5
    go_wp2_with fail
    refine (KT.out _ b5).mono ?_
    rintro e w6 ⟨rfl, b6⟩
    have b6 := b5.trans (b6.mono b5.size)
    clear c0 c1 c2 a0 a1 a2
    go_wp2_with fail
    refine (LV.out _).mono ?_
    rintro e w7 ⟨rfl, b7⟩
    go_wp2_with fail
    go_ret
    exact ⟨rfl, hB.trans ((b6.trans (b7.mono b6.size)).mono hB.size)⟩
  · have dE : (E == 1152921504606846976) = false := by simp [hE]
    have w2q : IntKind.i64.wrap (2 * q) = 2 * q := by rcases wq with h | h; exact h; exact absurd h hE
    have dq : decide (2 * q ≤ E) = true := decide_eq_true (by rcases ke with h | h; exact absurd h hE; exact h)
    clear wq ke
    go_enter Try.func7, Try.ntmps7
    go_wp2_with fail
    rw [← hw0]
    clear hw0
    refine MU.out.mono ?_
    rintro e w2 ⟨rfl, b2⟩
    obtain ⟨c0, c1, c2, a0, a1, a2⟩ := MK.out _ b2
    go_wp2_with fail
    refine (CT.out _ b2).mono ?_
    rintro e w3 ⟨rfl, b3⟩
    have b3 := b2.trans (b3.mono b2.size)
    clear c0 c1 c2 a0 a1 a2
    obtain ⟨c0, c1, c2, a0, a1, a2⟩ := MK.out _ b3
    go_wp2_with fail
    refine (RC.out _ b3).mono ?_
    rintro e w4 ⟨rfl, b4⟩
    have b4 := b3.trans (b4.mono b3.size)
    clear c0 c1 c2 a0 a1 a2
    obtain ⟨c0, c1, c2, a0, a1, a2⟩ := MK.out _ b4
    go_wp2_with fail
    refine (RE.out _ b4).mono ?_
    rintro e w5 ⟨rfl, b5⟩
    have b5 := b4.trans (b5.mono b4.size)
    clear c0 c1 c2 a0 a1 a2
    obtain ⟨c0, c1, c2, a0, a1, a2⟩ := MK.out _ b5
    go_wp2_with fail
    refine (KT.out _ b5).mono ?_
    rintro e w6 ⟨rfl, b6⟩
    have b6 := b5.trans (b6.mono b5.size)
    clear c0 c1 c2 a0 a1 a2
    go_wp2_with fail
    refine (LV.out _).mono ?_
    rintro e w7 ⟨rfl, b7⟩
    go_wp2_with fail
    go_ret
    exact ⟨rfl, hB.trans ((b6.trans (b7.mono b6.size)).mono hB.size)⟩
theorem walk (W : World) (dk0 dn0 : Int) (s0 : Value) (t0 : Fo) (hK0 : Kids W W.heap.size s0 t0) (wf0 : t0.wf) (wk0 : -9223372036854775808 ≤ dk0 ∧ dk0 ≤ 9223372036854775807) (wn0 : -9223372036854775808 ≤ dn0 ∧ dn0 ≤ 9223372036854775807) (hN0 : t0.cnt + 1 ≤ 1048576) :
    Calls Try.prog 7 #[.agg #[.int .i64 dk0, .int .i64 dn0, s0]] W fun e W' => e = .returned (.bool true) ∧ Below W.heap.size W W' :=
  main dk0 dn0 s0 t0 W hK0 wf0 wk0 wn0 (by omega)
end costTells
end Go.Proofs.Ytfjioflggkmhcaa
