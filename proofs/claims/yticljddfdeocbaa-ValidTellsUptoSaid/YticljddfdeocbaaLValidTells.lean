/- ValidTells: which trees are plans, which node is the first that is not right, for which keys they are plans; of arguments of a bulk of at most 1048576. -/
import Derived.Test.YticljddfdeocbaaD11
namespace Go.Proofs.Yticljddfdeocbaa
open Go.ChangeShapes Go.WideShapes Go.ChangeAt Go.RowKit
set_option linter.unusedVariables false
namespace validTells
set_option maxRecDepth 100000 in
set_option maxHeartbeats 8000000 in
theorem main (dk n : Int) (s : Value) (t : Fo) (ka kd : Int) (W : World) (hK : Kids W W.heap.size s t) (wf : t.wf) (wk : -9223372036854775808 ≤ dk ∧ dk ≤ 9223372036854775807) (wn : -9223372036854775808 ≤ n ∧ n ≤ 9223372036854775807) (hN : t.cnt ≤ 1048576) (wa : -9223372036854775808 ≤ ka ∧ ka ≤ 9223372036854775807) :
    Calls Try.prog 6 #[.agg #[.int .i64 dk, .int .i64 n, s], .agg #[.int .i64 ka, .int .i64 kd]] W fun e w' => e = .returned (.bool true) ∧ Below W.heap.size W w' := by
  have LV := Lib.hid (fun w => live14 w)
  obtain ⟨p, m, c, rfl, hc1, hc2, HM⟩ := hK.shape
  obtain ⟨w0, hw0, c0, c1, c2, hB0, hs0⟩ := box3 W dk n (.slice p m c) 24
  obtain ⟨w1, hw1, a0, a1, hB1, hs1⟩ := box2 w0 ka kd 44
  have hK1 := (hK.below (Nat.le_refl _) hB0).below (by omega) hB1
  have HKK := Lib.hid (fun (w' : World) (hb : Below w1.heap.size w1 w') => hK1.below (by omega) hb)
  have hl := fun (w' : World) (hb : Below w1.heap.size w1 w') => (show W.heap.size ≤ w'.heap.size by have := hb.size; omega)
  have MU := Lib.hid (fun w' hb => r13_much t (.slice p m c) dk n W.heap.size w' hN (HKK.out w' hb) (hl w' hb))
  have VW := Lib.hid (fun w' hb => valid_wrong t (.slice p m c) dk n W.heap.size w' hN (HKK.out w' hb) (hl w' hb) wn wf)
  have RW := Lib.hid (fun w' hb => r14_wrong _ t (.slice p m c) dk n W.heap.size w' (Nat.le_refl _) hN (HKK.out w' hb) (hl w' hb) wn wf)
  have hlen : t.len ≤ 1048576 := Nat.le_trans (Fo.len_cnt t) hN
  have VN := Lib.hid (fun w' hb => valid_node dk n (.slice p m c) t W.heap.size w' wn (HKK.out w' hb) (hl w' hb) wf)
  have RN := Lib.hid (fun w' hb => r14_node dk n (.slice p m c) t W.heap.size w' wn (HKK.out w' hb) (hl w' hb) wf hlen)
  have VC := Lib.hid (fun w' hb => valid_check t (.slice p m c) dk n W.heap.size w' hN (HKK.out w' hb) (hl w' hb) wn wf)
  have RC := Lib.hid (fun w' hb => r14_check t (.slice p m c) dk n W.heap.size w' hN (HKK.out w' hb) (hl w' hb) wk wn wf)
  have VF := Lib.hid (fun w' hb => valid_for t (.slice p m c) ka kd dk n W.heap.size w' hN (HKK.out w' hb) (hl w' hb) wa wk wn wf)
  have RF := Lib.hid (fun w' hb => r14_for t (.slice p m c) ka kd dk n W.heap.size w' hN (HKK.out w' hb) (hl w' hb) wa wk wn wf)
  have xa : W.heap.size < w0.heap.size := by omega
  have xb : W.heap.size < w1.heap.size := by omega
  have xc : W.heap.size + 1 < w1.heap.size := by omega
  replace c0 := (hB1.cell (p := ⟨W.heap.size, 0, none⟩) xa).trans c0
  replace c1 := (hB1.cell (p := ⟨W.heap.size, 1, none⟩) xa).trans c1
  replace c2 := (hB1.cell (p := ⟨W.heap.size, 2, none⟩) xa).trans c2
  have hB := hB0.trans (hB1.mono hB0.size)
  rw [hw0] at hw1
  rw [hs0] at a0 a1
  have KP := Lib.hid (fun (w' : World) (hb : Below w1.heap.size w1 w') => (show w'.cell? ⟨W.heap.size, 0, none⟩ = some (.int .i64 dk) ∧ w'.cell? ⟨W.heap.size, 1, none⟩ = some (.int .i64 n) ∧ w'.cell? ⟨W.heap.size, 2, none⟩ = some (.slice p m c) ∧ w'.cell? ⟨W.heap.size + 1, 0, none⟩ = some (.int .i64 ka) ∧ w'.cell? ⟨W.heap.size + 1, 1, none⟩ = some (.int .i64 kd) ∧ Below w1.heap.size w1 w' from
    ⟨(hb.cell (p := ⟨W.heap.size, 0, none⟩) xb).trans c0, (hb.cell (p := ⟨W.heap.size, 1, none⟩) xb).trans c1, (hb.cell (p := ⟨W.heap.size, 2, none⟩) xb).trans c2, (hb.cell (p := ⟨W.heap.size + 1, 0, none⟩) xc).trans a0, (hb.cell (p := ⟨W.heap.size + 1, 1, none⟩) xc).trans a1, hb⟩))
  have R0 := Below.refl w1.heap.size w1
  generalize nodeB dk n t.len (t.n 0) (t.n 1) = zn at *
  generalize fori ka kd n (chkd dk n t) = zf at *
  generalize chkd dk n t = zc at *
  generalize wrongN dk n t = o at *
  clear hw0 hB0 hB1 hs0 hs1 xa hK hK1 HM hlen hN wf HKK hl
  by_cases hbig : 80 < t.cnt + 1
  · rw [decide_eq_true hbig] at MU
    go_enter Try.func6, Try.ntmps6
    go_wp2_with fail
    rw [← hw1]
    clear hw1
    refine (MU.out _ R0).mono ?_
    rintro e w2 ⟨rfl, b2⟩
    go_wp2_with fail
    refine (LV.out _).mono ?_
    rintro e w3 ⟨rfl, b3⟩
    go_wp2_with fail
    go_ret
    exact ⟨rfl, hB.trans ((b2.trans (b3.mono b2.size)).mono hB.size)⟩
  rw [decide_eq_false hbig] at MU
  go_enter Try.func6, Try.ntmps6
  go_wp2_with fail
  rw [← hw1]
  clear hw1
  refine (MU.out _ R0).mono ?_
  rintro e w2 ⟨rfl, b2⟩
  obtain ⟨e0, e1, e2, e3, e4, _⟩ := KP.out _ b2
  clear c0 c1 c2 a0 a1
  go_wp2_with fail
  refine (VW.out _ b2).mono ?_
  rintro e w3 ⟨pa, pn, pc, rfl, hP, b3⟩
  have hs2 := b2.size
  have b3' := b2.trans (b3.mono hs2)
  obtain ⟨f0, f1, f2, f3, f4, _⟩ := KP.out _ b3'
  have HP := Lib.hid hP
  clear e0 e1 e2 e3 e4 hP
  go_wp2_with fail
  refine (RW.out _ b3').mono ?_
  rintro e w4 ⟨qa, qn, qc, rfl, hQ, b4⟩
  have hs3 := b3'.size
  have b4' := b3'.trans (b4.mono hs3)
  have hl1 := HP.out.len
  have hl2 := hQ.len
  obtain rfl : pn = qn := by omega
  have HP4 := Lib.hid (HP.out.below b4)
  have HQ := Lib.hid hQ
  have hs4 : w1.heap.size ≤ w4.heap.size := b4'.size
  have KQ := Lib.hid (fun (w' : World) (hb : Below w4.heap.size w4 w') => KP.out w' (b4'.trans (hb.mono hs4)))
  clear f0 f1 f2 f3 f4 hQ hl1 hl2 b3 b4 HP
  have SM := Lib.hid (fun (w' : World) (hb : Below w4.heap.size w4 w') => c_samei (c := pc) (d := qc) (HP4.out.below hb) (HQ.out.below hb))
  have VN2 := Lib.hid (fun (w' : World) (hb : Below w4.heap.size w4 w') => VN.out w' (b4'.trans (hb.mono hs4)))
  have RN2 := Lib.hid (fun (w' : World) (hb : Below w4.heap.size w4 w') => RN.out w' (b4'.trans (hb.mono hs4)))
  have VC2 := Lib.hid (fun (w' : World) (hb : Below w4.heap.size w4 w') => VC.out w' (b4'.trans (hb.mono hs4)))
  have RC2 := Lib.hid (fun (w' : World) (hb : Below w4.heap.size w4 w') => RC.out w' (b4'.trans (hb.mono hs4)))
  have VF2 := Lib.hid (fun (w' : World) (hb : Below w4.heap.size w4 w') => VF.out w' (b4'.trans (hb.mono hs4)))
  have RF2 := Lib.hid (fun (w' : World) (hb : Below w4.heap.size w4 w') => RF.out w' (b4'.trans (hb.mono hs4)))
  clear VN RN VC RC VF RF MU VW RW KP R0 HP4 HQ
  go_wp2_with fail
  generalize W.heap.size + 1 = Y at *
  generalize hX : W.heap.size = X at *
  have K2 := Lib.hid (fun (w w' : World) (hS : w.cell? ⟨X, 0, none⟩ = some (.int .i64 dk) ∧ w.cell? ⟨X, 1, none⟩ = some (.int .i64 n) ∧ w.cell? ⟨X, 2, none⟩ = some (.slice p m c) ∧ w.cell? ⟨Y, 0, none⟩ = some (.int .i64 ka) ∧ w.cell? ⟨Y, 1, none⟩ = some (.int .i64 kd) ∧ Below w4.heap.size w4 w) (hb : Below w.heap.size w w') => KQ.out w' (hS.2.2.2.2.2.trans (hb.mono hS.2.2.2.2.2.size)))
  have K3 := Lib.hid (fun (w w' : World) (hS : w.cell? ⟨X, 0, none⟩ = some (.int .i64 dk) ∧ w.cell? ⟨X, 1, none⟩ = some (.int .i64 n) ∧ w.cell? ⟨X, 2, none⟩ = some (.slice p m c) ∧ w.cell? ⟨Y, 0, none⟩ = some (.int .i64 ka) ∧ w.cell? ⟨Y, 1, none⟩ = some (.int .i64 kd) ∧ Below w4.heap.size w4 w) (hb : Below w.heap.size w w') => (show w'.cell? ⟨X, 0, none⟩ = some (.int .i64 dk) ∧ w'.cell? ⟨X, 1, none⟩ = some (.int .i64 n) ∧ w'.cell? ⟨X, 2, none⟩ = some (.slice p m c) ∧ w'.cell? ⟨Y, 0, none⟩ = some (.int .i64 ka) ∧ w'.cell? ⟨Y, 1, none⟩ = some (.int .i64 kd) ∧ Below w4.heap.size w4 w' from by
    obtain ⟨g0, g1, g2, g3, g4, _⟩ := K2.out w w' hS hb
    exact ⟨g0, g1, g2, g3, g4, hS.2.2.2.2.2.trans (hb.mono hS.2.2.2.2.2.size)⟩))
  have K4 := Lib.hid (show w4.drew.cell? ⟨X, 0, none⟩ = some (.int .i64 dk) ∧ w4.drew.cell? ⟨X, 1, none⟩ = some (.int .i64 n) ∧ w4.drew.cell? ⟨X, 2, none⟩ = some (.slice p m c) ∧ w4.drew.cell? ⟨Y, 0, none⟩ = some (.int .i64 ka) ∧ w4.drew.cell? ⟨Y, 1, none⟩ = some (.int .i64 kd) ∧ Below w4.heap.size w4 w4.drew from by
    obtain ⟨g0, g1, g2, g3, g4, _⟩ := KQ.out w4.drew ((Below.refl _ _).drew)
    exact ⟨g0, g1, g2, g3, g4, (Below.refl _ _).drew⟩)
  go_region_held3 (fun w' => w'.cell? ⟨X, 0, none⟩ = some (.int .i64 dk) ∧ w'.cell? ⟨X, 1, none⟩ = some (.int .i64 n) ∧ w'.cell? ⟨X, 2, none⟩ = some (.slice p m c) ∧ w'.cell? ⟨Y, 0, none⟩ = some (.int .i64 ka) ∧ w'.cell? ⟨Y, 1, none⟩ = some (.int .i64 kd) ∧ Below w4.heap.size w4 w') (first | exact K4.out | assumption | (refine K3.out _ _ ?_ hb; first | assumption | exact K4.out)) (first | (go_at_call 33; (with_reducible refine (VN2.out _ (by go_split_ands; assumption)).mono ?_); rintro e w' ⟨rfl, hb⟩) | (go_at_call 34; (with_reducible refine (RN2.out _ (by go_split_ands; assumption)).mono ?_); rintro e w' ⟨rfl, hb⟩) | (go_at_call 35; (with_reducible refine (VC2.out _ (by go_split_ands; assumption)).mono ?_); rintro e w' ⟨rfl, hb⟩) | (go_at_call 36; (with_reducible refine (RC2.out _ (by go_split_ands; assumption)).mono ?_); rintro e w' ⟨rfl, hb⟩) | (go_at_call 37; (with_reducible refine (VF2.out _ (by go_split_ands; assumption)).mono ?_); rintro e w' ⟨rfl, hb⟩) | (go_at_call 38; (with_reducible refine (RF2.out _ (by go_split_ands; assumption)).mono ?_); rintro e w' ⟨rfl, hb⟩) | (go_at_call 39; (with_reducible refine (SM.out _ (by go_split_ands; assumption)).mono ?_); rintro e w' ⟨rfl, hb⟩) | (go_at_call 30; (with_reducible refine (LV.out _).mono ?_); rintro e w' ⟨rfl, hb⟩))
  rename_i hSS
  obtain ⟨_, _, _, _, _, hBB⟩ := hSS
  go_wp2_with fail
  go_ret
  rw [← hX] at *
  exact ⟨rfl, hB.trans ((b4'.trans (hBB.mono hs4)).mono hB.size)⟩
theorem walk (W : World) (dk0 dn0 : Int) (s0 : Value) (t0 : Fo) (hK0 : Kids W W.heap.size s0 t0) (wf0 : t0.wf) (wk0 : -9223372036854775808 ≤ dk0 ∧ dk0 ≤ 9223372036854775807) (wn0 : -9223372036854775808 ≤ dn0 ∧ dn0 ≤ 9223372036854775807) (hN0 : t0.cnt + 1 ≤ 1048576) (a1_0 : Int) (w1_0 : -9223372036854775808 ≤ a1_0 ∧ a1_0 ≤ 9223372036854775807) (a1_1 : Int) (w1_1 : -9223372036854775808 ≤ a1_1 ∧ a1_1 ≤ 9223372036854775807) :
    Calls Try.prog 6 #[.agg #[.int .i64 dk0, .int .i64 dn0, s0], .agg #[.int .i64 a1_0, .int .i64 a1_1]] W fun e W' => e = .returned (.bool true) ∧ Below W.heap.size W W' :=
  main dk0 dn0 s0 t0 a1_0 a1_1 W hK0 wf0 wk0 wn0 (by omega) w1_0
end validTells
end Go.Proofs.Yticljddfdeocbaa
