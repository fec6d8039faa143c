/- CostOrders: any two trees stand to each other by their work as by definition; of arguments of a bulk of at most 1048576. -/
import Derived.Test.YtfjioflggkmhcaaCostf
namespace Go.Proofs.Ytfjioflggkmhcaa
open Go.ChangeShapes Go.WideShapes Go.ChangeAt Go.RowKit
set_option linter.unusedVariables false
namespace costOrders
set_option maxRecDepth 100000 in
set_option maxHeartbeats 8000000 in
theorem main (k n k' n' : Int) (v v' : Value) (ks ks' : Fo) (W : World) (hK : Kids W W.heap.size v ks) (hK' : Kids W W.heap.size v' ks') (wf : ks.wf) (wf' : ks'.wf) (wk : -9223372036854775808 ≤ k ∧ k ≤ 9223372036854775807) (wn : -9223372036854775808 ≤ n ∧ n ≤ 9223372036854775807) (wk' : -9223372036854775808 ≤ k' ∧ k' ≤ 9223372036854775807) (wn' : -9223372036854775808 ≤ n' ∧ n' ≤ 9223372036854775807) (hN : ks.cnt ≤ 1048576) (hN' : ks'.cnt ≤ 1048576) :
    Calls Try.prog 8 #[.agg #[.int .i64 k, .int .i64 n, v], .agg #[.int .i64 k', .int .i64 n', v']] W fun e w' => e = .returned (.bool true) ∧ Below W.heap.size W w' := by
  have LV := Lib.hid (fun w => live18 w)
  obtain ⟨p, m, c, rfl, hc1, hc2, HM⟩ := hK.shape
  obtain ⟨p', m', c', rfl, hc1', hc2', HM'⟩ := hK'.shape
  obtain ⟨w0, hw0, ⟨a0, a1, a2⟩, ⟨b0, b1, b2⟩, hB, hsz⟩ := two3 W k n k' n' (.slice p m c) (.slice p' m' c') 24
  have lt0 : W.heap.size < w0.heap.size := by omega
  have lt1 : W.heap.size + 1 < w0.heap.size := by omega
  have MK := Lib.hid (fun w' (hb : Below w0.heap.size w0 w') => (show w'.cell? ⟨W.heap.size, 0, none⟩ = some (.int .i64 k) ∧ w'.cell? ⟨W.heap.size, 1, none⟩ = some (.int .i64 n) ∧ w'.cell? ⟨W.heap.size, 2, none⟩ = some (.slice p m c) ∧ w'.cell? ⟨W.heap.size + 1, 0, none⟩ = some (.int .i64 k') ∧ w'.cell? ⟨W.heap.size + 1, 1, none⟩ = some (.int .i64 n') ∧ w'.cell? ⟨W.heap.size + 1, 2, none⟩ = some (.slice p' m' c') ∧ Below w0.heap.size w0 w' from
    ⟨(hb.cell (p := ⟨W.heap.size, 0, none⟩) lt0).trans a0, (hb.cell (p := ⟨W.heap.size, 1, none⟩) lt0).trans a1, (hb.cell (p := ⟨W.heap.size, 2, none⟩) lt0).trans a2, (hb.cell (p := ⟨W.heap.size + 1, 0, none⟩) lt1).trans b0, (hb.cell (p := ⟨W.heap.size + 1, 1, none⟩) lt1).trans b1, (hb.cell (p := ⟨W.heap.size + 1, 2, none⟩) lt1).trans b2, hb⟩))
  have KP := Lib.hid (fun w1 w' (hS : w1.cell? ⟨W.heap.size, 0, none⟩ = some (.int .i64 k) ∧ w1.cell? ⟨W.heap.size, 1, none⟩ = some (.int .i64 n) ∧ w1.cell? ⟨W.heap.size, 2, none⟩ = some (.slice p m c) ∧ w1.cell? ⟨W.heap.size + 1, 0, none⟩ = some (.int .i64 k') ∧ w1.cell? ⟨W.heap.size + 1, 1, none⟩ = some (.int .i64 n') ∧ w1.cell? ⟨W.heap.size + 1, 2, none⟩ = some (.slice p' m' c') ∧ Below w0.heap.size w0 w1) (hb : Below w1.heap.size w1 w') => MK.out w' (hS.2.2.2.2.2.2.trans (hb.mono hS.2.2.2.2.2.2.size)))
  have hK0 := hK.below (Nat.le_refl _) hB
  have hK0' := hK'.below (Nat.le_refl _) hB
  have hlw : W.heap.size ≤ w0.heap.size := by omega
  have MA := Lib.hid (r13_much ks (.slice p m c) k n W.heap.size w0 hN hK0 hlw)
  have MB := Lib.hid (fun w' (hb : Below w0.heap.size w0 w') => r13_much ks' (.slice p' m' c') k' n' W.heap.size w' hN' (hK0'.below hlw hb) (by have := hb.size; omega))
  have AB := Lib.hid (fun w' (hb : Below w0.heap.size w0 w') => cost_cmp ks ks' (.slice p m c) (.slice p' m' c') k n k' n' W.heap.size w' hN hN' (hK0.below hlw hb) (hK0'.below hlw hb) (by have := hb.size; omega) wn wf wn' wf')
  have BA := Lib.hid (fun w' (hb : Below w0.heap.size w0 w') => cost_cmp ks' ks (.slice p' m' c') (.slice p m c) k' n' k n W.heap.size w' hN' hN (hK0'.below hlw hb) (hK0.below hlw hb) (by have := hb.size; omega) wn' wf' wn wf)
  have AA := Lib.hid (fun w' (hb : Below w0.heap.size w0 w') => cost_cmp ks ks (.slice p m c) (.slice p m c) k n k n W.heap.size w' hN hN (hK0.below hlw hb) (hK0.below hlw hb) (by have := hb.size; omega) wn wf wn wf)
  have RR := Lib.hid (fun w' (hb : Below w0.heap.size w0 w') => r18_cmp ks ks' (.slice p m c) (.slice p' m' c') k n k' n' W.heap.size w' hN hN' (hK0.below hlw hb) (hK0'.below hlw hb) (by have := hb.size; omega) wk wn wf wk' wn' wf')
  rw [cmpC_neg k n ks k' n' ks'] at BA
  rw [cmpC_self] at AA
  have hz := cmpC_bd k n ks k' n' ks'
  generalize cmpC k n ks k' n' ks' = z at *
  have wz : IntKind.i64.wrap (-z) = -z := IntWalk.i64_in _ (by omega)
  clear hK hK' hK0 hK0' a0 a1 a2 b0 b1 b2
  by_cases hbig : 80 < ks.cnt + 1
  · rw [decide_eq_true hbig] at MA
    clear AB BA AA RR
    go_enter Try.func8, Try.ntmps8
    go_wp2_with fail
    rw [← hw0]
    clear hw0
    refine MA.out.mono ?_
    rintro e w2 ⟨rfl, b2⟩
    go_wp2_with fail
    refine (LV.out _).mono ?_
    rintro e w3 ⟨rfl, b3⟩
    go_wp2_with fail
    go_ret
    exact ⟨rfl, hB.trans ((b2.trans (b3.mono b2.size)).mono hB.size)⟩
  rw [decide_eq_false hbig] at MA
  by_cases hbig' : 80 < ks'.cnt + 1
  · rw [decide_eq_true hbig'] at MB
    clear AB BA AA RR
    go_enter Try.func8, Try.ntmps8
    go_wp2_with fail
    rw [← hw0]
    clear hw0
    refine MA.out.mono ?_
    rintro e w2 ⟨rfl, b2⟩
    obtain ⟨g0, g1, g2, h0, h1, h2, _⟩ := MK.out _ b2
    go_wp2_with fail
    refine (MB.out _ b2).mono ?_
    rintro e w4 ⟨rfl, b4⟩
    have b4 := b2.trans (b4.mono b2.size)
    go_wp2_with fail
    refine (LV.out _).mono ?_
    rintro e w3 ⟨rfl, b3⟩
    go_wp2_with fail
    go_ret
    exact ⟨rfl, hB.trans ((b4.trans (b3.mono b4.size)).mono hB.size)⟩
  rw [decide_eq_false hbig'] at MB
  clear hbig hbig'
  go_enter Try.func8, Try.ntmps8
  go_wp2_with fail
  rw [← hw0]
  clear hw0
  refine MA.out.mono ?_
  rintro e w2 ⟨rfl, b2⟩
  obtain ⟨g0, g1, g2, h0, h1, h2, _⟩ := MK.out _ b2
  go_wp2_with fail
  refine (MB.out _ b2).mono ?_
  rintro e w4 ⟨rfl, b4⟩
  have b4 := b2.trans (b4.mono b2.size)
  clear g0 g1 g2 h0 h1 h2 b2
  have K4 := Lib.hid (show w4.drew.cell? ⟨W.heap.size, 0, none⟩ = some (.int .i64 k) ∧ w4.drew.cell? ⟨W.heap.size, 1, none⟩ = some (.int .i64 n) ∧ w4.drew.cell? ⟨W.heap.size, 2, none⟩ = some (.slice p m c) ∧ w4.drew.cell? ⟨W.heap.size + 1, 0, none⟩ = some (.int .i64 k') ∧ w4.drew.cell? ⟨W.heap.size + 1, 1, none⟩ = some (.int .i64 n') ∧ w4.drew.cell? ⟨W.heap.size + 1, 2, none⟩ = some (.slice p' m' c') ∧ Below w0.heap.size w0 w4.drew from MK.out _ b4.drew)
  go_wp2_with fail
  generalize W.heap.size + 1 = Y at *
  generalize hX : W.heap.size = X at *
  go_region_held3 (fun w' => w'.cell? ⟨X, 0, none⟩ = some (.int .i64 k) ∧ w'.cell? ⟨X, 1, none⟩ = some (.int .i64 n) ∧ w'.cell? ⟨X, 2, none⟩ = some (.slice p m c) ∧ w'.cell? ⟨Y, 0, none⟩ = some (.int .i64 k') ∧ w'.cell? ⟨Y, 1, none⟩ = some (.int .i64 n') ∧ w'.cell? ⟨Y, 2, none⟩ = some (.slice p' m' c') ∧ Below w0.heap.size w0 w') (first | exact K4.out | assumption | (refine KP.out _ _ ?_ hb; first | assumption | exact K4.out)) (first | (go_at_call 35; (first | with_reducible refine (AB.out _ (by go_split_ands; assumption)).mono ?_ | with_reducible refine (BA.out _ (by go_split_ands; assumption)).mono ?_ | with_reducible refine (AA.out _ (by go_split_ands; assumption)).mono ?_); rintro e w' ⟨rfl, hb⟩) | (go_at_call 36; (with_reducible refine (RR.out _ (by go_split_ands; assumption)).mono ?_); rintro e w' ⟨rfl, hb⟩) | (go_at_call 31; (with_reducible refine (LV.out _).mono ?_); rintro e w' ⟨rfl, hb⟩))
  rename_i hSS
  obtain ⟨_, _, _, _, _, _, hBB⟩ := hSS
  go_wp2_with fail
  go_ret
  exact ⟨rfl, by have h2 := hB.size; rw [hX] at h2; have h3 := hB.trans (hBB.mono h2); rw [← hX] at h3; exact h3⟩
theorem walk (W : World) (dk0 dn0 : Int) (s0 : Value) (t0 : Fo) (hK0 : Kids W W.heap.size s0 t0) (wf0 : t0.wf) (wk0 : -9223372036854775808 ≤ dk0 ∧ dk0 ≤ 9223372036854775807) (wn0 : -9223372036854775808 ≤ dn0 ∧ dn0 ≤ 9223372036854775807) (hN0 : t0.cnt + 1 ≤ 1048576)
    (dk1 dn1 : Int) (s1 : Value) (t1 : Fo) (hK1 : Kids W W.heap.size s1 t1) (wf1 : t1.wf) (wk1 : -9223372036854775808 ≤ dk1 ∧ dk1 ≤ 9223372036854775807) (wn1 : -9223372036854775808 ≤ dn1 ∧ dn1 ≤ 9223372036854775807) (hN1 : t1.cnt + 1 ≤ 1048576) :
    Calls Try.prog 8 #[.agg #[.int .i64 dk0, .int .i64 dn0, s0], .agg #[.int .i64 dk1, .int .i64 dn1, s1]] W fun e W' => e = .returned (.bool true) ∧ Below W.heap.size W W' :=
  main dk0 dn0 dk1 dn1 s0 s1 t0 t1 W hK0 hK1 wf0 wf1 wk0 wn0 wk1 wn1 (by omega) (by omega)
end costOrders
end Go.Proofs.Ytfjioflggkmhcaa
