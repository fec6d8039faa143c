/- DescOrders: any three trees stand to each other as by definition; of arguments of a bulk of at most 1048576. -/
import Derived.Test.YtfjioflggkmhcaaCmpr
import Derived.Test.YtfjioflggkmhcaaAtl
namespace Go.Proofs.Ytfjioflggkmhcaa
open Go.ChangeShapes Go.WideShapes Go.ChangeAt Go.RowKit
set_option linter.unusedVariables false
theorem three3 (W : World) (k n k' n' k2 n2 : Int) (v v' v2 : Value) (T : TypeId) : ∃ w3 : World, w3 = ((W.alloc (.cells #[.int .i64 k, .int .i64 n, v] T)).alloc (.cells #[.int .i64 k', .int .i64 n', v'] T)).alloc (.cells #[.int .i64 k2, .int .i64 n2, v2] T) ∧
    (w3.cell? ⟨W.heap.size, 0, none⟩ = some (.int .i64 k) ∧ w3.cell? ⟨W.heap.size, 1, none⟩ = some (.int .i64 n) ∧ w3.cell? ⟨W.heap.size, 2, none⟩ = some v) ∧
    (w3.cell? ⟨W.heap.size + 1, 0, none⟩ = some (.int .i64 k') ∧ w3.cell? ⟨W.heap.size + 1, 1, none⟩ = some (.int .i64 n') ∧ w3.cell? ⟨W.heap.size + 1, 2, none⟩ = some v') ∧
    (w3.cell? ⟨W.heap.size + 1 + 1, 0, none⟩ = some (.int .i64 k2) ∧ w3.cell? ⟨W.heap.size + 1 + 1, 1, none⟩ = some (.int .i64 n2) ∧ w3.cell? ⟨W.heap.size + 1 + 1, 2, none⟩ = some v2) ∧ Below W.heap.size W w3 ∧ w3.heap.size = W.heap.size + 3 := by
  obtain ⟨w2, h2, ⟨a0, a1, a2⟩, ⟨b0, b1, b2⟩, hb, s2⟩ := two3 W k n k' n' v v' T
  obtain ⟨w3, h3, c0, c1, c2, hb3, s3⟩ := box3 w2 k2 n2 v2 T
  have l0 : W.heap.size < w2.heap.size := by omega
  have l1 : W.heap.size + 1 < w2.heap.size := by omega
  rw [s2] at c0 c1 c2
  exact ⟨w3, by rw [h3, h2], ⟨(hb3.cell (p := ⟨W.heap.size, 0, none⟩) l0).trans a0, (hb3.cell (p := ⟨W.heap.size, 1, none⟩) l0).trans a1, (hb3.cell (p := ⟨W.heap.size, 2, none⟩) l0).trans a2⟩, ⟨(hb3.cell (p := ⟨W.heap.size + 1, 0, none⟩) l1).trans b0, (hb3.cell (p := ⟨W.heap.size + 1, 1, none⟩) l1).trans b1, (hb3.cell (p := ⟨W.heap.size + 1, 2, none⟩) l1).trans b2⟩, ⟨c0, c1, c2⟩, hb.trans (hb3.mono hb.size), by omega⟩
namespace descOrders
set_option maxRecDepth 100000 in
set_option maxHeartbeats 8000000 in
theorem main (k n k' n' k2 n2 : Int) (v v' v2 : Value) (ks ks' ks2 : Fo) (W : World) (hK : Kids W W.heap.size v ks) (hK' : Kids W W.heap.size v' ks') (hK2 : Kids W W.heap.size v2 ks2) (hN : ks.cnt ≤ 1048576) (hN' : ks'.cnt ≤ 1048576) (hN2 : ks2.cnt ≤ 1048576) :
    Calls Try.prog 4 #[.agg #[.int .i64 k, .int .i64 n, v], .agg #[.int .i64 k', .int .i64 n', v'], .agg #[.int .i64 k2, .int .i64 n2, v2]] W fun e w' => e = .returned (.bool true) ∧ Below W.heap.size W w' := by
  have LV := Lib.hid (fun w => live13 w)
  obtain ⟨p, m, c, rfl, hc1, hc2, HM⟩ := hK.shape
  obtain ⟨p', m', c', rfl, hc1', hc2', HM'⟩ := hK'.shape
  obtain ⟨p2, m2, c2, rfl, hc12, hc22, HM2⟩ := hK2.shape
  obtain ⟨w0, hw0, ⟨a0, a1, a2⟩, ⟨b0, b1, b2⟩, ⟨e0, e1, e2⟩, hB, hsz⟩ := three3 W k n k' n' k2 n2 (.slice p m c) (.slice p' m' c') (.slice p2 m2 c2) 24
  have lt0 : W.heap.size < w0.heap.size := by omega
  have lt1 : W.heap.size + 1 < w0.heap.size := by omega
  have lt2 : W.heap.size + 1 + 1 < w0.heap.size := by omega
  have MK := Lib.hid (fun w' (hb : Below w0.heap.size w0 w') => (show w'.cell? ⟨W.heap.size, 0, none⟩ = some (.int .i64 k) ∧ w'.cell? ⟨W.heap.size, 1, none⟩ = some (.int .i64 n) ∧ w'.cell? ⟨W.heap.size, 2, none⟩ = some (.slice p m c) ∧ w'.cell? ⟨W.heap.size + 1, 0, none⟩ = some (.int .i64 k') ∧ w'.cell? ⟨W.heap.size + 1, 1, none⟩ = some (.int .i64 n') ∧ w'.cell? ⟨W.heap.size + 1, 2, none⟩ = some (.slice p' m' c') ∧ w'.cell? ⟨W.heap.size + 1 + 1, 0, none⟩ = some (.int .i64 k2) ∧ w'.cell? ⟨W.heap.size + 1 + 1, 1, none⟩ = some (.int .i64 n2) ∧ w'.cell? ⟨W.heap.size + 1 + 1, 2, none⟩ = some (.slice p2 m2 c2) ∧ Below w0.heap.size w0 w' from ⟨(hb.cell (p := ⟨W.heap.size, 0, none⟩) lt0).trans a0, (hb.cell (p := ⟨W.heap.size, 1, none⟩) lt0).trans a1, (hb.cell (p := ⟨W.heap.size, 2, none⟩) lt0).trans a2, (hb.cell (p := ⟨W.heap.size + 1, 0, none⟩) lt1).trans b0, (hb.cell (p := ⟨W.heap.size + 1, 1, none⟩) lt1).trans b1, (hb.cell (p := ⟨W.heap.size + 1, 2, none⟩) lt1).trans b2, (hb.cell (p := ⟨W.heap.size + 1 + 1, 0, none⟩) lt2).trans e0, (hb.cell (p := ⟨W.heap.size + 1 + 1, 1, none⟩) lt2).trans e1, (hb.cell (p := ⟨W.heap.size + 1 + 1, 2, none⟩) lt2).trans e2, hb⟩))
  have KP := Lib.hid (fun w1 w' (hS : w1.cell? ⟨W.heap.size, 0, none⟩ = some (.int .i64 k) ∧ w1.cell? ⟨W.heap.size, 1, none⟩ = some (.int .i64 n) ∧ w1.cell? ⟨W.heap.size, 2, none⟩ = some (.slice p m c) ∧ w1.cell? ⟨W.heap.size + 1, 0, none⟩ = some (.int .i64 k') ∧ w1.cell? ⟨W.heap.size + 1, 1, none⟩ = some (.int .i64 n') ∧ w1.cell? ⟨W.heap.size + 1, 2, none⟩ = some (.slice p' m' c') ∧ w1.cell? ⟨W.heap.size + 1 + 1, 0, none⟩ = some (.int .i64 k2) ∧ w1.cell? ⟨W.heap.size + 1 + 1, 1, none⟩ = some (.int .i64 n2) ∧ w1.cell? ⟨W.heap.size + 1 + 1, 2, none⟩ = some (.slice p2 m2 c2) ∧ Below w0.heap.size w0 w1) (hb : Below w1.heap.size w1 w') => MK.out w' (hS.2.2.2.2.2.2.2.2.2.trans (hb.mono hS.2.2.2.2.2.2.2.2.2.size)))
  have hKa := hK.below (Nat.le_refl _) hB
  have hKb := hK'.below (Nat.le_refl _) hB
  have hKc := hK2.below (Nat.le_refl _) hB
  have hlw : W.heap.size ≤ w0.heap.size := by omega
  have MA := Lib.hid (r13_much ks (.slice p m c) k n W.heap.size w0 hN hKa hlw)
  have MB := Lib.hid (fun w' (hb : Below w0.heap.size w0 w') => r13_much ks' (.slice p' m' c') k' n' W.heap.size w' hN' (hKb.below hlw hb) (by have := hb.size; omega))
  have MC := Lib.hid (fun w' (hb : Below w0.heap.size w0 w') => r13_much ks2 (.slice p2 m2 c2) k2 n2 W.heap.size w' hN2 (hKc.below hlw hb) (by have := hb.size; omega))
  have DAB := Lib.hid (fun w' (hb : Below w0.heap.size w0 w') => desc_cmp ks.cnt ks ks' (.slice p m c) (.slice p' m' c') k n k' n' W.heap.size w' (Nat.le_refl _) (hKa.below hlw hb) (hKb.below hlw hb) (by have := hb.size; omega))
  have DBC := Lib.hid (fun w' (hb : Below w0.heap.size w0 w') => desc_cmp ks'.cnt ks' ks2 (.slice p' m' c') (.slice p2 m2 c2) k' n' k2 n2 W.heap.size w' (Nat.le_refl _) (hKb.below hlw hb) (hKc.below hlw hb) (by have := hb.size; omega))
  have DAC := Lib.hid (fun w' (hb : Below w0.heap.size w0 w') => desc_cmp ks.cnt ks ks2 (.slice p m c) (.slice p2 m2 c2) k n k2 n2 W.heap.size w' (Nat.le_refl _) (hKa.below hlw hb) (hKc.below hlw hb) (by have := hb.size; omega))
  have DBA := Lib.hid (fun w' (hb : Below w0.heap.size w0 w') => desc_cmp ks'.cnt ks' ks (.slice p' m' c') (.slice p m c) k' n' k n W.heap.size w' (Nat.le_refl _) (hKb.below hlw hb) (hKa.below hlw hb) (by have := hb.size; omega))
  have RAB := Lib.hid (fun w' (hb : Below w0.heap.size w0 w') => r13_cmp ks.cnt ks ks' (.slice p m c) (.slice p' m' c') k n k' n' W.heap.size w' (Nat.le_refl _) (hKa.below hlw hb) (hKb.below hlw hb) (by have := hb.size; omega))
  have RBC := Lib.hid (fun w' (hb : Below w0.heap.size w0 w') => r13_cmp ks'.cnt ks' ks2 (.slice p' m' c') (.slice p2 m2 c2) k' n' k2 n2 W.heap.size w' (Nat.le_refl _) (hKb.below hlw hb) (hKc.below hlw hb) (by have := hb.size; omega))
  have RAC := Lib.hid (fun w' (hb : Below w0.heap.size w0 w') => r13_cmp ks.cnt ks ks2 (.slice p m c) (.slice p2 m2 c2) k n k2 n2 W.heap.size w' (Nat.le_refl _) (hKa.below hlw hb) (hKc.below hlw hb) (by have := hb.size; omega))
  have SAB := Lib.hid (fun w' (hb : Below w0.heap.size w0 w') => desc_same ks ks' (.slice p m c) (.slice p' m' c') k n k' n' W.heap.size w' (hKa.below hlw hb) (hKb.below hlw hb) (by have := hb.size; omega))
  have SAA := Lib.hid (fun w' (hb : Below w0.heap.size w0 w') => desc_same ks ks (.slice p m c) (.slice p m c) k n k n W.heap.size w' (hKa.below hlw hb) (hKa.below hlw hb) (by have := hb.size; omega))
  rw [cmpN_neg k n ks k' n' ks'] at DBA
  rw [cmpN_self] at SAA
  have GO := cmpN_goes k n ks k' n' ks' k2 n2 ks2
  have hz := cmpN_bd k n ks k' n' ks'
  unfold Goes at GO
  have dz : (cmpN k n ks k' n' ks' == 0) = decide (cmpN k n ks k' n' ks' = 0) := rfl
  generalize decide (cmpN k n ks k' n' ks' = 0) = zz at *
  generalize cmpN k n ks k' n' ks' = x at *
  generalize cmpN k' n' ks' k2 n2 ks2 = y at *
  generalize cmpN k n ks k2 n2 ks2 = z at *
  have wz : IntKind.i64.wrap (-x) = -x := IntWalk.i64_in _ (by omega)
  have bb := Below.refl w0.heap.size w0
  clear hK hK' hK2 hKa hKb hKc hsz
  by_cases hbig : 80 < ks.cnt + 1
  · rw [decide_eq_true hbig] at MA
    clear DAB DBC DAC DBA RAB RBC RAC SAB SAA
    go_enter Try.func4, Try.ntmps4
    go_wp2_with fail
    rw [← hw0]
    clear hw0
    refine (MA.out).mono ?_
    rintro e wn ⟨rfl, bn⟩
    have bb2 := bb.trans (bn.mono bb.size)
    clear bn a0 a1 a2 b0 b1 b2 e0 e1 e2 bb
    have bb := bb2
    clear bb2
    generalize wn = wv at *
    obtain ⟨a0, a1, a2, b0, b1, b2, e0, e1, e2, _⟩ := MK.out _ bb
    go_wp2_with fail
    refine (LV.out _).mono ?_
    rintro e wn ⟨rfl, bn⟩
    go_wp2_with fail
    go_ret
    exact ⟨rfl, hB.trans ((bb.trans (bn.mono bb.size)).mono hB.size)⟩
  rw [decide_eq_false hbig] at MA
  by_cases hbig' : 80 < ks'.cnt + 1
  · rw [decide_eq_true hbig'] at MB
    clear DAB DBC DAC DBA RAB RBC RAC SAB SAA
    go_enter Try.func4, Try.ntmps4
    go_wp2_with fail
    rw [← hw0]
    clear hw0
    refine (MA.out).mono ?_
    rintro e wn ⟨rfl, bn⟩
    have bb2 := bb.trans (bn.mono bb.size)
    clear bn a0 a1 a2 b0 b1 b2 e0 e1 e2 bb
    have bb := bb2
    clear bb2
    generalize wn = wv at *
    obtain ⟨a0, a1, a2, b0, b1, b2, e0, e1, e2, _⟩ := MK.out _ bb
    go_wp2_with fail
    refine (MB.out _ bb).mono ?_
    rintro e wn ⟨rfl, bn⟩
    have bb2 := bb.trans (bn.mono bb.size)
    clear bn a0 a1 a2 b0 b1 b2 e0 e1 e2 bb
    have bb := bb2
    clear bb2
    generalize wn = wv at *
    obtain ⟨a0, a1, a2, b0, b1, b2, e0, e1, e2, _⟩ := MK.out _ bb
    go_wp2_with fail
    refine (LV.out _).mono ?_
    rintro e wn ⟨rfl, bn⟩
    go_wp2_with fail
    go_ret
    exact ⟨rfl, hB.trans ((bb.trans (bn.mono bb.size)).mono hB.size)⟩
  rw [decide_eq_false hbig'] at MB
  by_cases hbig2 : 80 < ks2.cnt + 1
  · rw [decide_eq_true hbig2] at MC
    clear DAB DBC DAC DBA RAB RBC RAC SAB SAA
    go_enter Try.func4, Try.ntmps4
    go_wp2_with fail
    rw [← hw0]
    clear hw0
    refine (MA.out).mono ?_
    rintro e wn ⟨rfl, bn⟩
    have bb2 := bb.trans (bn.mono bb.size)
    clear bn a0 a1 a2 b0 b1 b2 e0 e1 e2 bb
    have bb := bb2
    clear bb2
    generalize wn = wv at *
    obtain ⟨a0, a1, a2, b0, b1, b2, e0, e1, e2, _⟩ := MK.out _ bb
    go_wp2_with fail
    refine (MB.out _ bb).mono ?_
    rintro e wn ⟨rfl, bn⟩
    have bb2 := bb.trans (bn.mono bb.size)
    clear bn a0 a1 a2 b0 b1 b2 e0 e1 e2 bb
    have bb := bb2
    clear bb2
    generalize wn = wv at *
    obtain ⟨a0, a1, a2, b0, b1, b2, e0, e1, e2, _⟩ := MK.out _ bb
    go_wp2_with fail
    refine (MC.out _ bb).mono ?_
    rintro e wn ⟨rfl, bn⟩
    have bb2 := bb.trans (bn.mono bb.size)
    clear bn a0 a1 a2 b0 b1 b2 e0 e1 e2 bb
    have bb := bb2
    clear bb2
    generalize wn = wv at *
    obtain ⟨a0, a1, a2, b0, b1, b2, e0, e1, e2, _⟩ := MK.out _ bb
    go_wp2_with fail
    refine (LV.out _).mono ?_
    rintro e wn ⟨rfl, bn⟩
    go_wp2_with fail
    go_ret
    exact ⟨rfl, hB.trans ((bb.trans (bn.mono bb.size)).mono hB.size)⟩
  rw [decide_eq_false hbig2] at MC
  clear hbig hbig' hbig2
  go_enter Try.func4, Try.ntmps4
  go_wp2_with fail
  rw [← hw0]
  clear hw0
  refine (MA.out).mono ?_
  rintro e wn ⟨rfl, bn⟩
  have bb2 := bb.trans (bn.mono bb.size)
  clear bn a0 a1 a2 b0 b1 b2 e0 e1 e2 bb
  have bb := bb2
  clear bb2
  generalize wn = wv at *
  obtain ⟨a0, a1, a2, b0, b1, b2, e0, e1, e2, _⟩ := MK.out _ bb
  go_wp2_with fail
  refine (MB.out _ bb).mono ?_
  rintro e wn ⟨rfl, bn⟩
  have bb2 := bb.trans (bn.mono bb.size)
  clear bn a0 a1 a2 b0 b1 b2 e0 e1 e2 bb
  have bb := bb2
  clear bb2
  generalize wn = wv at *
  obtain ⟨a0, a1, a2, b0, b1, b2, e0, e1, e2, _⟩ := MK.out _ bb
  go_wp2_with fail
  refine (MC.out _ bb).mono ?_
  rintro e wn ⟨rfl, bn⟩
  have bb2 := bb.trans (bn.mono bb.size)
  clear bn a0 a1 a2 b0 b1 b2 e0 e1 e2 bb
  have bb := bb2
  clear bb2
  generalize wn = wv at *
  obtain ⟨a0, a1, a2, b0, b1, b2, e0, e1, e2, _⟩ := MK.out _ bb
  clear a0 a1 a2 b0 b1 b2 e0 e1 e2
  have K4 := Lib.hid (show wv.drew.cell? ⟨W.heap.size, 0, none⟩ = some (.int .i64 k) ∧ wv.drew.cell? ⟨W.heap.size, 1, none⟩ = some (.int .i64 n) ∧ wv.drew.cell? ⟨W.heap.size, 2, none⟩ = some (.slice p m c) ∧ wv.drew.cell? ⟨W.heap.size + 1, 0, none⟩ = some (.int .i64 k') ∧ wv.drew.cell? ⟨W.heap.size + 1, 1, none⟩ = some (.int .i64 n') ∧ wv.drew.cell? ⟨W.heap.size + 1, 2, none⟩ = some (.slice p' m' c') ∧ wv.drew.cell? ⟨W.heap.size + 1 + 1, 0, none⟩ = some (.int .i64 k2) ∧ wv.drew.cell? ⟨W.heap.size + 1 + 1, 1, none⟩ = some (.int .i64 n2) ∧ wv.drew.cell? ⟨W.heap.size + 1 + 1, 2, none⟩ = some (.slice p2 m2 c2) ∧ Below w0.heap.size w0 wv.drew from MK.out _ bb.drew)
  have bbd := Lib.hid bb
  go_wp2_with fail
  go_region_held3 (fun w' => w'.cell? ⟨W.heap.size, 0, none⟩ = some (.int .i64 k) ∧ w'.cell? ⟨W.heap.size, 1, none⟩ = some (.int .i64 n) ∧ w'.cell? ⟨W.heap.size, 2, none⟩ = some (.slice p m c) ∧ w'.cell? ⟨W.heap.size + 1, 0, none⟩ = some (.int .i64 k') ∧ w'.cell? ⟨W.heap.size + 1, 1, none⟩ = some (.int .i64 n') ∧ w'.cell? ⟨W.heap.size + 1, 2, none⟩ = some (.slice p' m' c') ∧ w'.cell? ⟨W.heap.size + 1 + 1, 0, none⟩ = some (.int .i64 k2) ∧ w'.cell? ⟨W.heap.size + 1 + 1, 1, none⟩ = some (.int .i64 n2) ∧ w'.cell? ⟨W.heap.size + 1 + 1, 2, none⟩ = some (.slice p2 m2 c2) ∧ Below w0.heap.size w0 w') (first | exact K4.out | assumption | (refine KP.out _ _ ?_ hb; first | assumption | exact K4.out)) (first | (go_at_call 22; (first | with_reducible refine (DAB.out _ (by go_split_ands; assumption)).mono ?_ | with_reducible refine (DBC.out _ (by go_split_ands; assumption)).mono ?_ | with_reducible refine (DAC.out _ (by go_split_ands; assumption)).mono ?_); rintro e w' ⟨rfl, hb⟩))
  rename_i hSS
  obtain ⟨a0, a1, a2, b0, b1, b2, e0, e1, e2, bb⟩ := hSS
  generalize w' = wv at *
  go_wp2_with fail
  refine (RAB.out _ bb).mono ?_
  rintro e wn ⟨rfl, bn⟩
  have bb2 := bb.trans (bn.mono bb.size)
  clear bn a0 a1 a2 b0 b1 b2 e0 e1 e2 bb
  have bb := bb2
  clear bb2
  generalize wn = wv at *
  obtain ⟨a0, a1, a2, b0, b1, b2, e0, e1, e2, _⟩ := MK.out _ bb
  go_wp2_with fail
  refine (RBC.out _ bb).mono ?_
  rintro e wn ⟨rfl, bn⟩
  have bb2 := bb.trans (bn.mono bb.size)
  clear bn a0 a1 a2 b0 b1 b2 e0 e1 e2 bb
  have bb := bb2
  clear bb2
  generalize wn = wv at *
  obtain ⟨a0, a1, a2, b0, b1, b2, e0, e1, e2, _⟩ := MK.out _ bb
  go_wp2_with fail
  refine (RAC.out _ bb).mono ?_
  rintro e wn ⟨rfl, bn⟩
  have bb2 := bb.trans (bn.mono bb.size)
  clear bn a0 a1 a2 b0 b1 b2 e0 e1 e2 bb
  have bb := bb2
  clear bb2
  generalize wn = wv at *
  obtain ⟨a0, a1, a2, b0, b1, b2, e0, e1, e2, _⟩ := MK.out _ bb
  go_wp2_with fail
  refine (SAB.out _ bb).mono ?_
  rintro e wn ⟨rfl, bn⟩
  have bb2 := bb.trans (bn.mono bb.size)
  clear bn a0 a1 a2 b0 b1 b2 e0 e1 e2 bb
  have bb := bb2
  clear bb2
  generalize wn = wv at *
  obtain ⟨a0, a1, a2, b0, b1, b2, e0, e1, e2, _⟩ := MK.out _ bb
  go_wp2_with fail
  refine (DBA.out _ bb).mono ?_
  rintro e wn ⟨rfl, bn⟩
  have bb2 := bb.trans (bn.mono bb.size)
  clear bn a0 a1 a2 b0 b1 b2 e0 e1 e2 bb
  have bb := bb2
  clear bb2
  generalize wn = wv at *
  obtain ⟨a0, a1, a2, b0, b1, b2, e0, e1, e2, _⟩ := MK.out _ bb
  by_cases hx : 0 < x
  · have dA : decide (0 < x) = true := decide_eq_true hx
    go_wp2_with fail
    refine (SAA.out _ bb).mono ?_
    rintro e wn ⟨rfl, bn⟩
    have bb2 := bb.trans (bn.mono bb.size)
    clear bn a0 a1 a2 b0 b1 b2 e0 e1 e2 bb
    have bb := bb2
    clear bb2
    generalize wn = wv at *
    obtain ⟨a0, a1, a2, b0, b1, b2, e0, e1, e2, _⟩ := MK.out _ bb
    go_wp2_with fail
    refine (LV.out _).mono ?_
    rintro e wn ⟨rfl, bn⟩
    go_wp2_with fail
    go_ret
    exact ⟨rfl, hB.trans ((bb.trans (bn.mono bb.size)).mono hB.size)⟩
  · have dA : decide (0 < x) = false := decide_eq_false hx
    by_cases hy : 0 < y
    · have dB : decide (0 < y) = true := decide_eq_true hy
      go_wp2_with fail
      refine (SAA.out _ bb).mono ?_
      rintro e wn ⟨rfl, bn⟩
      have bb2 := bb.trans (bn.mono bb.size)
      clear bn a0 a1 a2 b0 b1 b2 e0 e1 e2 bb
      have bb := bb2
      clear bb2
      generalize wn = wv at *
      obtain ⟨a0, a1, a2, b0, b1, b2, e0, e1, e2, _⟩ := MK.out _ bb
      go_wp2_with fail
      refine (LV.out _).mono ?_
      rintro e wn ⟨rfl, bn⟩
      go_wp2_with fail
      go_ret
      exact ⟨rfl, hB.trans ((bb.trans (bn.mono bb.size)).mono hB.size)⟩
    · have dB : decide (0 < y) = false := decide_eq_false hy
      have dC : decide (z ≤ 0) = true := decide_eq_true (by have := GO (by omega) (by omega); omega)
      go_wp2_with fail
      refine (SAA.out _ bb).mono ?_
      rintro e wn ⟨rfl, bn⟩
      have bb2 := bb.trans (bn.mono bb.size)
      clear bn a0 a1 a2 b0 b1 b2 e0 e1 e2 bb
      have bb := bb2
      clear bb2
      generalize wn = wv at *
      obtain ⟨a0, a1, a2, b0, b1, b2, e0, e1, e2, _⟩ := MK.out _ bb
      go_wp2_with fail
      refine (LV.out _).mono ?_
      rintro e wn ⟨rfl, bn⟩
      go_wp2_with fail
      go_ret
      exact ⟨rfl, hB.trans ((bb.trans (bn.mono bb.size)).mono hB.size)⟩
theorem walk (W : World) (dk0 dn0 : Int) (s0 : Value) (t0 : Fo) (hK0 : Kids W W.heap.size s0 t0) (wf0 : t0.wf) (wk0 : -9223372036854775808 ≤ dk0 ∧ dk0 ≤ 9223372036854775807) (wn0 : -9223372036854775808 ≤ dn0 ∧ dn0 ≤ 9223372036854775807) (hN0 : t0.cnt + 1 ≤ 1048576) (dk1 dn1 : Int) (s1 : Value) (t1 : Fo) (hK1 : Kids W W.heap.size s1 t1) (wf1 : t1.wf) (wk1 : -9223372036854775808 ≤ dk1 ∧ dk1 ≤ 9223372036854775807) (wn1 : -9223372036854775808 ≤ dn1 ∧ dn1 ≤ 9223372036854775807) (hN1 : t1.cnt + 1 ≤ 1048576) (dk2 dn2 : Int) (s2 : Value) (t2 : Fo) (hK2 : Kids W W.heap.size s2 t2) (wf2 : t2.wf) (wk2 : -9223372036854775808 ≤ dk2 ∧ dk2 ≤ 9223372036854775807) (wn2 : -9223372036854775808 ≤ dn2 ∧ dn2 ≤ 9223372036854775807) (hN2 : t2.cnt + 1 ≤ 1048576) :
    Calls Try.prog 4 #[.agg #[.int .i64 dk0, .int .i64 dn0, s0], .agg #[.int .i64 dk1, .int .i64 dn1, s1], .agg #[.int .i64 dk2, .int .i64 dn2, s2]] W fun e W' => e = .returned (.bool true) ∧ Below W.heap.size W W' :=
  main dk0 dn0 dk1 dn1 dk2 dn2 s0 s1 s2 t0 t1 t2 W hK0 hK1 hK2 (by omega) (by omega) (by omega)
end descOrders
end Go.Proofs.Ytfjioflggkmhcaa
