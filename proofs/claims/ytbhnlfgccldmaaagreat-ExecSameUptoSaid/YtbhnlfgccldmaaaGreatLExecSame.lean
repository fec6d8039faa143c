/- Law 17: ExecSame. By program (genexsame.py). -/
import Derived.Test.YtbhnlfgccldmaaaGreatZd25
namespace Go.Proofs.YtbhnlfgccldmaaaGreat
open Go.ChangeShapes Go.WideShapes Go.ChangeAt Go.RowKit
set_option linter.unusedVariables false
set_option linter.unusedSimpArgs false
namespace execSame
theorem box33 (w0 : World) (k n k' n' : Int) (v v' : Value) (T : TypeId) : ∃ w2 : World, w2 = ((w0.alloc (.cells #[.int .i64 k, .int .i64 n, v] T)).alloc (.cells #[.int .i64 k', .int .i64 n', v'] T)) ∧
    w2.cell? ⟨w0.heap.size, 0, none⟩ = some (.int .i64 k) ∧ w2.cell? ⟨w0.heap.size, 1, none⟩ = some (.int .i64 n) ∧ w2.cell? ⟨w0.heap.size, 2, none⟩ = some v ∧
    w2.cell? ⟨w0.heap.size + 1, 0, none⟩ = some (.int .i64 k') ∧ w2.cell? ⟨w0.heap.size + 1, 1, none⟩ = some (.int .i64 n') ∧ w2.cell? ⟨w0.heap.size + 1, 2, none⟩ = some v' ∧ Below w0.heap.size w0 w2 ∧ w2.heap.size = w0.heap.size + 2 := by
  obtain ⟨w1, h1, a0, a1, a2, b1, s1⟩ := box3 w0 k n v T
  obtain ⟨w2, h2, c0, c1, c2, b2, s2⟩ := box3 w1 k' n' v' T
  have lt : w0.heap.size < w1.heap.size := by omega
  rw [s1] at c0 c1 c2
  refine ⟨w2, by rw [h2, h1], ?_, ?_, ?_, c0, c1, c2, (b1.trans (b2.mono b1.size)), by omega⟩
  · exact (b2.cell (p := ⟨w0.heap.size, 0, none⟩) lt).trans a0
  · exact (b2.cell (p := ⟨w0.heap.size, 1, none⟩) lt).trans a1
  · exact (b2.cell (p := ⟨w0.heap.size, 2, none⟩) lt).trans a2
set_option maxRecDepth 100000 in
set_option maxHeartbeats 16000000 in
theorem walk (W : World) (dk0 dn0 : Int) (s0 : Value) (t0 : Fo) (hK0 : Kids W W.heap.size s0 t0) (wf0 : t0.wf) (wk0 : -9223372036854775808 ≤ dk0 ∧ dk0 ≤ 9223372036854775807) (wn0 : -9223372036854775808 ≤ dn0 ∧ dn0 ≤ 9223372036854775807) (hN0 : t0.cnt + 1 ≤ 1048576) (dk1 dn1 : Int) (s1 : Value) (t1 : Fo) (hK1 : Kids W W.heap.size s1 t1) (wf1 : t1.wf) (wk1 : -9223372036854775808 ≤ dk1 ∧ dk1 ≤ 9223372036854775807) (wn1 : -9223372036854775808 ≤ dn1 ∧ dn1 ≤ 9223372036854775807) (hN1 : t1.cnt + 1 ≤ 1048576) (a2 : Option Addr) (n2 c2 : Nat) (w2 : IsRow .u64 W a2 n2 c2) :
    Calls Tryz.prog 4 #[.agg #[.int .i64 dk0, .int .i64 dn0, s0], .agg #[.int .i64 dk1, .int .i64 dn1, s1], .slice a2 n2 c2] W fun e W' => e = .returned (.bool true) ∧ Below W.heap.size W W' := by
  have hNa : t0.cnt ≤ 1048576 := by omega
  have hNb : t1.cnt ≤ 1048576 := by omega
  obtain ⟨sp, sm, sc, rfl, -⟩ := hK0.shape
  obtain ⟨tp, tm, tc, rfl, -⟩ := hK1.shape
  obtain ⟨w0, hw0, k0, k1, k2, j0, j1, j2, hB0, hsz⟩ := box33 W dk0 dn0 dk1 dn1 (.slice sp sm sc) (.slice tp tm tc) 24
  have x0 : W.heap.size < w0.heap.size := by omega
  have x1 : W.heap.size + 1 < w0.heap.size := by omega
  have KB := Lib.hid (fun (w : World) (h : Below w0.heap.size w0 w) => (show (w.cell? ⟨W.heap.size, 0, none⟩ = some (.int .i64 dk0) ∧ w.cell? ⟨W.heap.size, 1, none⟩ = some (.int .i64 dn0) ∧ w.cell? ⟨W.heap.size, 2, none⟩ = some (.slice sp sm sc)) ∧ w.cell? ⟨W.heap.size + 1, 0, none⟩ = some (.int .i64 dk1) ∧ w.cell? ⟨W.heap.size + 1, 1, none⟩ = some (.int .i64 dn1) ∧ w.cell? ⟨W.heap.size + 1, 2, none⟩ = some (.slice tp tm tc) from
    ⟨⟨(h.cell (p := ⟨W.heap.size, 0, none⟩) x0).trans k0, (h.cell (p := ⟨W.heap.size, 1, none⟩) x0).trans k1, (h.cell (p := ⟨W.heap.size, 2, none⟩) x0).trans k2⟩, (h.cell (p := ⟨W.heap.size + 1, 0, none⟩) x1).trans j0, (h.cell (p := ⟨W.heap.size + 1, 1, none⟩) x1).trans j1, (h.cell (p := ⟨W.heap.size + 1, 2, none⟩) x1).trans j2⟩))
  have HKA := Lib.hid (fun (w : World) (h : Below w0.heap.size w0 w) => hK0.below (Nat.le_refl _) (hB0.trans (h.mono hB0.size)))
  have HKB := Lib.hid (fun (w : World) (h : Below w0.heap.size w0 w) => hK1.below (Nat.le_refl _) (hB0.trans (h.mono hB0.size)))
  have HSZ := Lib.hid (fun (w : World) (h : Below w0.heap.size w0 w) => (show W.heap.size ≤ w.heap.size from Nat.le_trans hB0.size h.size))
  have HB0 := Lib.hid hB0
  have MA := Lib.hid (fun (w : World) (h : Below w0.heap.size w0 w) => r13_much t0 (.slice sp sm sc) dk0 dn0 W.heap.size w hNa (HKA.out w h) (HSZ.out w h))
  have MB := Lib.hid (fun (w : World) (h : Below w0.heap.size w0 w) => r13_much t1 (.slice tp tm tc) dk1 dn1 W.heap.size w hNb (HKB.out w h) (HSZ.out w h))
  have LV := Lib.hid (fun w => live17 w)
  have CA := Lib.hid (fun (w : World) (h : Below w0.heap.size w0 w) => r17_check t0 (.slice sp sm sc) dk0 dn0 0 n2 W.heap.size w hNa (HKA.out w h) (HSZ.out w h) wk0 wn0 wf0)
  have CB := Lib.hid (fun (w : World) (h : Below w0.heap.size w0 w) => r17_check t1 (.slice tp tm tc) dk1 dn1 0 n2 W.heap.size w hNb (HKB.out w h) (HSZ.out w h) wk1 wn1 wf1)
  have LA := Lib.hid (fun (hz : ckq 0 dk0 dn0 t0 n2 = 0) (w : World) (h : Below w0.heap.size w0 w) => l17_little t0 (.slice sp sm sc) dk0 dn0 0 W.heap.size w hNa (HKA.out w h) (HSZ.out w h) wn0 wf0 (ckq_zero hz).1)
  have LB := Lib.hid (fun (hz : ckq 0 dk1 dn1 t1 n2 = 0) (w : World) (h : Below w0.heap.size w0 w) => l17_little t1 (.slice tp tm tc) dk1 dn1 0 W.heap.size w hNb (HKB.out w h) (HSZ.out w h) wn1 wf1 (ckq_zero hz).1)
  have XR := Lib.hid (fun (hz : ckq 0 dk0 dn0 t0 n2 = 0) => (show ∃ xs, Row W a2 n2 xs from Row.of_isRow w2 (by
    obtain ⟨h1, h2⟩ := ckq_zero hz
    obtain ⟨-, h0⟩ := ckd_dir h1
    obtain ⟨hok, -, -, -⟩ := chk_zero h0
    have hh := node_has hok
    have hl := (hasb_dvd hh).2.1
    omega)))
  have DA := Lib.hid (fun (hz : ckq 0 dk0 dn0 t0 n2 = 0) (xs : List Int) (w : World) (hx : Row w a2 n2 xs) (h : Below w0.heap.size w0 w) => (show Calls Tryz.prog 16 #[.agg #[.int .i64 dk0, .int .i64 dn0, .slice sp sm sc], .int .i64 0, .slice a2 n2 c2] w (GivesOk w n2 (horl (rdir n2 0) xs n2)) from by
    obtain ⟨h1, h2⟩ := ckq_zero hz
    subst h2
    exact exec_do t0 (.slice sp sm sc) dk0 0 n2 W.heap.size a2 c2 xs w hNa (HKA.out w h) (HSZ.out w h) wk0 wf0 hx h1))
  have DB := Lib.hid (fun (hz : ckq 0 dk1 dn1 t1 n2 = 0) (xs : List Int) (w : World) (hx : Row w a2 n2 xs) (h : Below w0.heap.size w0 w) => (show Calls Tryz.prog 16 #[.agg #[.int .i64 dk1, .int .i64 dn1, .slice tp tm tc], .int .i64 0, .slice a2 n2 c2] w (GivesOk w n2 (horl (rdir n2 0) xs n2)) from by
    obtain ⟨h1, h2⟩ := ckq_zero hz
    subst h2
    exact exec_do t1 (.slice tp tm tc) dk1 0 n2 W.heap.size a2 c2 xs w hNb (HKB.out w h) (HSZ.out w h) wk1 wf1 hx h1))
  clear hK0 hK1 wf0 wf1 w2 hB0
  generalize ckq 0 dk0 dn0 t0 n2 = R at *
  generalize ckq 0 dk1 dn1 t1 n2 = S at *
  generalize decide (80 < t0.cnt + 1) = mA at *
  generalize decide (80 < t1.cnt + 1) = mB at *
  obtain ⟨A, hA⟩ : ∃ A, W.heap.size + 1 = A := ⟨_, rfl⟩
  rw [hA] at j0 j1 j2 KB
  have HA := Lib.hid hA
  clear x0 x1 hsz hA
  cases mA
  case true =>
    go_enter Tryz.func4, Tryz.ntmps4
    go_wp2_with fail
    (try rw [← hw0])
    (try rw [HA.out])
    refine (MA.out _ (Below.refl _ _)).mono ?_
    rintro e w2 ⟨rfl, b1⟩
    have B2 := Lib.hid (b1)
    clear b1
    go_wp2_with fail
    refine (LV.out _).mono ?_
    rintro e w3 ⟨rfl, b1⟩
    have B3 := Lib.hid (B2.out.trans (b1.mono B2.out.size))
    clear b1
    go_wp2_with fail
    go_ret
    exact ⟨rfl, HB0.out.trans (B3.out.mono HB0.out.size)⟩
  cases mB
  case true =>
    go_enter Tryz.func4, Tryz.ntmps4
    go_wp2_with fail
    (try rw [← hw0])
    (try rw [HA.out])
    refine (MA.out _ (Below.refl _ _)).mono ?_
    rintro e w4 ⟨rfl, b1⟩
    have B4 := Lib.hid (b1)
    clear b1
    obtain ⟨⟨k0, k1, k2⟩, j0, j1, j2⟩ := KB.out _ B4.out
    go_wp2_with fail
    refine (MB.out _ B4.out).mono ?_
    rintro e w5 ⟨rfl, b1⟩
    have B5 := Lib.hid (B4.out.trans (b1.mono B4.out.size))
    clear b1
    go_wp2_with fail
    refine (LV.out _).mono ?_
    rintro e w6 ⟨rfl, b1⟩
    have B6 := Lib.hid (B5.out.trans (b1.mono B5.out.size))
    clear b1
    go_wp2_with fail
    go_ret
    exact ⟨rfl, HB0.out.trans (B6.out.mono HB0.out.size)⟩
  by_cases hR : R = 0
  case neg =>
    have e1 : (R != 0) = true := by simp [hR]
    clear hR
    go_enter Tryz.func4, Tryz.ntmps4
    go_wp2_with fail
    (try rw [← hw0])
    (try rw [HA.out])
    refine (MA.out _ (Below.refl _ _)).mono ?_
    rintro e w7 ⟨rfl, b1⟩
    have B7 := Lib.hid (b1)
    clear b1
    obtain ⟨⟨k0, k1, k2⟩, j0, j1, j2⟩ := KB.out _ B7.out
    go_wp2_with fail
    refine (MB.out _ B7.out).mono ?_
    rintro e w8 ⟨rfl, b1⟩
    have B8 := Lib.hid (B7.out.trans (b1.mono B7.out.size))
    clear b1
    obtain ⟨⟨k0, k1, k2⟩, j0, j1, j2⟩ := KB.out _ B8.out
    go_wp2_with fail
    refine (CA.out _ B8.out).mono ?_
    rintro e w9 ⟨rfl, b1⟩
    have B9 := Lib.hid (B8.out.trans (b1.mono B8.out.size))
    clear b1
    obtain ⟨⟨k0, k1, k2⟩, j0, j1, j2⟩ := KB.out _ B9.out
    go_wp2_with fail
    refine (LV.out _).mono ?_
    rintro e w10 ⟨rfl, b1⟩
    have B10 := Lib.hid (B9.out.trans (b1.mono B9.out.size))
    clear b1
    go_wp2_with fail
    go_ret
    exact ⟨rfl, HB0.out.trans (B10.out.mono HB0.out.size)⟩
  have e1 : (R != 0) = false := by simp [hR]
  by_cases hS : S = 0
  case neg =>
    have e2 : (S != 0) = true := by simp [hS]
    clear hR hS
    go_enter Tryz.func4, Tryz.ntmps4
    go_wp2_with fail
    (try rw [← hw0])
    (try rw [HA.out])
    refine (MA.out _ (Below.refl _ _)).mono ?_
    rintro e w11 ⟨rfl, b1⟩
    have B11 := Lib.hid (b1)
    clear b1
    obtain ⟨⟨k0, k1, k2⟩, j0, j1, j2⟩ := KB.out _ B11.out
    go_wp2_with fail
    refine (MB.out _ B11.out).mono ?_
    rintro e w12 ⟨rfl, b1⟩
    have B12 := Lib.hid (B11.out.trans (b1.mono B11.out.size))
    clear b1
    obtain ⟨⟨k0, k1, k2⟩, j0, j1, j2⟩ := KB.out _ B12.out
    go_wp2_with fail
    refine (CA.out _ B12.out).mono ?_
    rintro e w13 ⟨rfl, b1⟩
    have B13 := Lib.hid (B12.out.trans (b1.mono B12.out.size))
    clear b1
    obtain ⟨⟨k0, k1, k2⟩, j0, j1, j2⟩ := KB.out _ B13.out
    go_wp2_with fail
    refine (CB.out _ B13.out).mono ?_
    rintro e w14 ⟨rfl, b1⟩
    have B14 := Lib.hid (B13.out.trans (b1.mono B13.out.size))
    clear b1
    go_wp2_with fail
    refine (LV.out _).mono ?_
    rintro e w15 ⟨rfl, b1⟩
    have B15 := Lib.hid (B14.out.trans (b1.mono B14.out.size))
    clear b1
    go_wp2_with fail
    go_ret
    exact ⟨rfl, HB0.out.trans (B15.out.mono HB0.out.size)⟩
  have e2 : (S != 0) = false := by simp [hS]
  obtain ⟨xs, hx⟩ := XR.out hR
  have HX := Lib.hid (fun (w : World) (h : Below w0.heap.size w0 w) => hx.below (HB0.out.trans (h.mono HB0.out.size)))
  have LA2 := Lib.hid (LA.out hR)
  have LB2 := Lib.hid (LB.out hS)
  have DA2 := Lib.hid (DA.out hR)
  have DB2 := Lib.hid (DB.out hS)
  clear XR LA LB DA DB hx
  subst hR
  subst hS
  go_enter Tryz.func4, Tryz.ntmps4
  go_wp2_with fail
  (try rw [← hw0])
  (try rw [HA.out])
  refine (MA.out _ (Below.refl _ _)).mono ?_
  rintro e w16 ⟨rfl, b1⟩
  have B16 := Lib.hid (b1)
  clear b1
  obtain ⟨⟨k0, k1, k2⟩, j0, j1, j2⟩ := KB.out _ B16.out
  go_wp2_with fail
  refine (MB.out _ B16.out).mono ?_
  rintro e w17 ⟨rfl, b1⟩
  have B17 := Lib.hid (B16.out.trans (b1.mono B16.out.size))
  clear b1
  obtain ⟨⟨k0, k1, k2⟩, j0, j1, j2⟩ := KB.out _ B17.out
  go_wp2_with fail
  refine (CA.out _ B17.out).mono ?_
  rintro e w18 ⟨rfl, b1⟩
  have B18 := Lib.hid (B17.out.trans (b1.mono B17.out.size))
  clear b1
  obtain ⟨⟨k0, k1, k2⟩, j0, j1, j2⟩ := KB.out _ B18.out
  go_wp2_with fail
  refine (CB.out _ B18.out).mono ?_
  rintro e w19 ⟨rfl, b1⟩
  have B19 := Lib.hid (B18.out.trans (b1.mono B18.out.size))
  clear b1
  obtain ⟨⟨k0, k1, k2⟩, j0, j1, j2⟩ := KB.out _ B19.out
  go_wp2_with fail
  refine (LA2.out _ B19.out).mono ?_
  rintro e w20 ⟨⟨b, rfl⟩, b1⟩
  have B20 := Lib.hid (B19.out.trans (b1.mono B19.out.size))
  clear b1
  obtain ⟨⟨k0, k1, k2⟩, j0, j1, j2⟩ := KB.out _ B20.out
  cases b
  case false =>
    go_wp2_with fail
    refine (LV.out _).mono ?_
    rintro e w21 ⟨rfl, b1⟩
    have B21 := Lib.hid (B20.out.trans (b1.mono B20.out.size))
    clear b1
    go_wp2_with fail
    go_ret
    exact ⟨rfl, HB0.out.trans (B21.out.mono HB0.out.size)⟩
  go_wp2_with fail
  refine (LB2.out _ B20.out).mono ?_
  rintro e w22 ⟨⟨b, rfl⟩, b1⟩
  have B22 := Lib.hid (B20.out.trans (b1.mono B20.out.size))
  clear b1
  obtain ⟨⟨k0, k1, k2⟩, j0, j1, j2⟩ := KB.out _ B22.out
  cases b
  case false =>
    go_wp2_with fail
    refine (LV.out _).mono ?_
    rintro e w23 ⟨rfl, b1⟩
    have B23 := Lib.hid (B22.out.trans (b1.mono B22.out.size))
    clear b1
    go_wp2_with fail
    go_ret
    exact ⟨rfl, HB0.out.trans (B23.out.mono HB0.out.size)⟩
  go_wp2_with fail
  refine (DA2.out xs _ (HX.out _ B22.out) B22.out).mono ?_
  rintro e w24 ⟨yy, cy, rfl, ry, b1⟩
  have B24 := Lib.hid (B22.out.trans (b1.mono B22.out.size))
  have Ry := Lib.hid ry
  clear ry
  obtain ⟨⟨k0, k1, k2⟩, j0, j1, j2⟩ := KB.out _ B24.out
  clear b1
  go_wp2_with fail
  refine (DB2.out xs _ (HX.out _ B24.out) B24.out).mono ?_
  rintro e w25 ⟨yz, cz, rfl, rz, b1⟩
  have B25 := Lib.hid (B24.out.trans (b1.mono B24.out.size))
  have Rz := Lib.hid rz
  clear rz
  have SM := Lib.hid (c_same (c := cy) (d := cz) (Ry.out.below b1) Rz.out)
  clear b1
  go_wp2_with fail
  refine (SM.out).mono ?_
  rintro e w26 ⟨rfl, b1⟩
  have B26 := Lib.hid (B25.out.trans (b1.mono B25.out.size))
  clear b1
  go_wp2_with fail
  refine (LV.out _).mono ?_
  rintro e w27 ⟨rfl, b1⟩
  have B27 := Lib.hid (B26.out.trans (b1.mono B26.out.size))
  clear b1
  go_wp2_with fail
  go_ret
  exact ⟨rfl, HB0.out.trans (B27.out.mono HB0.out.size)⟩
end execSame
end Go.Proofs.YtbhnlfgccldmaaaGreat
