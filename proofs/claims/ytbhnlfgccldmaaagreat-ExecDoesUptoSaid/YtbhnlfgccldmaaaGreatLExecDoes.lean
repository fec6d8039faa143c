/- Law 17: ExecDoes. -/
import Derived.Test.YtbhnlfgccldmaaaGreatZd25
import Derived.Test.YtbhnlfgccldmaaaGreatZd12
namespace Go.Proofs.YtbhnlfgccldmaaaGreat
open Go.ChangeShapes Go.WideShapes Go.ChangeAt Go.RowKit
set_option linter.unusedVariables false
set_option linter.unusedSimpArgs false
namespace execDoes
set_option maxRecDepth 100000 in
set_option maxHeartbeats 8000000 in
theorem walk (W : World) (dk0 dn0 : Int) (s0 : Value) (t0 : Fo) (hK0 : Kids W W.heap.size s0 t0) (wf0 : t0.wf) (wk0 : -9223372036854775808 ≤ dk0 ∧ dk0 ≤ 9223372036854775807) (wn0 : -9223372036854775808 ≤ dn0 ∧ dn0 ≤ 9223372036854775807) (hN0 : t0.cnt + 1 ≤ 1048576) (a1 : Int) (w1 : -9223372036854775808 ≤ a1 ∧ a1 ≤ 9223372036854775807) (a2 : Option Addr) (n2 c2 : Nat) (w2 : IsRow .u64 W a2 n2 c2) :
    Calls Tryz.prog 3 #[.agg #[.int .i64 dk0, .int .i64 dn0, s0], .int .i64 a1, .slice a2 n2 c2] W fun e W' => e = .returned (.bool true) ∧ Below W.heap.size W W' := by
  have hN : t0.cnt ≤ 1048576 := by omega
  obtain ⟨sp, sm, sc, rfl, -⟩ := hK0.shape
  obtain ⟨w0, hw0, k0, k1, k2, hB0, hsz⟩ := box3 W dk0 dn0 (.slice sp sm sc) 24
  have x0 : W.heap.size < w0.heap.size := by omega
  have KB := Lib.hid (fun (w : World) (h : Below w0.heap.size w0 w) => (show w.cell? ⟨W.heap.size, 0, none⟩ = some (.int .i64 dk0) ∧ w.cell? ⟨W.heap.size, 1, none⟩ = some (.int .i64 dn0) ∧ w.cell? ⟨W.heap.size, 2, none⟩ = some (.slice sp sm sc) from
    ⟨(h.cell (p := ⟨W.heap.size, 0, none⟩) x0).trans k0, (h.cell (p := ⟨W.heap.size, 1, none⟩) x0).trans k1, (h.cell (p := ⟨W.heap.size, 2, none⟩) x0).trans k2⟩))
  have HKW := Lib.hid (fun (w : World) (h : Below w0.heap.size w0 w) => hK0.below (Nat.le_refl _) (hB0.trans (h.mono hB0.size)))
  have HSZ := Lib.hid (fun (w : World) (h : Below w0.heap.size w0 w) => (show W.heap.size ≤ w.heap.size from Nat.le_trans hB0.size h.size))
  have HB0 := Lib.hid hB0
  have MU := Lib.hid (r13_much t0 (.slice sp sm sc) dk0 dn0 W.heap.size w0 hN (HKW.out _ (Below.refl _ _)) (HSZ.out _ (Below.refl _ _)))
  have LV := Lib.hid (fun w => live17 w)
  have CK := Lib.hid (fun (w : World) (h : Below w0.heap.size w0 w) => r17_check t0 (.slice sp sm sc) dk0 dn0 a1 n2 W.heap.size w hN (HKW.out w h) (HSZ.out w h) wk0 wn0 wf0)
  have KZ := Lib.hid (fun (hx : n2 ≤ 130) => Row.of_isRow w2 (by omega))
  have LT := Lib.hid (fun (hz : ckq a1 dk0 dn0 t0 n2 = 0) (w : World) (h : Below w0.heap.size w0 w) => l17_little t0 (.slice sp sm sc) dk0 dn0 a1 W.heap.size w hN (HKW.out w h) (HSZ.out w h) wn0 wf0 (ckq_zero hz).1)
  have DE := Lib.hid (fun (hz : ckq a1 dk0 dn0 t0 n2 ≠ 0) (w : World) (h : Below w0.heap.size w0 w) => exec_do_err t0 (.slice sp sm sc) dk0 dn0 a1 n2 W.heap.size a2 c2 w hN (HKW.out w h) (HSZ.out w h) wn0 wf0 hz)
  have DO := Lib.hid (fun (hz : ckq a1 dk0 dn0 t0 n2 = 0) (xs : List Int) (w : World) (hx : Row w a2 n2 xs) (h : Below w0.heap.size w0 w) => (show Calls Tryz.prog 16 #[.agg #[.int .i64 dk0, .int .i64 dn0, .slice sp sm sc], .int .i64 a1, .slice a2 n2 c2] w (GivesOk w n2 (horl (rdir n2 a1) xs n2)) from by
    obtain ⟨h1, h2⟩ := ckq_zero hz
    subst h2
    exact exec_do t0 (.slice sp sm sc) dk0 a1 n2 W.heap.size a2 c2 xs w hN (HKW.out w h) (HSZ.out w h) wk0 wf0 hx h1))
  have DF := Lib.hid (fun (hz : ckq a1 dk0 dn0 t0 n2 = 0) (h130 : n2 ≤ 130) (xs : List Int) (w : World) (hx : Row w a2 n2 xs) => (show Calls Tryz.prog 18 #[.slice a2 n2 c2, .int .i64 a1] w (Gives w n2 (horl (rdir n2 a1) xs n2)) from by
    obtain ⟨h1, h2⟩ := ckq_zero hz
    subst h2
    obtain ⟨hd, h0⟩ := ckd_dir h1
    obtain ⟨hok, -, -, -⟩ := chk_zero h0
    have hh := node_has hok
    exact r6_dft a2 n2 c2 a1 xs w hx (by unfold chk; rw [if_pos hd, if_neg (by simp [hh]), if_neg (by omega)])))
  clear hK0 wf0 w2 hB0
  generalize ckq a1 dk0 dn0 t0 n2 = R at *
  by_cases hm : 80 < t0.cnt + 1
  · have hmd : decide (80 < t0.cnt + 1) = true := decide_eq_true hm
    rw [hmd] at MU
    clear hm hmd
    go_enter Tryz.func3, Tryz.ntmps3
    go_wp2_with fail
    rw [← hw0]
    refine MU.out.mono ?_
    rintro e w1 ⟨rfl, b1⟩
    have B1 := Lib.hid b1
    clear b1
    go_wp2_with fail
    refine (LV.out _).mono ?_
    rintro e w2 ⟨rfl, b2⟩
    go_wp2_with fail
    go_ret
    exact ⟨rfl, HB0.out.trans ((B1.out.trans (b2.mono B1.out.size)).mono HB0.out.size)⟩
  · have hmd : decide (80 < t0.cnt + 1) = false := decide_eq_false hm
    rw [hmd] at MU
    clear hm hmd
    go_enter Tryz.func3, Tryz.ntmps3
    go_wp2_with fail
    rw [← hw0]
    refine MU.out.mono ?_
    rintro e w1 ⟨rfl, b1⟩
    have B1 := Lib.hid b1
    obtain ⟨j0, j1, j2⟩ := KB.out _ b1
    clear b1 k0 k1 k2 hw0
    by_cases h130 : n2 ≤ 130
    case neg =>
      have hgt : (130 : Int) < (n2 : Int) := by omega
      go_wp2_with fail
      refine (LV.out _).mono ?_
      rintro e w2 ⟨rfl, b2⟩
      go_wp2_with fail
      go_ret
      exact ⟨rfl, HB0.out.trans ((B1.out.trans (b2.mono B1.out.size)).mono HB0.out.size)⟩
    case pos =>
      have hgt : ¬ (130 : Int) < (n2 : Int) := by omega
      obtain ⟨xs, hx⟩ := KZ.out h130
      have HX := Lib.hid (fun (w : World) (h : Below w0.heap.size w0 w) => hx.below (HB0.out.trans (h.mono HB0.out.size)))
      clear hx KZ
      go_wp2_with fail
      refine (CK.out _ B1.out).mono ?_
      rintro e w2 ⟨rfl, b2⟩
      have B2 := Lib.hid (B1.out.trans (b2.mono B1.out.size))
      obtain ⟨j0, j1, j2⟩ := KB.out _ B2.out
      clear b2
      by_cases hz : R = 0
      · have LT2 := Lib.hid (LT.out hz)
        have DO2 := Lib.hid (DO.out hz)
        have DF2 := Lib.hid (DF.out hz h130)
        clear DE LT DO DF
        subst hz
        go_wp2_with fail
        refine (LT2.out _ B2.out).mono ?_
        rintro e w3 ⟨⟨b, rfl⟩, b3⟩
        have B3 := Lib.hid (B2.out.trans (b3.mono B2.out.size))
        obtain ⟨j0, j1, j2⟩ := KB.out _ B3.out
        clear b3
        cases b
        · go_wp2_with fail
          refine (LV.out _).mono ?_
          rintro e w4 ⟨rfl, b4⟩
          go_wp2_with fail
          go_ret
          exact ⟨rfl, HB0.out.trans ((B3.out.trans (b4.mono B3.out.size)).mono HB0.out.size)⟩
        · go_wp2_with fail
          refine (DO2.out xs _ (HX.out _ B3.out) B3.out).mono ?_
          rintro e w4 ⟨ya, yc, rfl, ry, b4⟩
          have B4 := Lib.hid (B3.out.trans (b4.mono B3.out.size))
          have RY := Lib.hid ry
          clear ry b4
          go_wp2_with fail
          refine (DF2.out xs _ (HX.out _ B4.out)).mono ?_
          rintro e w5 ⟨za, zc, rfl, rz, b5⟩
          have B5 := Lib.hid (B4.out.trans (b5.mono B4.out.size))
          have SM := Lib.hid (c_same (c := yc) (d := zc) (RY.out.below b5) rz)
          clear rz b5
          go_wp2_with fail
          refine SM.out.mono ?_
          rintro e w6 ⟨rfl, b6⟩
          have B6 := Lib.hid (B5.out.trans (b6.mono B5.out.size))
          clear b6
          go_wp2_with fail
          refine (LV.out _).mono ?_
          rintro e w7 ⟨rfl, b7⟩
          go_wp2_with fail
          go_ret
          exact ⟨rfl, HB0.out.trans ((B6.out.trans (b7.mono B6.out.size)).mono HB0.out.size)⟩
      · have DE2 := Lib.hid (DE.out hz)
        have e0 : (R == 0) = false := by simp [hz]
        have e1 : (R != 0) = true := by simp [hz]
        have e2 : (R != R) = false := by simp
        clear DE LT DO DF hz
        go_wp2_with fail
        refine (DE2.out _ B2.out).mono ?_
        rintro e w3 ⟨rfl, b3⟩
        have B3 := Lib.hid (B2.out.trans (b3.mono B2.out.size))
        clear b3
        go_wp2_with fail
        refine (LV.out _).mono ?_
        rintro e w4 ⟨rfl, b4⟩
        go_wp2_with fail
        go_ret
        exact ⟨rfl, HB0.out.trans ((B3.out.trans (b4.mono B3.out.size)).mono HB0.out.size)⟩
end execDoes
end Go.Proofs.YtbhnlfgccldmaaaGreat
