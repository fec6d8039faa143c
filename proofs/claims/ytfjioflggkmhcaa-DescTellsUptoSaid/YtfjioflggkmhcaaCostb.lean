/- Package cost's est, of plans; reference 18's Est. -/
import Derived.Test.YtfjioflggkmhcaaCosta
import Derived.Test.YtfjioflggkmhcaaBitl
namespace Go.Proofs.Ytfjioflggkmhcaa
open Go.ChangeShapes Go.WideShapes Go.ChangeAt Go.RowKit
set_option linter.unusedVariables false
/-- A contract of the works of kids. -/
def EstOk (P : Program) (F : FuncId) (lim : Nat) (ks : Fo) : Prop := ∀ (i : Nat) (v : Value) (w : World), i < ks.len → Kids w lim v (ks.kids i) → lim ≤ w.heap.size →
  Calls P F #[.agg #[.int .i64 (ks.k i), .int .i64 (ks.n i), v]] w fun e w' => e = .returned (.int .i64 (ks.ests.getD i 0)) ∧ Below w.heap.size w w'
theorem Kids.two {w : World} {lim c : Nat} {p : Option Addr} {ks : Fo} (hK : Kids w lim (.slice p 2 c) ks) :
    ∃ b o p0 m0 c0 p1 m1 c1, p = some ⟨b, o, none⟩ ∧ b < lim ∧ w.cell? ⟨b, o, none⟩ = some (.int .i64 (ks.k 0)) ∧ w.cell? ⟨b, o + 1, none⟩ = some (.int .i64 (ks.n 0)) ∧ w.cell? ⟨b, o + 2, none⟩ = some (.slice p0 m0 c0) ∧
      w.cell? ⟨b, o + 3, none⟩ = some (.int .i64 (ks.k 1)) ∧ w.cell? ⟨b, o + 3 + 1, none⟩ = some (.int .i64 (ks.n 1)) ∧ w.cell? ⟨b, o + 3 + 2, none⟩ = some (.slice p1 m1 c1) ∧ Kids w lim (.slice p0 m0 c0) (ks.kids 0) ∧ Kids w lim (.slice p1 m1 c1) (ks.kids 1) := by
  obtain ⟨b, o, v, rfl, hb, g0, g1, g2, hk⟩ := hK.get (show 0 < 2 by omega)
  obtain ⟨b', o', v', e, _, h0, h1, h2, hk'⟩ := hK.get (show 1 < 2 by omega)
  cases e
  obtain ⟨p0, m0, c0, rfl, _⟩ := hk.shape
  obtain ⟨p1, m1, c1, rfl, _⟩ := hk'.shape
  exact ⟨b, o, p0, m0, c0, p1, m1, c1, rfl, hb, by simpa using g0, by simpa using g1, by simpa using g2, by simpa using h0, by simpa using h1, by simpa using h2, hk, hk'⟩
theorem cell_alloc {w : World} {b o : Nat} {v : Value} (X : Obj) (hb : b < w.heap.size) (h : w.cell? ⟨b, o, none⟩ = some v) : (w.alloc X).cell? ⟨b, o, none⟩ = some v := (((Below.refl _ _).alloc (Nat.le_refl _) X).cell (p := ⟨b, o, none⟩) hb).trans h
/-- Two blocks of three cells, one behind the other. -/
theorem box33 (w0 : World) (k n k' n' : Int) (v v' : Value) (T : TypeId) : ∃ w2 : World, w2 = ((w0.alloc (.cells #[.int .i64 k, .int .i64 n, v] T)).alloc (.cells #[.int .i64 k', .int .i64 n', v'] T)).drew ∧
    w2.cell? ⟨w0.heap.size, 0, none⟩ = some (.int .i64 k) ∧ w2.cell? ⟨w0.heap.size, 1, none⟩ = some (.int .i64 n) ∧ w2.cell? ⟨w0.heap.size, 2, none⟩ = some v ∧
    w2.cell? ⟨w0.heap.size + 1, 0, none⟩ = some (.int .i64 k') ∧ w2.cell? ⟨w0.heap.size + 1, 1, none⟩ = some (.int .i64 n') ∧ w2.cell? ⟨w0.heap.size + 1, 2, none⟩ = some v' ∧ Below w0.heap.size w0 w2 ∧ w2.heap.size = w0.heap.size + 2 := by
  obtain ⟨w1, h1, a0, a1, a2, b1, s1⟩ := box3 w0 k n v T
  obtain ⟨w2, h2, c0, c1, c2, b2, s2⟩ := box3 w1 k' n' v' T
  have lt : w0.heap.size < w1.heap.size := by omega
  rw [s1] at c0 c1 c2
  refine ⟨w2.drew, by rw [h2, h1], ?_, ?_, ?_, c0, c1, c2, (b1.trans (b2.mono b1.size)).drew, by show w2.heap.size = _; omega⟩
  · exact (b2.cell (p := ⟨w0.heap.size, 0, none⟩) lt).trans a0
  · exact (b2.cell (p := ⟨w0.heap.size, 1, none⟩) lt).trans a1
  · exact (b2.cell (p := ⟨w0.heap.size, 2, none⟩) lt).trans a2
theorem Kids.one {w : World} {lim c : Nat} {p : Option Addr} {ks : Fo} (hK : Kids w lim (.slice p 1 c) ks) :
    ∃ b o p0 m0 c0, p = some ⟨b, o, none⟩ ∧ b < lim ∧ w.cell? ⟨b, o, none⟩ = some (.int .i64 (ks.k 0)) ∧ w.cell? ⟨b, o + 1, none⟩ = some (.int .i64 (ks.n 0)) ∧ w.cell? ⟨b, o + 2, none⟩ = some (.slice p0 m0 c0) ∧ Kids w lim (.slice p0 m0 c0) (ks.kids 0) := by
  obtain ⟨b, o, v, rfl, hb, g0, g1, g2, hk⟩ := hK.get (show 0 < 1 by omega)
  obtain ⟨p0, m0, c0, rfl, _⟩ := hk.shape
  exact ⟨b, o, p0, m0, c0, rfl, hb, by simpa using g0, by simpa using g1, by simpa using g2, hk⟩
set_option maxRecDepth 100000 in
set_option maxHeartbeats 2000000 in
theorem cost_both (k n : Int) (ks : Fo) (c lim : Nat) (p : Option Addr) (W : World) (hm : ks.len = 2) (hK : Kids W lim (.slice p 2 c) ks) (hl : lim ≤ W.heap.size) (EO : EstOk Try.prog 56 lim ks)
    (ha : 1 ≤ ks.n 0 ∧ ks.n 0 ≤ 16777216) (hb : 1 ≤ ks.n 1 ∧ ks.n 1 ≤ 16777216) (ea : 1 ≤ ks.ests.getD 0 0 ∧ ks.ests.getD 0 0 ≤ 1152921504606846976) (eb : 1 ≤ ks.ests.getD 1 0 ∧ ks.ests.getD 1 0 ≤ 1152921504606846976) :
    Calls Try.prog 92 #[.agg #[.int .i64 k, .int .i64 n, .slice p 2 c]] W fun e w' => e = .returned (.int .i64 (capm (capm (ks.n 1 * ks.ests.getD 0 0) + capm (ks.n 0 * ks.ests.getD 1 0)))) ∧ Below W.heap.size W w' := by
  have E0 := Lib.hid (fun v w h h' => EO 0 v w (by omega) h h')
  have E1 := Lib.hid (fun v w h h' => EO 1 v w (by omega) h h')
  have T0 := Lib.hid (fun w => cost_times (ks.n 1) (ks.ests.getD 0 0) w (by omega) (by omega))
  have T1 := Lib.hid (fun w => cost_times (ks.n 0) (ks.ests.getD 1 0) w (by omega) (by omega))
  have PL := Lib.hid (fun w => cost_plus (capm (ks.n 1 * ks.ests.getD 0 0)) (capm (ks.n 0 * ks.ests.getD 1 0)) w ⟨capm_nn (Int.mul_nonneg (by omega) (by omega)), capm_le _⟩ ⟨capm_nn (Int.mul_nonneg (by omega) (by omega)), capm_le _⟩)
  generalize capm (capm (ks.n 1 * ks.ests.getD 0 0) + capm (ks.n 0 * ks.ests.getD 1 0)) = z at *
  generalize capm (ks.n 1 * ks.ests.getD 0 0) = z0 at *
  generalize capm (ks.n 0 * ks.ests.getD 1 0) = z1 at *
  obtain ⟨w0, hw0, c0, c1, c2, hB, hsz⟩ := box3 W k n (.slice p 2 c) 24
  have hK0 := hK.below hl hB
  obtain ⟨b, o, p0, m0, d0, p1, m1, d1, rfl, hb', g0, g1, g2, h0, h1, h2, hk, hk'⟩ := hK0.two
  have hl0 : lim ≤ w0.heap.size := by omega
  generalize ks.k 0 = ka at *
  generalize ks.k 1 = kb at *
  generalize ks.n 0 = na at *
  generalize ks.n 1 = nb at *
  generalize ks.ests.getD 0 0 = q0 at *
  generalize ks.ests.getD 1 0 = q1 at *
  go_enter Try.func92, Try.ntmps92
  go_wp2_with fail
  rw [← hw0]
  clear hw0
  have hbw : b < w0.heap.size := by omega
  obtain ⟨wX, hwX, x0, x1, x2, y0, y1, y2, bX, sX⟩ := box33 w0 kb nb ka na (.slice p1 m1 d1) (.slice p0 m0 d0) 24
  obtain ⟨wY, hwY, u0, u1, u2, v0, v1, v2, bY, sY⟩ := box33 w0 ka na kb nb (.slice p0 m0 d0) (.slice p1 m1 d1) 24
  rw [hsz] at x0 x1 x2 y0 y1 y2 u0 u1 u2 v0 v1 v2
  have zg0 := cell_alloc (.cells #[.int .i64 0, .int .i64 0, .slice none 0 0] 24) hbw g0
  have zg1 := cell_alloc (.cells #[.int .i64 0, .int .i64 0, .slice none 0 0] 24) hbw g1
  have zg2 := cell_alloc (.cells #[.int .i64 0, .int .i64 0, .slice none 0 0] 24) hbw g2
  have zh0 := cell_alloc (.cells #[.int .i64 0, .int .i64 0, .slice none 0 0] 24) hbw h0
  have zh1 := cell_alloc (.cells #[.int .i64 0, .int .i64 0, .slice none 0 0] 24) hbw h1
  have zh2 := cell_alloc (.cells #[.int .i64 0, .int .i64 0, .slice none 0 0] 24) hbw h2
  have zzg0 := cell_alloc (w := w0.alloc (.cells #[.int .i64 0, .int .i64 0, .slice none 0 0] 24)) (.cells #[.int .i64 0, .int .i64 0, .slice none 0 0] 24) (by simp; omega) zg0
  have zzg1 := cell_alloc (w := w0.alloc (.cells #[.int .i64 0, .int .i64 0, .slice none 0 0] 24)) (.cells #[.int .i64 0, .int .i64 0, .slice none 0 0] 24) (by simp; omega) zg1
  have zzg2 := cell_alloc (w := w0.alloc (.cells #[.int .i64 0, .int .i64 0, .slice none 0 0] 24)) (.cells #[.int .i64 0, .int .i64 0, .slice none 0 0] 24) (by simp; omega) zg2
  have zzh0 := cell_alloc (w := w0.alloc (.cells #[.int .i64 0, .int .i64 0, .slice none 0 0] 24)) (.cells #[.int .i64 0, .int .i64 0, .slice none 0 0] 24) (by simp; omega) zh0
  have zzh1 := cell_alloc (w := w0.alloc (.cells #[.int .i64 0, .int .i64 0, .slice none 0 0] 24)) (.cells #[.int .i64 0, .int .i64 0, .slice none 0 0] 24) (by simp; omega) zh1
  have zzh2 := cell_alloc (w := w0.alloc (.cells #[.int .i64 0, .int .i64 0, .slice none 0 0] 24)) (.cells #[.int .i64 0, .int .i64 0, .slice none 0 0] 24) (by simp; omega) zh2
  have zag0 := cell_alloc (w := w0.alloc (.cells #[.int .i64 0, .int .i64 0, .slice none 0 0] 24)) (.cells #[.int .i64 ka, .int .i64 na, .slice p0 m0 d0] 24) (by simp; omega) zg0
  have zag1 := cell_alloc (w := w0.alloc (.cells #[.int .i64 0, .int .i64 0, .slice none 0 0] 24)) (.cells #[.int .i64 ka, .int .i64 na, .slice p0 m0 d0] 24) (by simp; omega) zg1
  have zag2 := cell_alloc (w := w0.alloc (.cells #[.int .i64 0, .int .i64 0, .slice none 0 0] 24)) (.cells #[.int .i64 ka, .int .i64 na, .slice p0 m0 d0] 24) (by simp; omega) zg2
  have zah0 := cell_alloc (w := w0.alloc (.cells #[.int .i64 0, .int .i64 0, .slice none 0 0] 24)) (.cells #[.int .i64 ka, .int .i64 na, .slice p0 m0 d0] 24) (by simp; omega) zh0
  have zah1 := cell_alloc (w := w0.alloc (.cells #[.int .i64 0, .int .i64 0, .slice none 0 0] 24)) (.cells #[.int .i64 ka, .int .i64 na, .slice p0 m0 d0] 24) (by simp; omega) zh1
  have zah2 := cell_alloc (w := w0.alloc (.cells #[.int .i64 0, .int .i64 0, .slice none 0 0] 24)) (.cells #[.int .i64 ka, .int .i64 na, .slice p0 m0 d0] 24) (by simp; omega) zh2
  have zbg0 := cell_alloc (w := w0.alloc (.cells #[.int .i64 0, .int .i64 0, .slice none 0 0] 24)) (.cells #[.int .i64 kb, .int .i64 nb, .slice p1 m1 d1] 24) (by simp; omega) zg0
  have zbg1 := cell_alloc (w := w0.alloc (.cells #[.int .i64 0, .int .i64 0, .slice none 0 0] 24)) (.cells #[.int .i64 kb, .int .i64 nb, .slice p1 m1 d1] 24) (by simp; omega) zg1
  have zbg2 := cell_alloc (w := w0.alloc (.cells #[.int .i64 0, .int .i64 0, .slice none 0 0] 24)) (.cells #[.int .i64 kb, .int .i64 nb, .slice p1 m1 d1] 24) (by simp; omega) zg2
  have zbh0 := cell_alloc (w := w0.alloc (.cells #[.int .i64 0, .int .i64 0, .slice none 0 0] 24)) (.cells #[.int .i64 kb, .int .i64 nb, .slice p1 m1 d1] 24) (by simp; omega) zh0
  have zbh1 := cell_alloc (w := w0.alloc (.cells #[.int .i64 0, .int .i64 0, .slice none 0 0] 24)) (.cells #[.int .i64 kb, .int .i64 nb, .slice p1 m1 d1] 24) (by simp; omega) zh1
  have zbh2 := cell_alloc (w := w0.alloc (.cells #[.int .i64 0, .int .i64 0, .slice none 0 0] 24)) (.cells #[.int .i64 kb, .int .i64 nb, .slice p1 m1 d1] 24) (by simp; omega) zh2
  have ag0 := cell_alloc (.cells #[.int .i64 ka, .int .i64 na, .slice p0 m0 d0] 24) hbw g0
  have ag1 := cell_alloc (.cells #[.int .i64 ka, .int .i64 na, .slice p0 m0 d0] 24) hbw g1
  have ag2 := cell_alloc (.cells #[.int .i64 ka, .int .i64 na, .slice p0 m0 d0] 24) hbw g2
  have ah0 := cell_alloc (.cells #[.int .i64 ka, .int .i64 na, .slice p0 m0 d0] 24) hbw h0
  have ah1 := cell_alloc (.cells #[.int .i64 ka, .int .i64 na, .slice p0 m0 d0] 24) hbw h1
  have ah2 := cell_alloc (.cells #[.int .i64 ka, .int .i64 na, .slice p0 m0 d0] 24) hbw h2
  have azg0 := cell_alloc (w := w0.alloc (.cells #[.int .i64 ka, .int .i64 na, .slice p0 m0 d0] 24)) (.cells #[.int .i64 0, .int .i64 0, .slice none 0 0] 24) (by simp; omega) ag0
  have azg1 := cell_alloc (w := w0.alloc (.cells #[.int .i64 ka, .int .i64 na, .slice p0 m0 d0] 24)) (.cells #[.int .i64 0, .int .i64 0, .slice none 0 0] 24) (by simp; omega) ag1
  have azg2 := cell_alloc (w := w0.alloc (.cells #[.int .i64 ka, .int .i64 na, .slice p0 m0 d0] 24)) (.cells #[.int .i64 0, .int .i64 0, .slice none 0 0] 24) (by simp; omega) ag2
  have azh0 := cell_alloc (w := w0.alloc (.cells #[.int .i64 ka, .int .i64 na, .slice p0 m0 d0] 24)) (.cells #[.int .i64 0, .int .i64 0, .slice none 0 0] 24) (by simp; omega) ah0
  have azh1 := cell_alloc (w := w0.alloc (.cells #[.int .i64 ka, .int .i64 na, .slice p0 m0 d0] 24)) (.cells #[.int .i64 0, .int .i64 0, .slice none 0 0] 24) (by simp; omega) ah1
  have azh2 := cell_alloc (w := w0.alloc (.cells #[.int .i64 ka, .int .i64 na, .slice p0 m0 d0] 24)) (.cells #[.int .i64 0, .int .i64 0, .slice none 0 0] 24) (by simp; omega) ah2
  have aag0 := cell_alloc (w := w0.alloc (.cells #[.int .i64 ka, .int .i64 na, .slice p0 m0 d0] 24)) (.cells #[.int .i64 ka, .int .i64 na, .slice p0 m0 d0] 24) (by simp; omega) ag0
  have aag1 := cell_alloc (w := w0.alloc (.cells #[.int .i64 ka, .int .i64 na, .slice p0 m0 d0] 24)) (.cells #[.int .i64 ka, .int .i64 na, .slice p0 m0 d0] 24) (by simp; omega) ag1
  have aag2 := cell_alloc (w := w0.alloc (.cells #[.int .i64 ka, .int .i64 na, .slice p0 m0 d0] 24)) (.cells #[.int .i64 ka, .int .i64 na, .slice p0 m0 d0] 24) (by simp; omega) ag2
  have aah0 := cell_alloc (w := w0.alloc (.cells #[.int .i64 ka, .int .i64 na, .slice p0 m0 d0] 24)) (.cells #[.int .i64 ka, .int .i64 na, .slice p0 m0 d0] 24) (by simp; omega) ah0
  have aah1 := cell_alloc (w := w0.alloc (.cells #[.int .i64 ka, .int .i64 na, .slice p0 m0 d0] 24)) (.cells #[.int .i64 ka, .int .i64 na, .slice p0 m0 d0] 24) (by simp; omega) ah1
  have aah2 := cell_alloc (w := w0.alloc (.cells #[.int .i64 ka, .int .i64 na, .slice p0 m0 d0] 24)) (.cells #[.int .i64 ka, .int .i64 na, .slice p0 m0 d0] 24) (by simp; omega) ah2
  have abg0 := cell_alloc (w := w0.alloc (.cells #[.int .i64 ka, .int .i64 na, .slice p0 m0 d0] 24)) (.cells #[.int .i64 kb, .int .i64 nb, .slice p1 m1 d1] 24) (by simp; omega) ag0
  have abg1 := cell_alloc (w := w0.alloc (.cells #[.int .i64 ka, .int .i64 na, .slice p0 m0 d0] 24)) (.cells #[.int .i64 kb, .int .i64 nb, .slice p1 m1 d1] 24) (by simp; omega) ag1
  have abg2 := cell_alloc (w := w0.alloc (.cells #[.int .i64 ka, .int .i64 na, .slice p0 m0 d0] 24)) (.cells #[.int .i64 kb, .int .i64 nb, .slice p1 m1 d1] 24) (by simp; omega) ag2
  have abh0 := cell_alloc (w := w0.alloc (.cells #[.int .i64 ka, .int .i64 na, .slice p0 m0 d0] 24)) (.cells #[.int .i64 kb, .int .i64 nb, .slice p1 m1 d1] 24) (by simp; omega) ah0
  have abh1 := cell_alloc (w := w0.alloc (.cells #[.int .i64 ka, .int .i64 na, .slice p0 m0 d0] 24)) (.cells #[.int .i64 kb, .int .i64 nb, .slice p1 m1 d1] 24) (by simp; omega) ah1
  have abh2 := cell_alloc (w := w0.alloc (.cells #[.int .i64 ka, .int .i64 na, .slice p0 m0 d0] 24)) (.cells #[.int .i64 kb, .int .i64 nb, .slice p1 m1 d1] 24) (by simp; omega) ah2
  have bg0 := cell_alloc (.cells #[.int .i64 kb, .int .i64 nb, .slice p1 m1 d1] 24) hbw g0
  have bg1 := cell_alloc (.cells #[.int .i64 kb, .int .i64 nb, .slice p1 m1 d1] 24) hbw g1
  have bg2 := cell_alloc (.cells #[.int .i64 kb, .int .i64 nb, .slice p1 m1 d1] 24) hbw g2
  have bh0 := cell_alloc (.cells #[.int .i64 kb, .int .i64 nb, .slice p1 m1 d1] 24) hbw h0
  have bh1 := cell_alloc (.cells #[.int .i64 kb, .int .i64 nb, .slice p1 m1 d1] 24) hbw h1
  have bh2 := cell_alloc (.cells #[.int .i64 kb, .int .i64 nb, .slice p1 m1 d1] 24) hbw h2
  have bzg0 := cell_alloc (w := w0.alloc (.cells #[.int .i64 kb, .int .i64 nb, .slice p1 m1 d1] 24)) (.cells #[.int .i64 0, .int .i64 0, .slice none 0 0] 24) (by simp; omega) bg0
  have bzg1 := cell_alloc (w := w0.alloc (.cells #[.int .i64 kb, .int .i64 nb, .slice p1 m1 d1] 24)) (.cells #[.int .i64 0, .int .i64 0, .slice none 0 0] 24) (by simp; omega) bg1
  have bzg2 := cell_alloc (w := w0.alloc (.cells #[.int .i64 kb, .int .i64 nb, .slice p1 m1 d1] 24)) (.cells #[.int .i64 0, .int .i64 0, .slice none 0 0] 24) (by simp; omega) bg2
  have bzh0 := cell_alloc (w := w0.alloc (.cells #[.int .i64 kb, .int .i64 nb, .slice p1 m1 d1] 24)) (.cells #[.int .i64 0, .int .i64 0, .slice none 0 0] 24) (by simp; omega) bh0
  have bzh1 := cell_alloc (w := w0.alloc (.cells #[.int .i64 kb, .int .i64 nb, .slice p1 m1 d1] 24)) (.cells #[.int .i64 0, .int .i64 0, .slice none 0 0] 24) (by simp; omega) bh1
  have bzh2 := cell_alloc (w := w0.alloc (.cells #[.int .i64 kb, .int .i64 nb, .slice p1 m1 d1] 24)) (.cells #[.int .i64 0, .int .i64 0, .slice none 0 0] 24) (by simp; omega) bh2
  have bag0 := cell_alloc (w := w0.alloc (.cells #[.int .i64 kb, .int .i64 nb, .slice p1 m1 d1] 24)) (.cells #[.int .i64 ka, .int .i64 na, .slice p0 m0 d0] 24) (by simp; omega) bg0
  have bag1 := cell_alloc (w := w0.alloc (.cells #[.int .i64 kb, .int .i64 nb, .slice p1 m1 d1] 24)) (.cells #[.int .i64 ka, .int .i64 na, .slice p0 m0 d0] 24) (by simp; omega) bg1
  have bag2 := cell_alloc (w := w0.alloc (.cells #[.int .i64 kb, .int .i64 nb, .slice p1 m1 d1] 24)) (.cells #[.int .i64 ka, .int .i64 na, .slice p0 m0 d0] 24) (by simp; omega) bg2
  have bah0 := cell_alloc (w := w0.alloc (.cells #[.int .i64 kb, .int .i64 nb, .slice p1 m1 d1] 24)) (.cells #[.int .i64 ka, .int .i64 na, .slice p0 m0 d0] 24) (by simp; omega) bh0
  have bah1 := cell_alloc (w := w0.alloc (.cells #[.int .i64 kb, .int .i64 nb, .slice p1 m1 d1] 24)) (.cells #[.int .i64 ka, .int .i64 na, .slice p0 m0 d0] 24) (by simp; omega) bh1
  have bah2 := cell_alloc (w := w0.alloc (.cells #[.int .i64 kb, .int .i64 nb, .slice p1 m1 d1] 24)) (.cells #[.int .i64 ka, .int .i64 na, .slice p0 m0 d0] 24) (by simp; omega) bh2
  have bbg0 := cell_alloc (w := w0.alloc (.cells #[.int .i64 kb, .int .i64 nb, .slice p1 m1 d1] 24)) (.cells #[.int .i64 kb, .int .i64 nb, .slice p1 m1 d1] 24) (by simp; omega) bg0
  have bbg1 := cell_alloc (w := w0.alloc (.cells #[.int .i64 kb, .int .i64 nb, .slice p1 m1 d1] 24)) (.cells #[.int .i64 kb, .int .i64 nb, .slice p1 m1 d1] 24) (by simp; omega) bg1
  have bbg2 := cell_alloc (w := w0.alloc (.cells #[.int .i64 kb, .int .i64 nb, .slice p1 m1 d1] 24)) (.cells #[.int .i64 kb, .int .i64 nb, .slice p1 m1 d1] 24) (by simp; omega) bg2
  have bbh0 := cell_alloc (w := w0.alloc (.cells #[.int .i64 kb, .int .i64 nb, .slice p1 m1 d1] 24)) (.cells #[.int .i64 kb, .int .i64 nb, .slice p1 m1 d1] 24) (by simp; omega) bh0
  have bbh1 := cell_alloc (w := w0.alloc (.cells #[.int .i64 kb, .int .i64 nb, .slice p1 m1 d1] 24)) (.cells #[.int .i64 kb, .int .i64 nb, .slice p1 m1 d1] 24) (by simp; omega) bh1
  have bbh2 := cell_alloc (w := w0.alloc (.cells #[.int .i64 kb, .int .i64 nb, .slice p1 m1 d1] 24)) (.cells #[.int .i64 kb, .int .i64 nb, .slice p1 m1 d1] 24) (by simp; omega) bh2
  go_region
  all_goals clear zg0 zg1 zg2 zh0 zh1 zh2 zzg0 zzg1 zzg2 zzh0 zzh1 zzh2 zag0 zag1 zag2 zah0 zah1 zah2 zbg0 zbg1 zbg2 zbh0 zbh1 zbh2 ag0 ag1 ag2 ah0 ah1 ah2 azg0 azg1 azg2 azh0 azh1 azh2 aag0 aag1 aag2 aah0 aah1 aah2 abg0 abg1 abg2 abh0 abh1 abh2 bg0 bg1 bg2 bh0 bh1 bh2 bzg0 bzg1 bzg2 bzh0 bzh1 bzh2 bag0 bag1 bag2 bah0 bah1 bah2 bbg0 bbg1 bbg2 bbh0 bbh1 bbh2
  all_goals clear g0 g1 g2 h0 h1 h2 hK hK0 c0 c1 c2
  · rw [← hwY]
    clear hwX hwY x0 x1 x2 y0 y1 y2
    generalize hY : W.heap.size + 1 + 1 = Y at *
    generalize hX : W.heap.size + 1 = X at *
    have lX : X < wY.heap.size := by omega
    have lY : Y < wY.heap.size := by omega
    have MK := Lib.hid (fun w' (hb : Below wY.heap.size wY w') => (show w'.cell? ⟨X, 0, none⟩ = some (.int .i64 ka) ∧ w'.cell? ⟨X, 1, none⟩ = some (.int .i64 na) ∧ w'.cell? ⟨X, 2, none⟩ = some (.slice p0 m0 d0) ∧ w'.cell? ⟨Y, 0, none⟩ = some (.int .i64 kb) ∧ w'.cell? ⟨Y, 1, none⟩ = some (.int .i64 nb) ∧ w'.cell? ⟨Y, 2, none⟩ = some (.slice p1 m1 d1) ∧ Below wY.heap.size wY w' from
      ⟨(hb.cell (p := ⟨X, 0, none⟩) lX).trans u0, (hb.cell (p := ⟨X, 1, none⟩) lX).trans u1, (hb.cell (p := ⟨X, 2, none⟩) lX).trans u2, (hb.cell (p := ⟨Y, 0, none⟩) lY).trans v0, (hb.cell (p := ⟨Y, 1, none⟩) lY).trans v1, (hb.cell (p := ⟨Y, 2, none⟩) lY).trans v2, hb⟩))
    have KP := Lib.hid (fun w1 w' (hS : w1.cell? ⟨X, 0, none⟩ = some (.int .i64 ka) ∧ w1.cell? ⟨X, 1, none⟩ = some (.int .i64 na) ∧ w1.cell? ⟨X, 2, none⟩ = some (.slice p0 m0 d0) ∧ w1.cell? ⟨Y, 0, none⟩ = some (.int .i64 kb) ∧ w1.cell? ⟨Y, 1, none⟩ = some (.int .i64 nb) ∧ w1.cell? ⟨Y, 2, none⟩ = some (.slice p1 m1 d1) ∧ Below wY.heap.size wY w1) (hb : Below w1.heap.size w1 w') => MK.out w' (hS.2.2.2.2.2.2.trans (hb.mono hS.2.2.2.2.2.2.size)))
    have F0 := Lib.hid (fun w' (hb : Below wY.heap.size wY w') => E0.out (.slice p0 m0 d0) w' (hk.below hl0 (bY.trans (hb.mono bY.size))) (by have := hb.size; omega))
    have F1 := Lib.hid (fun w' (hb : Below wY.heap.size wY w') => E1.out (.slice p1 m1 d1) w' (hk'.below hl0 (bY.trans (hb.mono bY.size))) (by have := hb.size; omega))
    clear u0 u1 u2 v0 v1 v2
    go_wp2_with fail
    go_region_held3 (fun w' => w'.cell? ⟨X, 0, none⟩ = some (.int .i64 ka) ∧ w'.cell? ⟨X, 1, none⟩ = some (.int .i64 na) ∧ w'.cell? ⟨X, 2, none⟩ = some (.slice p0 m0 d0) ∧ w'.cell? ⟨Y, 0, none⟩ = some (.int .i64 kb) ∧ w'.cell? ⟨Y, 1, none⟩ = some (.int .i64 nb) ∧ w'.cell? ⟨Y, 2, none⟩ = some (.slice p1 m1 d1) ∧ Below wY.heap.size wY w') (first | exact MK.out _ ((Below.refl _ _).drew) | assumption | (refine KP.out _ _ ?_ hb; first | assumption | exact MK.out _ ((Below.refl _ _).drew))) (first | (go_at_call 56; (first | with_reducible refine (F0.out _ (by go_split_ands; assumption)).mono ?_ | with_reducible refine (F1.out _ (by go_split_ands; assumption)).mono ?_); rintro e w' ⟨rfl, hb⟩) | (go_at_call 89; (first | with_reducible refine (T0.out _).mono ?_ | with_reducible refine (T1.out _).mono ?_); rintro e w' ⟨rfl, rfl⟩) | (go_at_call 91; (with_reducible refine (PL.out _).mono ?_); rintro e w' ⟨rfl, rfl⟩))
    rename_i hSS
    obtain ⟨_, _, _, _, _, _, hBB⟩ := hSS
    go_wp2_with fail
    go_ret
    exact ⟨rfl, hB.trans ((bY.trans (hBB.mono bY.size)).mono hB.size)⟩
  · rw [← hwX]
    clear hwX hwY u0 u1 u2 v0 v1 v2
    generalize hX : W.heap.size + 1 + 1 = X at *
    generalize hY : W.heap.size + 1 = Y at *
    have lX : X < wX.heap.size := by omega
    have lY : Y < wX.heap.size := by omega
    have MK := Lib.hid (fun w' (hb : Below wX.heap.size wX w') => (show w'.cell? ⟨X, 0, none⟩ = some (.int .i64 ka) ∧ w'.cell? ⟨X, 1, none⟩ = some (.int .i64 na) ∧ w'.cell? ⟨X, 2, none⟩ = some (.slice p0 m0 d0) ∧ w'.cell? ⟨Y, 0, none⟩ = some (.int .i64 kb) ∧ w'.cell? ⟨Y, 1, none⟩ = some (.int .i64 nb) ∧ w'.cell? ⟨Y, 2, none⟩ = some (.slice p1 m1 d1) ∧ Below wX.heap.size wX w' from
      ⟨(hb.cell (p := ⟨X, 0, none⟩) lX).trans y0, (hb.cell (p := ⟨X, 1, none⟩) lX).trans y1, (hb.cell (p := ⟨X, 2, none⟩) lX).trans y2, (hb.cell (p := ⟨Y, 0, none⟩) lY).trans x0, (hb.cell (p := ⟨Y, 1, none⟩) lY).trans x1, (hb.cell (p := ⟨Y, 2, none⟩) lY).trans x2, hb⟩))
    have KP := Lib.hid (fun w1 w' (hS : w1.cell? ⟨X, 0, none⟩ = some (.int .i64 ka) ∧ w1.cell? ⟨X, 1, none⟩ = some (.int .i64 na) ∧ w1.cell? ⟨X, 2, none⟩ = some (.slice p0 m0 d0) ∧ w1.cell? ⟨Y, 0, none⟩ = some (.int .i64 kb) ∧ w1.cell? ⟨Y, 1, none⟩ = some (.int .i64 nb) ∧ w1.cell? ⟨Y, 2, none⟩ = some (.slice p1 m1 d1) ∧ Below wX.heap.size wX w1) (hb : Below w1.heap.size w1 w') => MK.out w' (hS.2.2.2.2.2.2.trans (hb.mono hS.2.2.2.2.2.2.size)))
    have F0 := Lib.hid (fun w' (hb : Below wX.heap.size wX w') => E0.out (.slice p0 m0 d0) w' (hk.below hl0 (bX.trans (hb.mono bX.size))) (by have := hb.size; omega))
    have F1 := Lib.hid (fun w' (hb : Below wX.heap.size wX w') => E1.out (.slice p1 m1 d1) w' (hk'.below hl0 (bX.trans (hb.mono bX.size))) (by have := hb.size; omega))
    clear y0 y1 y2 x0 x1 x2
    go_wp2_with fail
    go_region_held3 (fun w' => w'.cell? ⟨X, 0, none⟩ = some (.int .i64 ka) ∧ w'.cell? ⟨X, 1, none⟩ = some (.int .i64 na) ∧ w'.cell? ⟨X, 2, none⟩ = some (.slice p0 m0 d0) ∧ w'.cell? ⟨Y, 0, none⟩ = some (.int .i64 kb) ∧ w'.cell? ⟨Y, 1, none⟩ = some (.int .i64 nb) ∧ w'.cell? ⟨Y, 2, none⟩ = some (.slice p1 m1 d1) ∧ Below wX.heap.size wX w') (first | exact MK.out _ ((Below.refl _ _).drew) | assumption | (refine KP.out _ _ ?_ hb; first | assumption | exact MK.out _ ((Below.refl _ _).drew))) (first | (go_at_call 56; (first | with_reducible refine (F0.out _ (by go_split_ands; assumption)).mono ?_ | with_reducible refine (F1.out _ (by go_split_ands; assumption)).mono ?_); rintro e w' ⟨rfl, hb⟩) | (go_at_call 89; (first | with_reducible refine (T0.out _).mono ?_ | with_reducible refine (T1.out _).mono ?_); rintro e w' ⟨rfl, rfl⟩) | (go_at_call 91; (with_reducible refine (PL.out _).mono ?_); rintro e w' ⟨rfl, rfl⟩))
    rename_i hSS
    obtain ⟨_, _, _, _, _, _, hBB⟩ := hSS
    go_wp2_with fail
    go_ret
    exact ⟨rfl, hB.trans ((bX.trans (hBB.mono bX.size)).mono hB.size)⟩
end Go.Proofs.Ytfjioflggkmhcaa
