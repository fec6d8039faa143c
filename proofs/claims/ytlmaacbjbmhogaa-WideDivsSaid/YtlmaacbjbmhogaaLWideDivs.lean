/- WideDivs: quotient and rest of any number by any digit. -/
import Derived.Test.YtlmaacbjbmhogaaLWideTells
import Derived.Test.YtlmaacbjbmhogaaWideg
import Derived.Deep.DeepCutAuto
namespace Go.Proofs.Ytlmaacbjbmhogaa
open Go.ChangeShapes Go.WideShapes Go.ChangeAt Go.RowKit
set_option linter.unusedVariables false
def Row2 (w : World) (g : Nat) (a b : Int) : Prop := w.heap[g]? = some (.cells #[.int .u64 a, .int .u64 b] 25 (0, 0))
theorem Row2.lt {w : World} {g : Nat} {a b : Int} (h : Row2 w g a b) : g < w.heap.size := (Array.getElem?_eq_some_iff.1 h).1
theorem Row2.kept {w w' : World} {g : Nat} {a b : Int} (h : Row2 w g a b) (hb : Below w.heap.size w w') : Row2 w' g a b := by unfold Row2; rw [hb.block g h.lt]; exact h
theorem Row2.alloc {w : World} {g : Nat} {a b : Int} (h : Row2 w g a b) (o : Obj) : Row2 (w.alloc o) g a b := h.kept ((Below.refl _ _).alloc (Nat.le_refl _) o)
theorem Row2.new (w : World) : Row2 (w.alloc (.cells #[.int .u64 0, .int .u64 0] 25)) w.heap.size 0 0 := heap_alloc_new _ _
theorem Row2.other {w : World} {g g' : Nat} {a b : Int} (h : Row2 w g a b) (hne : g ≠ g') (o : Nat) (v : Value) : Row2 (w.setCell ⟨g', o, none⟩ v) g a b := by
  unfold Row2; rw [Below.heap_setCell _ _ _ _ hne]; exact h
theorem Row2.cells {w : World} {g : Nat} {a b : Int} (h : Row2 w g a b) : w.cell? ⟨g, 0, none⟩ = some (.int .u64 a) ∧ w.cell? ⟨g, 1, none⟩ = some (.int .u64 b) :=
  ⟨by rw [cell_of_row _ _ _ _ _ _ h]; rfl, by rw [cell_of_row _ _ _ _ _ _ h]; rfl⟩
theorem divs_two (w : World) (m n : Nat) : ∃ w5 : World, w5 = (((w.alloc (.cells #[.int .i64 0, .int .i64 0, .int .i64 0, .int .i64 0, .int .i64 0, .int .i64 0, .int .i64 0, .int .i64 0] 27)).alloc (.cells #[.int .i64 0, .int .i64 0, .int .i64 0, .int .i64 0, .int .i64 0, .int .i64 0, .int .i64 0, .int .i64 0] 27)).setRow w.heap.size (D m)).setRow (w.heap.size + 1) (D n) ∧ Box w5 w.heap.size m ∧ Box w5 (w.heap.size + 1) n ∧ Below w.heap.size w w5 ∧ w5.heap.size = w.heap.size + 2 ∧ (storeCells ⟨w.heap.size, 0, none⟩ (D m).toList).run Try.prog ((w.alloc (.cells #[.int .i64 0, .int .i64 0, .int .i64 0, .int .i64 0, .int .i64 0, .int .i64 0, .int .i64 0, .int .i64 0] 27)).alloc (.cells #[.int .i64 0, .int .i64 0, .int .i64 0, .int .i64 0, .int .i64 0, .int .i64 0, .int .i64 0, .int .i64 0] 27)) = .ok () (((w.alloc (.cells #[.int .i64 0, .int .i64 0, .int .i64 0, .int .i64 0, .int .i64 0, .int .i64 0, .int .i64 0, .int .i64 0] 27)).alloc (.cells #[.int .i64 0, .int .i64 0, .int .i64 0, .int .i64 0, .int .i64 0, .int .i64 0, .int .i64 0, .int .i64 0] 27)).setRow w.heap.size (D m)) ∧ (storeCells ⟨w.heap.size + 1, 0, none⟩ (D n).toList).run Try.prog (((w.alloc (.cells #[.int .i64 0, .int .i64 0, .int .i64 0, .int .i64 0, .int .i64 0, .int .i64 0, .int .i64 0, .int .i64 0] 27)).alloc (.cells #[.int .i64 0, .int .i64 0, .int .i64 0, .int .i64 0, .int .i64 0, .int .i64 0, .int .i64 0, .int .i64 0] 27)).setRow w.heap.size (D m)) = .ok () ((((w.alloc (.cells #[.int .i64 0, .int .i64 0, .int .i64 0, .int .i64 0, .int .i64 0, .int .i64 0, .int .i64 0, .int .i64 0] 27)).alloc (.cells #[.int .i64 0, .int .i64 0, .int .i64 0, .int .i64 0, .int .i64 0, .int .i64 0, .int .i64 0, .int .i64 0] 27)).setRow w.heap.size (D m)).setRow (w.heap.size + 1) (D n)) := by
  have s1 : (w.alloc (.cells #[.int .i64 0, .int .i64 0, .int .i64 0, .int .i64 0, .int .i64 0, .int .i64 0, .int .i64 0, .int .i64 0] 27)).heap.size = w.heap.size + 1 := by simp
  have hX := (Box.new w).alloc (.cells #[.int .i64 0, .int .i64 0, .int .i64 0, .int .i64 0, .int .i64 0, .int .i64 0, .int .i64 0, .int .i64 0] 27)
  have hY := Box.new (w.alloc (.cells #[.int .i64 0, .int .i64 0, .int .i64 0, .int .i64 0, .int .i64 0, .int .i64 0, .int .i64 0, .int .i64 0] 27))
  rw [s1] at hY
  have hY2 := hY.other (show w.heap.size + 1 ≠ w.heap.size by omega) (D m)
  refine ⟨_, rfl, (hX.set m).other (show w.heap.size ≠ w.heap.size + 1 by omega) (D n), hY2.set n, below_setRow (below_setRow (((Below.refl _ _).alloc (Nat.le_refl _) _).alloc (by simp) _) (Nat.le_refl _) _) (by omega) _, by simp, hX.st m, hY2.st n⟩
theorem wide_left64 (H : Nat) (w : World) (hH : H < 18446744073709551616) : Calls Try.prog 20 #[.agg #[.int .u64 0, .int .u64 (H : Int)], .int .i64 64] w fun e w' => e = .returned (.agg #[.int .u64 (H : Int), .int .u64 0]) ∧ Below w.heap.size w w' := by
  refine (wide_left_c 0 H 0 64 w (by omega) hH rfl (by omega)).mono ?_
  rintro e w' ⟨hi, lo, rfl, hhi, hlo, hnm, hb⟩
  rw [← mm8, Nat.zero_mul, Nat.zero_add, Nat.zero_add, ← m64, Nat.mod_eq_of_lt (Nat.mul_lt_mul_of_pos_right hH (by omega))] at hnm
  unfold nm at hnm
  obtain rfl : hi = (H : Int) := by omega
  obtain rfl : lo = 0 := by omega
  exact ⟨rfl, hb⟩
namespace wideDivs
theorem nums (h l b q1 hm q r M : Nat) (hb : 0 < b) (e1 : h / b = q1) (e2 : h % b = hm) (e3 : (hm * M + l) / b = q) (e4 : (hm * M + l) % b = r) (hl : l < M) (hbM : b < M) : (h * M + l) / b = q1 * M + q ∧ (h * M + l) % b = r ∧ q < M ∧ r < b ∧ q1 * b + hm = h ∧ q * b + r = hm * M + l := by
  have h1 := Nat.div_add_mod h b
  have h2 := Nat.div_add_mod (hm * M + l) b
  rw [e1, e2] at h1
  rw [e3, e4] at h2
  have hr : r < b := by rw [← e4]; exact Nat.mod_lt _ hb
  have hm1 : hm < b := by rw [← e2]; exact Nat.mod_lt _ hb
  have e : h * M + l = b * (q1 * M + q) + r := by
    rw [Nat.mul_add, Nat.add_assoc, h2, ← h1, Nat.add_mul, Nat.mul_assoc]; omega
  refine ⟨?_, ?_, ?_, hr, by rw [Nat.mul_comm]; exact h1, by rw [Nat.mul_comm]; exact h2⟩
  · rw [e, Nat.mul_add_div hb, Nat.div_eq_of_lt hr, Nat.add_zero]
  · rw [e, Nat.mul_add_mod, Nat.mod_eq_of_lt hr]
  · rw [← e3, Nat.div_lt_iff_lt_mul hb]
    have := Nat.mul_le_mul_right M (show hm + 1 ≤ b from hm1)
    rw [Nat.add_mul, Nat.one_mul, Nat.mul_comm b] at this
    omega
set_option maxRecDepth 100000 in
set_option maxHeartbeats 16000000 in
theorem nought (h l : Nat) (W : World) :
    Calls Try.prog 4 #[.agg #[.int .u64 (h : Int), .int .u64 (l : Int)], .int .u64 0] W fun e w' => e = .returned (.bool true) ∧ Below W.heap.size W w' := by
  have LV := Lib.hid (fun w => live1 w)
  have DV := Lib.hid (fun w => wide_div0 (h : Int) (l : Int) w)
  have d0 : ((0 : Int) == 0) = true := rfl
  have hb1 := (Below.refl W.heap.size W).alloc (Nat.le_refl _) (.cells #[.int .u64 (h : Int), .int .u64 (l : Int)] 23)
  obtain ⟨w0, hw0, c0, c1, b2, s2⟩ := box2u (W.alloc (.cells #[.int .u64 (h : Int), .int .u64 (l : Int)] 23)) (h : Int) (l : Int) 25
  have s1 : (W.alloc (.cells #[.int .u64 (h : Int), .int .u64 (l : Int)] 23)).heap.size = W.heap.size + 1 := by simp
  rw [s1] at c0 c1 s2
  have hB := Lib.hid (hb1.trans (b2.mono (by rw [s1]; omega)))
  clear hb1 b2 s1
  go_enter Try.func4, Try.ntmps4
  go_upto_region 2 with fail
  rw [← hw0]
  clear hw0
  go_wp2_with fail
  refine (DV.out _).mono ?_
  rintro e w1 ⟨rfl, b1⟩
  have hB1 := Lib.hid (hB.out.trans (b1.mono hB.out.size))
  clear b1
  obtain ⟨w2, hw2, y0, y1, b2, s3⟩ := box2u w1 0 0 25
  have hB2 := Lib.hid (hB1.out.trans (b2.mono hB1.out.size))
  clear b2
  go_upto_region 3 with fail
  rw [← hw2]
  clear hw2
  go_wp2_with fail
  refine (LV.out _).mono ?_
  rintro e w3 ⟨rfl, b3⟩
  go_wp2_with fail
  go_ret
  exact ⟨rfl, hB2.out.trans (b3.mono hB2.out.size)⟩
set_option maxRecDepth 100000 in
set_option maxHeartbeats 16000000 in
theorem main (h l b : Nat) (W : World) (hh : h < 18446744073709551616) (hl : l < 18446744073709551616) (hb0 : 0 < b) (hb : b < 18446744073709551616) :
    Calls Try.prog 4 #[.agg #[.int .u64 (h : Int), .int .u64 (l : Int)], .int .u64 (b : Int)] W fun e w' => e = .returned (.bool true) ∧ Below W.heap.size W w' := by
  obtain ⟨q1, e1⟩ : ∃ n, h / b = n := ⟨_, rfl⟩
  obtain ⟨hm, e2⟩ : ∃ n, h % b = n := ⟨_, rfl⟩
  obtain ⟨q, e3⟩ : ∃ n, (hm * 18446744073709551616 + l) / b = n := ⟨_, rfl⟩
  obtain ⟨r, e4⟩ : ∃ n, (hm * 18446744073709551616 + l) % b = n := ⟨_, rfl⟩
  obtain ⟨g1, g2, g3, g4, g5, g6⟩ := nums h l b q1 hm q r 18446744073709551616 hb0 e1 e2 e3 e4 hl hb
  obtain ⟨n1, hn1⟩ : ∃ n, q1 * 18446744073709551616 + q = n := ⟨_, rfl⟩
  have hq1 : q1 < 18446744073709551616 := by rw [← e1]; exact Nat.lt_of_le_of_lt (Nat.div_le_self _ _) hh
  have LV := Lib.hid (fun w => live1 w)
  have DV := Lib.hid (fun w => wide_div1 h l b q1 hm q r w hb0 hb hh hl e1 e2 e3 e4)
  have DX := Lib.hid (fun w => digits_D (h : Int) (l : Int) w ⟨by omega, by omega⟩ ⟨by omega, by omega⟩)
  have RD := Lib.hid (fun w => r1_div (h * 18446744073709551616 + l) b w (by rw [p8]; omega) hb0 hb)
  rw [nm_nat] at DX
  rw [g1, g2, hn1] at RD
  have DQ := Lib.hid (fun w => digits_D (q1 : Int) (q : Int) w ⟨by omega, by omega⟩ ⟨by omega, by omega⟩)
  rw [nm_nat, hn1] at DQ
  have RO := Lib.hid (fun w => r1_of 0 (r : Int) w (by omega) (by omega) (by omega) (by omega))
  rw [show (0 * 18446744073709551616 + (r : Int)).toNat = r by omega] at RO
  obtain ⟨H, hH⟩ : ∃ n, q1 * b = n := ⟨_, rfl⟩
  obtain ⟨F, hF⟩ : ∃ n, q * b = n := ⟨_, rfl⟩
  obtain ⟨p1, hp1⟩ : ∃ n, F / 18446744073709551616 = n := ⟨_, rfl⟩
  obtain ⟨p2, hp2⟩ : ∃ n, F % 18446744073709551616 = n := ⟨_, rfl⟩
  rw [hH] at g5
  rw [hF] at g6
  have M1 := Lib.hid (fun w => wide_mul (q : Int) (b : Int) w (by omega) (by omega) (by omega) (by omega))
  rw [← Int.natCast_mul, hF, show (F : Int) / 18446744073709551616 = (p1 : Int) by omega, show (F : Int) % 18446744073709551616 = (p2 : Int) by omega] at M1
  have M2 := Lib.hid (fun w => wide_mul (q1 : Int) (b : Int) w (by omega) (by omega) (by omega) (by omega))
  rw [← Int.natCast_mul, hH, show (H : Int) / 18446744073709551616 = 0 by omega, show (H : Int) % 18446744073709551616 = (H : Int) by omega] at M2
  have LF := Lib.hid (fun w => wide_left64 H w (by omega))
  have A1 := Lib.hid (fun w => wide_add (H : Int) 0 (p1 : Int) (p2 : Int) w (by omega) (by omega) (by omega) (by omega) (by omega) (by omega) (by omega) (by omega))
  obtain ⟨s1, hs1⟩ : ∃ n, H + p1 = n := ⟨_, rfl⟩
  rw [show ((H : Int) + p1 + (0 + (p2 : Int)) / 18446744073709551616) % 18446744073709551616 = (s1 : Int) by omega, show (0 + (p2 : Int)) % 18446744073709551616 = (p2 : Int) by omega] at A1
  have OF := Lib.hid (fun w => wide_of (r : Int) w)
  have A2 := Lib.hid (fun w => wide_add (s1 : Int) (p2 : Int) 0 (r : Int) w (by omega) (by omega) (by omega) (by omega) (by omega) (by omega) (by omega) (by omega))
  rw [show ((s1 : Int) + 0 + ((p2 : Int) + (r : Int)) / 18446744073709551616) % 18446744073709551616 = (h : Int) by omega, show ((p2 : Int) + (r : Int)) % 18446744073709551616 = (l : Int) by omega] at A2
  have E1 : ∀ w, (binOp .neq 27 (.agg (D n1)) (.agg #[.int .i64 (dg n1 0), .int .i64 (dg n1 1), .int .i64 (dg n1 2), .int .i64 (dg n1 3), .int .i64 (dg n1 4), .int .i64 (dg n1 5), .int .i64 (dg n1 6), .int .i64 (dg n1 7)])).run Try.prog w = .ok (.bool false) w := neq_D2 n1
  have E2 : ∀ w, (binOp .neq 27 (.agg (D r)) (.agg #[.int .i64 (dg r 0), .int .i64 (dg r 1), .int .i64 (dg r 2), .int .i64 (dg r 3), .int .i64 (dg r 4), .int .i64 (dg r 5), .int .i64 (dg r 6), .int .i64 (dg r 7)])).run Try.prog w = .ok (.bool false) w := neq_D2 r
  have d1 : ((b : Int) == 0) = false := by simp; omega
  have d2 : decide ((b : Int) ≤ (r : Int)) = false := decide_eq_false (by omega)
  have d2' : decide (b ≤ r) = false := decide_eq_false (by omega)
  have bn : ¬ (b = 0) := by omega
  clear g1 g2 g3 g5 g6 e1 e2 e3 e4 hn1 hH hF hp1 hp2 hs1 hq1 hh hl hb
  generalize h * 18446744073709551616 + l = A at *
  have hb1 := (Below.refl W.heap.size W).alloc (Nat.le_refl _) (.cells #[.int .u64 (h : Int), .int .u64 (l : Int)] 23)
  obtain ⟨w0, hw0, c0, c1, b2, s2⟩ := box2u (W.alloc (.cells #[.int .u64 (h : Int), .int .u64 (l : Int)] 23)) (h : Int) (l : Int) 25
  have s3 : (W.alloc (.cells #[.int .u64 (h : Int), .int .u64 (l : Int)] 23)).heap.size = W.heap.size + 1 := by simp
  rw [s3] at c0 c1 s2
  have hB := Lib.hid (hb1.trans (b2.mono (by rw [s3]; omega)))
  have lX : W.heap.size + 1 < w0.heap.size := by omega
  clear hb1 b2 s3 s2
  go_enter Try.func4, Try.ntmps4
  go_upto_region 2 with fail
  rw [← hw0]
  clear hw0
  go_wp2_with fail
  refine (DV.out _).mono ?_
  rintro e w1 ⟨rfl, b1⟩
  have hB := Lib.hid (hB.out.trans (b1.mono hB.out.size))
  have c0 := (b1.cell (p := ⟨W.heap.size + 1, 0, none⟩) lX).trans c0
  have c1 := (b1.cell (p := ⟨W.heap.size + 1, 1, none⟩) lX).trans c1
  have lX1 := Nat.lt_of_lt_of_le lX b1.size
  clear b1 lX
  obtain ⟨w2, hw2, y0, y1, b2, s3⟩ := box2u w1 (q1 : Int) (q : Int) 25
  have hB := Lib.hid (hB.out.trans (b2.mono hB.out.size))
  have c0 := (b2.cell (p := ⟨W.heap.size + 1, 0, none⟩) lX1).trans c0
  have c1 := (b2.cell (p := ⟨W.heap.size + 1, 1, none⟩) lX1).trans c1
  have lP : w1.heap.size < w2.heap.size := by omega
  have lX := Nat.lt_of_lt_of_le lX1 b2.size
  clear b2 s3 lX1
  go_upto_region 3 with fail
  rw [← hw2]
  clear hw2
  generalize w1.heap.size = P at *
  have MP := Lib.hid (fun w' (hb : Below w2.heap.size w2 w') => (show w'.cell? ⟨W.heap.size + 1, 0, none⟩ = some (.int .u64 (h : Int)) ∧ w'.cell? ⟨W.heap.size + 1, 1, none⟩ = some (.int .u64 (l : Int)) ∧ w'.cell? ⟨P, 0, none⟩ = some (.int .u64 (q1 : Int)) ∧ w'.cell? ⟨P, 1, none⟩ = some (.int .u64 (q : Int)) ∧ Below w2.heap.size w2 w' from ⟨(hb.cell (p := ⟨W.heap.size + 1, 0, none⟩) lX).trans c0, (hb.cell (p := ⟨W.heap.size + 1, 1, none⟩) lX).trans c1, (hb.cell (p := ⟨P, 0, none⟩) lP).trans y0, (hb.cell (p := ⟨P, 1, none⟩) lP).trans y1, hb⟩))
  go_wp2_with fail
  refine (DX.out _).mono ?_
  rintro e w3 ⟨rfl, b3⟩
  go_wp2_with fail
  refine (RD.out _).mono ?_
  rintro e w4 ⟨rfl, b4⟩
  have b4 := b3.trans (b4.mono b3.size)
  obtain ⟨w5, hw5, hX, hY, b5, s5, st1, st2⟩ := divs_two w4 n1 r
  have b5 := b4.trans (b5.mono b4.size)
  clear c0 c1 y0 y1 lX lP b3 b4
  go_upto_region 6 with fail
  rw [← hw5]
  clear hw5 st1 st2
  obtain ⟨X, hX4⟩ : ∃ X, w4.heap.size = X := ⟨_, rfl⟩
  rw [hX4] at hX hY ⊢
  clear hX4 s5
  obtain ⟨a0, a1, a2, a3, a4, a5, a6, a7⟩ := hX.cells
  obtain ⟨b0, b1, b2, b3, b4, bb5, b6, b7⟩ := hY.cells
  have lX := hX.lt
  have lY := hY.lt
  obtain ⟨x0, x1, y0, y1, _⟩ := MP.out _ b5
  have lx := block_lt_of_cell x0
  have lP := block_lt_of_cell y0
  have hB := Lib.hid (hB.out.trans (b5.mono hB.out.size))
  have M6 := Lib.hid (fun w' (hb : Below w5.heap.size w5 w') => (show w'.cell? ⟨W.heap.size + 1, 0, none⟩ = some (.int .u64 (h : Int)) ∧ w'.cell? ⟨W.heap.size + 1, 1, none⟩ = some (.int .u64 (l : Int)) ∧ w'.cell? ⟨P, 0, none⟩ = some (.int .u64 (q1 : Int)) ∧ w'.cell? ⟨P, 1, none⟩ = some (.int .u64 (q : Int)) ∧ w'.cell? ⟨X, 0, none⟩ = some (.int .i64 (dg n1 0)) ∧ w'.cell? ⟨X, 1, none⟩ = some (.int .i64 (dg n1 1)) ∧ w'.cell? ⟨X, 2, none⟩ = some (.int .i64 (dg n1 2)) ∧ w'.cell? ⟨X, 3, none⟩ = some (.int .i64 (dg n1 3)) ∧ w'.cell? ⟨X, 4, none⟩ = some (.int .i64 (dg n1 4)) ∧ w'.cell? ⟨X, 5, none⟩ = some (.int .i64 (dg n1 5)) ∧ w'.cell? ⟨X, 6, none⟩ = some (.int .i64 (dg n1 6)) ∧ w'.cell? ⟨X, 7, none⟩ = some (.int .i64 (dg n1 7)) ∧ w'.cell? ⟨(X + 1), 0, none⟩ = some (.int .i64 (dg r 0)) ∧ w'.cell? ⟨(X + 1), 1, none⟩ = some (.int .i64 (dg r 1)) ∧ w'.cell? ⟨(X + 1), 2, none⟩ = some (.int .i64 (dg r 2)) ∧ w'.cell? ⟨(X + 1), 3, none⟩ = some (.int .i64 (dg r 3)) ∧ w'.cell? ⟨(X + 1), 4, none⟩ = some (.int .i64 (dg r 4)) ∧ w'.cell? ⟨(X + 1), 5, none⟩ = some (.int .i64 (dg r 5)) ∧ w'.cell? ⟨(X + 1), 6, none⟩ = some (.int .i64 (dg r 6)) ∧ w'.cell? ⟨(X + 1), 7, none⟩ = some (.int .i64 (dg r 7)) ∧ Below w5.heap.size w5 w' from ⟨(hb.cell (p := ⟨W.heap.size + 1, 0, none⟩) lx).trans x0, (hb.cell (p := ⟨W.heap.size + 1, 1, none⟩) lx).trans x1, (hb.cell (p := ⟨P, 0, none⟩) lP).trans y0, (hb.cell (p := ⟨P, 1, none⟩) lP).trans y1, (hb.cell (p := ⟨X, 0, none⟩) lX).trans a0, (hb.cell (p := ⟨X, 1, none⟩) lX).trans a1, (hb.cell (p := ⟨X, 2, none⟩) lX).trans a2, (hb.cell (p := ⟨X, 3, none⟩) lX).trans a3, (hb.cell (p := ⟨X, 4, none⟩) lX).trans a4, (hb.cell (p := ⟨X, 5, none⟩) lX).trans a5, (hb.cell (p := ⟨X, 6, none⟩) lX).trans a6, (hb.cell (p := ⟨X, 7, none⟩) lX).trans a7, (hb.cell (p := ⟨(X + 1), 0, none⟩) lY).trans b0, (hb.cell (p := ⟨(X + 1), 1, none⟩) lY).trans b1, (hb.cell (p := ⟨(X + 1), 2, none⟩) lY).trans b2, (hb.cell (p := ⟨(X + 1), 3, none⟩) lY).trans b3, (hb.cell (p := ⟨(X + 1), 4, none⟩) lY).trans b4, (hb.cell (p := ⟨(X + 1), 5, none⟩) lY).trans bb5, (hb.cell (p := ⟨(X + 1), 6, none⟩) lY).trans b6, (hb.cell (p := ⟨(X + 1), 7, none⟩) lY).trans b7, hb⟩))
  have K6 := Lib.hid (fun w1 w' (hS : w1.cell? ⟨W.heap.size + 1, 0, none⟩ = some (.int .u64 (h : Int)) ∧ w1.cell? ⟨W.heap.size + 1, 1, none⟩ = some (.int .u64 (l : Int)) ∧ w1.cell? ⟨P, 0, none⟩ = some (.int .u64 (q1 : Int)) ∧ w1.cell? ⟨P, 1, none⟩ = some (.int .u64 (q : Int)) ∧ w1.cell? ⟨X, 0, none⟩ = some (.int .i64 (dg n1 0)) ∧ w1.cell? ⟨X, 1, none⟩ = some (.int .i64 (dg n1 1)) ∧ w1.cell? ⟨X, 2, none⟩ = some (.int .i64 (dg n1 2)) ∧ w1.cell? ⟨X, 3, none⟩ = some (.int .i64 (dg n1 3)) ∧ w1.cell? ⟨X, 4, none⟩ = some (.int .i64 (dg n1 4)) ∧ w1.cell? ⟨X, 5, none⟩ = some (.int .i64 (dg n1 5)) ∧ w1.cell? ⟨X, 6, none⟩ = some (.int .i64 (dg n1 6)) ∧ w1.cell? ⟨X, 7, none⟩ = some (.int .i64 (dg n1 7)) ∧ w1.cell? ⟨(X + 1), 0, none⟩ = some (.int .i64 (dg r 0)) ∧ w1.cell? ⟨(X + 1), 1, none⟩ = some (.int .i64 (dg r 1)) ∧ w1.cell? ⟨(X + 1), 2, none⟩ = some (.int .i64 (dg r 2)) ∧ w1.cell? ⟨(X + 1), 3, none⟩ = some (.int .i64 (dg r 3)) ∧ w1.cell? ⟨(X + 1), 4, none⟩ = some (.int .i64 (dg r 4)) ∧ w1.cell? ⟨(X + 1), 5, none⟩ = some (.int .i64 (dg r 5)) ∧ w1.cell? ⟨(X + 1), 6, none⟩ = some (.int .i64 (dg r 6)) ∧ w1.cell? ⟨(X + 1), 7, none⟩ = some (.int .i64 (dg r 7)) ∧ Below w5.heap.size w5 w1) (hb : Below w1.heap.size w1 w') => M6.out w' (hS.2.2.2.2.2.2.2.2.2.2.2.2.2.2.2.2.2.2.2.2.trans (hb.mono hS.2.2.2.2.2.2.2.2.2.2.2.2.2.2.2.2.2.2.2.2.size)))
  clear a0 a1 a2 a3 a4 a5 a6 a7 b0 b1 b2 b3 b4 bb5 b6 b7 hX hY lX lY x0 x1 y0 y1 lx lP b5
  go_region_held3 (fun w' => w'.cell? ⟨W.heap.size + 1, 0, none⟩ = some (.int .u64 (h : Int)) ∧ w'.cell? ⟨W.heap.size + 1, 1, none⟩ = some (.int .u64 (l : Int)) ∧ w'.cell? ⟨P, 0, none⟩ = some (.int .u64 (q1 : Int)) ∧ w'.cell? ⟨P, 1, none⟩ = some (.int .u64 (q : Int)) ∧ w'.cell? ⟨X, 0, none⟩ = some (.int .i64 (dg n1 0)) ∧ w'.cell? ⟨X, 1, none⟩ = some (.int .i64 (dg n1 1)) ∧ w'.cell? ⟨X, 2, none⟩ = some (.int .i64 (dg n1 2)) ∧ w'.cell? ⟨X, 3, none⟩ = some (.int .i64 (dg n1 3)) ∧ w'.cell? ⟨X, 4, none⟩ = some (.int .i64 (dg n1 4)) ∧ w'.cell? ⟨X, 5, none⟩ = some (.int .i64 (dg n1 5)) ∧ w'.cell? ⟨X, 6, none⟩ = some (.int .i64 (dg n1 6)) ∧ w'.cell? ⟨X, 7, none⟩ = some (.int .i64 (dg n1 7)) ∧ w'.cell? ⟨(X + 1), 0, none⟩ = some (.int .i64 (dg r 0)) ∧ w'.cell? ⟨(X + 1), 1, none⟩ = some (.int .i64 (dg r 1)) ∧ w'.cell? ⟨(X + 1), 2, none⟩ = some (.int .i64 (dg r 2)) ∧ w'.cell? ⟨(X + 1), 3, none⟩ = some (.int .i64 (dg r 3)) ∧ w'.cell? ⟨(X + 1), 4, none⟩ = some (.int .i64 (dg r 4)) ∧ w'.cell? ⟨(X + 1), 5, none⟩ = some (.int .i64 (dg r 5)) ∧ w'.cell? ⟨(X + 1), 6, none⟩ = some (.int .i64 (dg r 6)) ∧ w'.cell? ⟨(X + 1), 7, none⟩ = some (.int .i64 (dg r 7)) ∧ Below w5.heap.size w5 w') (first | exact M6.out _ ((Below.refl _ _).drew) | assumption | (refine K6.out _ _ ?_ hb; first | assumption | exact M6.out _ ((Below.refl _ _).drew))) ((first | (go_at_call 6; (with_reducible refine (DQ.out _).mono ?_); rintro e w' ⟨rfl, hb⟩) | (go_at_call 19; (with_reducible refine (RO.out _).mono ?_); rintro e w' ⟨rfl, hb⟩)))
  rename_i hSS
  obtain ⟨x0, x1, y0, y1, -, -, -, -, -, -, -, -, -, -, -, -, -, -, -, -, hBB⟩ := hSS
  have hB := Lib.hid (hB.out.trans (hBB.mono hB.out.size))
  have lx := block_lt_of_cell x0
  have lP := block_lt_of_cell y0
  clear M6 K6 hBB MP
  generalize w' = wv at *
  have MK := Lib.hid (fun w' (hb : Below wv.heap.size wv w') => (show w'.cell? ⟨P, 0, none⟩ = some (.int .u64 (q1 : Int)) ∧ w'.cell? ⟨P, 1, none⟩ = some (.int .u64 (q : Int)) ∧ Below wv.heap.size wv w' from ⟨(hb.cell (p := ⟨P, 0, none⟩) lP).trans y0, (hb.cell (p := ⟨P, 1, none⟩) lP).trans y1, hb⟩))
  go_upto_region 8 with fail
  go_cut [11, 12] (fun s11 s12 wx => ∃ R T : Nat, s11 = .pointer (some ⟨R, 0, none⟩) ∧ s12 = .pointer (some ⟨T, 0, none⟩) ∧ Row2 wx R p1 p2 ∧ Row2 wx T 0 H ∧ Below wv.heap.size wv wx)
  case first =>
    have Bk : Below wv.heap.size wv wv.drew := (Below.refl _ _).drew
    refine wp_region_held_drew (S := fun w' => w'.cell? ⟨P, 0, none⟩ = some (.int .u64 (q1 : Int)) ∧ w'.cell? ⟨P, 1, none⟩ = some (.int .u64 (q : Int)) ∧ Below wv.heap.size wv w') (by kernel_rfl) (MK.out _ Bk) (fun hHeld => ?_)
    clear x0 x1 y0 y1
    generalize wv.drew = u at *
    refine wpAnyH_take (i := 0) (v := ?v0) rfl (by kernel_rfl) (by kernel_rfl) (by kernel_rfl) (fun _ _ _ h => h) (Or.inl ⟨by kernel_rfl, ?hy0⟩) (by assumption) ?rest0
    case hy0 => intro w hSw; (try dsimp only at hSw); go_simp; (first | done | with_reducible rfl)
    (try simp only [Act.put, List.getElem_toArray, List.getElem_cons_zero, List.getElem_cons_succ, List.setIfInBounds_toArray, List.set_cons_zero, List.set_cons_succ])
    refine wpAnyH_take (i := 1) (v := ?v1) rfl (by kernel_rfl) (by kernel_rfl) (by kernel_rfl) (fun _ _ _ h => h) (Or.inl ⟨by kernel_rfl, ?hy1⟩) (by assumption) ?rest1
    case hy1 => intro w hSw; (try dsimp only at hSw); go_simp; (first | done | with_reducible rfl)
    (try simp only [Act.put, List.getElem_toArray, List.getElem_cons_zero, List.getElem_cons_succ, List.setIfInBounds_toArray, List.set_cons_zero, List.set_cons_succ])
    refine wpAnyH_take (i := 2) (v := ?v2) rfl (by kernel_rfl) (by kernel_rfl) (by kernel_rfl) (fun _ _ _ h => h) (Or.inl ⟨by kernel_rfl, ?hy2⟩) (by assumption) ?rest2
    case hy2 => intro w hSw; (try dsimp only at hSw); go_simp; (first | done | with_reducible rfl)
    (try simp only [Act.put, List.getElem_toArray, List.getElem_cons_zero, List.getElem_cons_succ, List.setIfInBounds_toArray, List.set_cons_zero, List.set_cons_succ])
    refine wpAnyH_take (i := 4) (v := ?v3) rfl (by kernel_rfl) (by kernel_rfl) (by kernel_rfl) (fun _ _ _ h => h) (Or.inl ⟨by kernel_rfl, ?hy3⟩) (by assumption) ?rest3
    case hy3 => intro w hSw; (try dsimp only at hSw); go_simp; (first | done | with_reducible rfl)
    (try simp only [Act.put, List.getElem_toArray, List.getElem_cons_zero, List.getElem_cons_succ, List.setIfInBounds_toArray, List.set_cons_zero, List.set_cons_succ])
    refine wpAnyH_take (i := 5) (v := ?v4) rfl (by kernel_rfl) (by kernel_rfl) (by kernel_rfl) (fun _ _ _ h => h) (Or.inl ⟨by kernel_rfl, ?hy4⟩) (by assumption) ?rest4
    case hy4 => intro w hSw; (try dsimp only at hSw); go_simp; (first | done | with_reducible rfl)
    (try simp only [Act.put, List.getElem_toArray, List.getElem_cons_zero, List.getElem_cons_succ, List.setIfInBounds_toArray, List.set_cons_zero, List.set_cons_succ])
    refine wpAnyH_take (i := 6) (v := ?v5) rfl (by kernel_rfl) (by kernel_rfl) (by kernel_rfl) (fun _ _ _ h => h) (Or.inl ⟨by kernel_rfl, ?hy5⟩) (by assumption) ?rest5
    case hy5 => intro w hSw; (try dsimp only at hSw); go_simp; (first | done | with_reducible rfl)
    (try simp only [Act.put, List.getElem_toArray, List.getElem_cons_zero, List.getElem_cons_succ, List.setIfInBounds_toArray, List.set_cons_zero, List.set_cons_succ])
    refine wpAnyH_ready (rs := [3, 8, 9]) (by kernel_rfl) (by simp) ?_
    refine AllReadyH.cons rfl (fun K hK => ?_) ?_
    · go_simp
      refine (M1.out _).mono ?_
      rintro e u ⟨rfl, hb⟩
      (try go_wp2_with fail)
      have Bk2 := Bk.trans (hb.mono Bk.size)
      refine hK.out _ _ (MK.out _ Bk2) (fun hHeld2 => ?_)
      clear hK K hHeld hb Bk
      have Bk := Bk2
      have hHeld := hHeld2
      clear hHeld2 Bk2
      (try simp only [Act.put, List.getElem_toArray, List.getElem_cons_zero, List.getElem_cons_succ, List.setIfInBounds_toArray, List.set_cons_zero, List.set_cons_succ])
      refine wpAnyH_ready (rs := [7, 8, 9]) (by kernel_rfl) (by simp) ?_
      refine AllReadyH.cons rfl (fun K hK => ?_) ?_
      · go_simp
        refine (M2.out _).mono ?_
        rintro e u ⟨rfl, hb⟩
        (try go_wp2_with fail)
        have Bk2 := Bk.trans (hb.mono Bk.size)
        refine hK.out _ _ (MK.out _ Bk2) (fun hHeld2 => ?_)
        clear hK K hHeld hb Bk
        have Bk := Bk2
        have hHeld := hHeld2
        clear hHeld2 Bk2
        (try simp only [Act.put, List.getElem_toArray, List.getElem_cons_zero, List.getElem_cons_succ, List.setIfInBounds_toArray, List.set_cons_zero, List.set_cons_succ])
        refine wpAnyH_ready (rs := [8, 9]) (by kernel_rfl) (by simp) ?_
        refine AllReadyH.cons rfl (fun K hK => ?_) ?_
        · go_simp
          have hR := Row2.new u
          have hge : wv.heap.size ≤ u.heap.size := Bk.size
          have Bk2 := Bk.alloc Bk.size (.cells #[.int .u64 0, .int .u64 0] 25)
          refine hK.out _ _ (MK.out _ Bk2) (fun hHeld2 => ?_)
          clear hK K hHeld Bk
          have Bk := Bk2
          have hHeld := hHeld2
          clear hHeld2 Bk2
          (try simp only [Act.put, List.getElem_toArray, List.getElem_cons_zero, List.getElem_cons_succ, List.setIfInBounds_toArray, List.set_cons_zero, List.set_cons_succ])
          generalize u.heap.size = R at *
          generalize u.alloc (.cells #[.int .u64 0, .int .u64 0] 25) = u at *
          refine wpAnyH_ready (rs := [9]) (by kernel_rfl) (by simp) ?_
          refine AllReadyH.cons rfl (fun K hK => ?_) AllReadyH.nil
          · go_simp
            have hT := Row2.new u
            have hge : wv.heap.size ≤ u.heap.size := Bk.size
            have Bk2 := Bk.alloc Bk.size (.cells #[.int .u64 0, .int .u64 0] 25)
            have hne := hR.lt
            have hR2 := hR.alloc (.cells #[.int .u64 0, .int .u64 0] 25)
            refine hK.out _ _ (MK.out _ Bk2) (fun hHeld2 => ?_)
            clear hK K hHeld Bk hR
            have hR := hR2
            clear hR2
            have Bk := Bk2
            have hHeld := hHeld2
            clear hHeld2 Bk2
            (try simp only [Act.put, List.getElem_toArray, List.getElem_cons_zero, List.getElem_cons_succ, List.setIfInBounds_toArray, List.set_cons_zero, List.set_cons_succ])
            generalize u.heap.size = T at *
            generalize u.alloc (.cells #[.int .u64 0, .int .u64 0] 25) = u at *
            refine wpAnyH_ready (rs := [10]) (by kernel_rfl) (by simp) ?_
            refine AllReadyH.cons rfl (fun K hK => ?_) AllReadyH.nil
            · obtain ⟨k2, k3, f2, f3, hr2⟩ := set2u hR (.int .u64 (p1 : Int)) (.int .u64 (p2 : Int))
              go_simp
              have hR2 : Row2 _ R p1 p2 := hr2
              have hT2 := (hT.other (show T ≠ R by omega) 0 (.int .u64 (p1 : Int))).other (show T ≠ R by omega) 1 (.int .u64 (p2 : Int))
              have Bk2 := (Bk.setCell (p := ⟨R, 0, none⟩) (show wv.heap.size ≤ R by omega) (.int .u64 (p1 : Int))).setCell (p := ⟨R, 1, none⟩) (show wv.heap.size ≤ R by omega) (.int .u64 (p2 : Int))
              refine hK.out _ _ (MK.out _ Bk2) (fun hHeld2 => ?_)
              clear hK K hHeld k2 k3 f2 f3 hr2 Bk hR hT
              have hR := hR2
              have hT := hT2
              have Bk := Bk2
              have hHeld := hHeld2
              clear hHeld2 Bk2 hR2 hT2
              (try simp only [Act.put])
              generalize (u.setCell ⟨R, 0, none⟩ (.int .u64 (p1 : Int))).setCell ⟨R, 1, none⟩ (.int .u64 (p2 : Int)) = u at *
              refine wpAnyH_ready (rs := [11]) (by kernel_rfl) (by simp) ?_
              refine AllReadyH.cons rfl (fun K hK => ?_) AllReadyH.nil
              · obtain ⟨k2, k3, f2, f3, hr2⟩ := set2u hT (.int .u64 (0 : Int)) (.int .u64 (H : Int))
                go_simp
                have hT2 : Row2 _ T 0 H := hr2
                have hR2 := (hR.other (show R ≠ T by omega) 0 (.int .u64 (0 : Int))).other (show R ≠ T by omega) 1 (.int .u64 (H : Int))
                have Bk2 := (Bk.setCell (p := ⟨T, 0, none⟩) (show wv.heap.size ≤ T by omega) (.int .u64 (0 : Int))).setCell (p := ⟨T, 1, none⟩) (show wv.heap.size ≤ T by omega) (.int .u64 (H : Int))
                refine hK.out _ _ (MK.out _ Bk2) (fun hHeld2 => ?_)
                clear hK K hHeld k2 k3 f2 f3 hr2 Bk hR hT
                have hR := hR2
                have hT := hT2
                have Bk := Bk2
                have hHeld := hHeld2
                clear hHeld2 Bk2 hR2 hT2
                (try simp only [Act.put])
                generalize (u.setCell ⟨T, 0, none⟩ (.int .u64 (0 : Int))).setCell ⟨T, 1, none⟩ (.int .u64 (H : Int)) = u at *
                refine wpAnyH_done (by kernel_rfl) ?_ _
                go_wp2_with fail
                go_meet
                exact ⟨R, T, rfl, rfl, hR, hT, Bk⟩
        refine AllReadyH.cons rfl (fun K hK => ?_) AllReadyH.nil
        · go_simp
          have hT := Row2.new u
          have hge : wv.heap.size ≤ u.heap.size := Bk.size
          have Bk2 := Bk.alloc Bk.size (.cells #[.int .u64 0, .int .u64 0] 25)
          refine hK.out _ _ (MK.out _ Bk2) (fun hHeld2 => ?_)
          clear hK K hHeld Bk
          have Bk := Bk2
          have hHeld := hHeld2
          clear hHeld2 Bk2
          (try simp only [Act.put, List.getElem_toArray, List.getElem_cons_zero, List.getElem_cons_succ, List.setIfInBounds_toArray, List.set_cons_zero, List.set_cons_succ])
          generalize u.heap.size = T at *
          generalize u.alloc (.cells #[.int .u64 0, .int .u64 0] 25) = u at *
          refine wpAnyH_ready (rs := [8]) (by kernel_rfl) (by simp) ?_
          refine AllReadyH.cons rfl (fun K hK => ?_) AllReadyH.nil
          · go_simp
            have hR := Row2.new u
            have hge : wv.heap.size ≤ u.heap.size := Bk.size
            have Bk2 := Bk.alloc Bk.size (.cells #[.int .u64 0, .int .u64 0] 25)
            have hne := hT.lt
            have hT2 := hT.alloc (.cells #[.int .u64 0, .int .u64 0] 25)
            refine hK.out _ _ (MK.out _ Bk2) (fun hHeld2 => ?_)
            clear hK K hHeld Bk hT
            have hT := hT2
            clear hT2
            have Bk := Bk2
            have hHeld := hHeld2
            clear hHeld2 Bk2
            (try simp only [Act.put, List.getElem_toArray, List.getElem_cons_zero, List.getElem_cons_succ, List.setIfInBounds_toArray, List.set_cons_zero, List.set_cons_succ])
            generalize u.heap.size = R at *
            generalize u.alloc (.cells #[.int .u64 0, .int .u64 0] 25) = u at *
            refine wpAnyH_ready (rs := [10]) (by kernel_rfl) (by simp) ?_
            refine AllReadyH.cons rfl (fun K hK => ?_) AllReadyH.nil
            · obtain ⟨k2, k3, f2, f3, hr2⟩ := set2u hR (.int .u64 (p1 : Int)) (.int .u64 (p2 : Int))
              go_simp
              have hR2 : Row2 _ R p1 p2 := hr2
              have hT2 := (hT.other (show T ≠ R by omega) 0 (.int .u64 (p1 : Int))).other (show T ≠ R by omega) 1 (.int .u64 (p2 : Int))
              have Bk2 := (Bk.setCell (p := ⟨R, 0, none⟩) (show wv.heap.size ≤ R by omega) (.int .u64 (p1 : Int))).setCell (p := ⟨R, 1, none⟩) (show wv.heap.size ≤ R by omega) (.int .u64 (p2 : Int))
              refine hK.out _ _ (MK.out _ Bk2) (fun hHeld2 => ?_)
              clear hK K hHeld k2 k3 f2 f3 hr2 Bk hR hT
              have hR := hR2
              have hT := hT2
              have Bk := Bk2
              have hHeld := hHeld2
              clear hHeld2 Bk2 hR2 hT2
              (try simp only [Act.put])
              generalize (u.setCell ⟨R, 0, none⟩ (.int .u64 (p1 : Int))).setCell ⟨R, 1, none⟩ (.int .u64 (p2 : Int)) = u at *
              refine wpAnyH_ready (rs := [11]) (by kernel_rfl) (by simp) ?_
              refine AllReadyH.cons rfl (fun K hK => ?_) AllReadyH.nil
              · obtain ⟨k2, k3, f2, f3, hr2⟩ := set2u hT (.int .u64 (0 : Int)) (.int .u64 (H : Int))
                go_simp
                have hT2 : Row2 _ T 0 H := hr2
                have hR2 := (hR.other (show R ≠ T by omega) 0 (.int .u64 (0 : Int))).other (show R ≠ T by omega) 1 (.int .u64 (H : Int))
                have Bk2 := (Bk.setCell (p := ⟨T, 0, none⟩) (show wv.heap.size ≤ T by omega) (.int .u64 (0 : Int))).setCell (p := ⟨T, 1, none⟩) (show wv.heap.size ≤ T by omega) (.int .u64 (H : Int))
                refine hK.out _ _ (MK.out _ Bk2) (fun hHeld2 => ?_)
                clear hK K hHeld k2 k3 f2 f3 hr2 Bk hR hT
                have hR := hR2
                have hT := hT2
                have Bk := Bk2
                have hHeld := hHeld2
                clear hHeld2 Bk2 hR2 hT2
                (try simp only [Act.put])
                generalize (u.setCell ⟨T, 0, none⟩ (.int .u64 (0 : Int))).setCell ⟨T, 1, none⟩ (.int .u64 (H : Int)) = u at *
                refine wpAnyH_done (by kernel_rfl) ?_ _
                go_wp2_with fail
                go_meet
                exact ⟨R, T, rfl, rfl, hR, hT, Bk⟩
      refine AllReadyH.cons rfl (fun K hK => ?_) ?_
      · go_simp
        have hR := Row2.new u
        have hge : wv.heap.size ≤ u.heap.size := Bk.size
        have Bk2 := Bk.alloc Bk.size (.cells #[.int .u64 0, .int .u64 0] 25)
        refine hK.out _ _ (MK.out _ Bk2) (fun hHeld2 => ?_)
        clear hK K hHeld Bk
        have Bk := Bk2
        have hHeld := hHeld2
        clear hHeld2 Bk2
        (try simp only [Act.put, List.getElem_toArray, List.getElem_cons_zero, List.getElem_cons_succ, List.setIfInBounds_toArray, List.set_cons_zero, List.set_cons_succ])
        generalize u.heap.size = R at *
        generalize u.alloc (.cells #[.int .u64 0, .int .u64 0] 25) = u at *
        refine wpAnyH_ready (rs := [7, 9]) (by kernel_rfl) (by simp) ?_
        refine AllReadyH.cons rfl (fun K hK => ?_) ?_
        · go_simp
          refine (M2.out _).mono ?_
          rintro e u ⟨rfl, hb⟩
          (try go_wp2_with fail)
          have Bk2 := Bk.trans (hb.mono Bk.size)
          have hR2 := hR.kept hb
          refine hK.out _ _ (MK.out _ Bk2) (fun hHeld2 => ?_)
          clear hK K hHeld hb Bk hR
          have hR := hR2
          have Bk := Bk2
          have hHeld := hHeld2
          clear hHeld2 Bk2 hR2
          (try simp only [Act.put, List.getElem_toArray, List.getElem_cons_zero, List.getElem_cons_succ, List.setIfInBounds_toArray, List.set_cons_zero, List.set_cons_succ])
          refine wpAnyH_ready (rs := [9]) (by kernel_rfl) (by simp) ?_
          refine AllReadyH.cons rfl (fun K hK => ?_) AllReadyH.nil
          · go_simp
            have hT := Row2.new u
            have hge : wv.heap.size ≤ u.heap.size := Bk.size
            have Bk2 := Bk.alloc Bk.size (.cells #[.int .u64 0, .int .u64 0] 25)
            have hne := hR.lt
            have hR2 := hR.alloc (.cells #[.int .u64 0, .int .u64 0] 25)
            refine hK.out _ _ (MK.out _ Bk2) (fun hHeld2 => ?_)
            clear hK K hHeld Bk hR
            have hR := hR2
            clear hR2
            have Bk := Bk2
            have hHeld := hHeld2
            clear hHeld2 Bk2
            (try simp only [Act.put, List.getElem_toArray, List.getElem_cons_zero, List.getElem_cons_succ, List.setIfInBounds_toArray, List.set_cons_zero, List.set_cons_succ])
            generalize u.heap.size = T at *
            generalize u.alloc (.cells #[.int .u64 0, .int .u64 0] 25) = u at *
            refine wpAnyH_ready (rs := [10]) (by kernel_rfl) (by simp) ?_
            refine AllReadyH.cons rfl (fun K hK => ?_) AllReadyH.nil
            · obtain ⟨k2, k3, f2, f3, hr2⟩ := set2u hR (.int .u64 (p1 : Int)) (.int .u64 (p2 : Int))
              go_simp
              have hR2 : Row2 _ R p1 p2 := hr2
              have hT2 := (hT.other (show T ≠ R by omega) 0 (.int .u64 (p1 : Int))).other (show T ≠ R by omega) 1 (.int .u64 (p2 : Int))
              have Bk2 := (Bk.setCell (p := ⟨R, 0, none⟩) (show wv.heap.size ≤ R by omega) (.int .u64 (p1 : Int))).setCell (p := ⟨R, 1, none⟩) (show wv.heap.size ≤ R by omega) (.int .u64 (p2 : Int))
              refine hK.out _ _ (MK.out _ Bk2) (fun hHeld2 => ?_)
              clear hK K hHeld k2 k3 f2 f3 hr2 Bk hR hT
              have hR := hR2
              have hT := hT2
              have Bk := Bk2
              have hHeld := hHeld2
              clear hHeld2 Bk2 hR2 hT2
              (try simp only [Act.put])
              generalize (u.setCell ⟨R, 0, none⟩ (.int .u64 (p1 : Int))).setCell ⟨R, 1, none⟩ (.int .u64 (p2 : Int)) = u at *
              refine wpAnyH_ready (rs := [11]) (by kernel_rfl) (by simp) ?_
              refine AllReadyH.cons rfl (fun K hK => ?_) AllReadyH.nil
              · obtain ⟨k2, k3, f2, f3, hr2⟩ := set2u hT (.int .u64 (0 : Int)) (.int .u64 (H : Int))
                go_simp
                have hT2 : Row2 _ T 0 H := hr2
                have hR2 := (hR.other (show R ≠ T by omega) 0 (.int .u64 (0 : Int))).other (show R ≠ T by omega) 1 (.int .u64 (H : Int))
                have Bk2 := (Bk.setCell (p := ⟨T, 0, none⟩) (show wv.heap.size ≤ T by omega) (.int .u64 (0 : Int))).setCell (p := ⟨T, 1, none⟩) (show wv.heap.size ≤ T by omega) (.int .u64 (H : Int))
                refine hK.out _ _ (MK.out _ Bk2) (fun hHeld2 => ?_)
                clear hK K hHeld k2 k3 f2 f3 hr2 Bk hR hT
                have hR := hR2
                have hT := hT2
                have Bk := Bk2
                have hHeld := hHeld2
                clear hHeld2 Bk2 hR2 hT2
                (try simp only [Act.put])
                generalize (u.setCell ⟨T, 0, none⟩ (.int .u64 (0 : Int))).setCell ⟨T, 1, none⟩ (.int .u64 (H : Int)) = u at *
                refine wpAnyH_done (by kernel_rfl) ?_ _
                go_wp2_with fail
                go_meet
                exact ⟨R, T, rfl, rfl, hR, hT, Bk⟩
        refine AllReadyH.cons rfl (fun K hK => ?_) AllReadyH.nil
        · go_simp
          have hT := Row2.new u
          have hge : wv.heap.size ≤ u.heap.size := Bk.size
          have Bk2 := Bk.alloc Bk.size (.cells #[.int .u64 0, .int .u64 0] 25)
          have hne := hR.lt
          have hR2 := hR.alloc (.cells #[.int .u64 0, .int .u64 0] 25)
          refine hK.out _ _ (MK.out _ Bk2) (fun hHeld2 => ?_)
          clear hK K hHeld Bk hR
          have hR := hR2
          clear hR2
          have Bk := Bk2
          have hHeld := hHeld2
          clear hHeld2 Bk2
          (try simp only [Act.put, List.getElem_toArray, List.getElem_cons_zero, List.getElem_cons_succ, List.setIfInBounds_toArray, List.set_cons_zero, List.set_cons_succ])
          generalize u.heap.size = T at *
          generalize u.alloc (.cells #[.int .u64 0, .int .u64 0] 25) = u at *
          refine wpAnyH_ready (rs := [7]) (by kernel_rfl) (by simp) ?_
          refine AllReadyH.cons rfl (fun K hK => ?_) AllReadyH.nil
          · go_simp
            refine (M2.out _).mono ?_
            rintro e u ⟨rfl, hb⟩
            (try go_wp2_with fail)
            have Bk2 := Bk.trans (hb.mono Bk.size)
            have hR2 := hR.kept hb
            have hT2 := hT.kept hb
            refine hK.out _ _ (MK.out _ Bk2) (fun hHeld2 => ?_)
            clear hK K hHeld hb Bk hR hT
            have hR := hR2
            have hT := hT2
            have Bk := Bk2
            have hHeld := hHeld2
            clear hHeld2 Bk2 hR2 hT2
            (try simp only [Act.put, List.getElem_toArray, List.getElem_cons_zero, List.getElem_cons_succ, List.setIfInBounds_toArray, List.set_cons_zero, List.set_cons_succ])
            refine wpAnyH_ready (rs := [10]) (by kernel_rfl) (by simp) ?_
            refine AllReadyH.cons rfl (fun K hK => ?_) AllReadyH.nil
            · obtain ⟨k2, k3, f2, f3, hr2⟩ := set2u hR (.int .u64 (p1 : Int)) (.int .u64 (p2 : Int))
              go_simp
              have hR2 : Row2 _ R p1 p2 := hr2
              have hT2 := (hT.other (show T ≠ R by omega) 0 (.int .u64 (p1 : Int))).other (show T ≠ R by omega) 1 (.int .u64 (p2 : Int))
              have Bk2 := (Bk.setCell (p := ⟨R, 0, none⟩) (show wv.heap.size ≤ R by omega) (.int .u64 (p1 : Int))).setCell (p := ⟨R, 1, none⟩) (show wv.heap.size ≤ R by omega) (.int .u64 (p2 : Int))
              refine hK.out _ _ (MK.out _ Bk2) (fun hHeld2 => ?_)
              clear hK K hHeld k2 k3 f2 f3 hr2 Bk hR hT
              have hR := hR2
              have hT := hT2
              have Bk := Bk2
              have hHeld := hHeld2
              clear hHeld2 Bk2 hR2 hT2
              (try simp only [Act.put])
              generalize (u.setCell ⟨R, 0, none⟩ (.int .u64 (p1 : Int))).setCell ⟨R, 1, none⟩ (.int .u64 (p2 : Int)) = u at *
              refine wpAnyH_ready (rs := [11]) (by kernel_rfl) (by simp) ?_
              refine AllReadyH.cons rfl (fun K hK => ?_) AllReadyH.nil
              · obtain ⟨k2, k3, f2, f3, hr2⟩ := set2u hT (.int .u64 (0 : Int)) (.int .u64 (H : Int))
                go_simp
                have hT2 : Row2 _ T 0 H := hr2
                have hR2 := (hR.other (show R ≠ T by omega) 0 (.int .u64 (0 : Int))).other (show R ≠ T by omega) 1 (.int .u64 (H : Int))
                have Bk2 := (Bk.setCell (p := ⟨T, 0, none⟩) (show wv.heap.size ≤ T by omega) (.int .u64 (0 : Int))).setCell (p := ⟨T, 1, none⟩) (show wv.heap.size ≤ T by omega) (.int .u64 (H : Int))
                refine hK.out _ _ (MK.out _ Bk2) (fun hHeld2 => ?_)
                clear hK K hHeld k2 k3 f2 f3 hr2 Bk hR hT
                have hR := hR2
                have hT := hT2
                have Bk := Bk2
                have hHeld := hHeld2
                clear hHeld2 Bk2 hR2 hT2
                (try simp only [Act.put])
                generalize (u.setCell ⟨T, 0, none⟩ (.int .u64 (0 : Int))).setCell ⟨T, 1, none⟩ (.int .u64 (H : Int)) = u at *
                refine wpAnyH_done (by kernel_rfl) ?_ _
                go_wp2_with fail
                go_meet
                exact ⟨R, T, rfl, rfl, hR, hT, Bk⟩
      refine AllReadyH.cons rfl (fun K hK => ?_) AllReadyH.nil
      · go_simp
        have hT := Row2.new u
        have hge : wv.heap.size ≤ u.heap.size := Bk.size
        have Bk2 := Bk.alloc Bk.size (.cells #[.int .u64 0, .int .u64 0] 25)
        refine hK.out _ _ (MK.out _ Bk2) (fun hHeld2 => ?_)
        clear hK K hHeld Bk
        have Bk := Bk2
        have hHeld := hHeld2
        clear hHeld2 Bk2
        (try simp only [Act.put, List.getElem_toArray, List.getElem_cons_zero, List.getElem_cons_succ, List.setIfInBounds_toArray, List.set_cons_zero, List.set_cons_succ])
        generalize u.heap.size = T at *
        generalize u.alloc (.cells #[.int .u64 0, .int .u64 0] 25) = u at *
        refine wpAnyH_ready (rs := [7, 8]) (by kernel_rfl) (by simp) ?_
        refine AllReadyH.cons rfl (fun K hK => ?_) ?_
        · go_simp
          refine (M2.out _).mono ?_
          rintro e u ⟨rfl, hb⟩
          (try go_wp2_with fail)
          have Bk2 := Bk.trans (hb.mono Bk.size)
          have hT2 := hT.kept hb
          refine hK.out _ _ (MK.out _ Bk2) (fun hHeld2 => ?_)
          clear hK K hHeld hb Bk hT
          have hT := hT2
          have Bk := Bk2
          have hHeld := hHeld2
          clear hHeld2 Bk2 hT2
          (try simp only [Act.put, List.getElem_toArray, List.getElem_cons_zero, List.getElem_cons_succ, List.setIfInBounds_toArray, List.set_cons_zero, List.set_cons_succ])
          refine wpAnyH_ready (rs := [8]) (by kernel_rfl) (by simp) ?_
          refine AllReadyH.cons rfl (fun K hK => ?_) AllReadyH.nil
          · go_simp
            have hR := Row2.new u
            have hge : wv.heap.size ≤ u.heap.size := Bk.size
            have Bk2 := Bk.alloc Bk.size (.cells #[.int .u64 0, .int .u64 0] 25)
            have hne := hT.lt
            have hT2 := hT.alloc (.cells #[.int .u64 0, .int .u64 0] 25)
            refine hK.out _ _ (MK.out _ Bk2) (fun hHeld2 => ?_)
            clear hK K hHeld Bk hT
            have hT := hT2
            clear hT2
            have Bk := Bk2
            have hHeld := hHeld2
            clear hHeld2 Bk2
            (try simp only [Act.put, List.getElem_toArray, List.getElem_cons_zero, List.getElem_cons_succ, List.setIfInBounds_toArray, List.set_cons_zero, List.set_cons_succ])
            generalize u.heap.size = R at *
            generalize u.alloc (.cells #[.int .u64 0, .int .u64 0] 25) = u at *
            refine wpAnyH_ready (rs := [10]) (by kernel_rfl) (by simp) ?_
            refine AllReadyH.cons rfl (fun K hK => ?_) AllReadyH.nil
            · obtain ⟨k2, k3, f2, f3, hr2⟩ := set2u hR (.int .u64 (p1 : Int)) (.int .u64 (p2 : Int))
              go_simp
              have hR2 : Row2 _ R p1 p2 := hr2
              have hT2 := (hT.other (show T ≠ R by omega) 0 (.int .u64 (p1 : Int))).other (show T ≠ R by omega) 1 (.int .u64 (p2 : Int))
              have Bk2 := (Bk.setCell (p := ⟨R, 0, none⟩) (show wv.heap.size ≤ R by omega) (.int .u64 (p1 : Int))).setCell (p := ⟨R, 1, none⟩) (show wv.heap.size ≤ R by omega) (.int .u64 (p2 : Int))
              refine hK.out _ _ (MK.out _ Bk2) (fun hHeld2 => ?_)
              clear hK K hHeld k2 k3 f2 f3 hr2 Bk hR hT
              have hR := hR2
              have hT := hT2
              have Bk := Bk2
              have hHeld := hHeld2
              clear hHeld2 Bk2 hR2 hT2
              (try simp only [Act.put])
              generalize (u.setCell ⟨R, 0, none⟩ (.int .u64 (p1 : Int))).setCell ⟨R, 1, none⟩ (.int .u64 (p2 : Int)) = u at *
              refine wpAnyH_ready (rs := [11]) (by kernel_rfl) (by simp) ?_
              refine AllReadyH.cons rfl (fun K hK => ?_) AllReadyH.nil
              · obtain ⟨k2, k3, f2, f3, hr2⟩ := set2u hT (.int .u64 (0 : Int)) (.int .u64 (H : Int))
                go_simp
                have hT2 : Row2 _ T 0 H := hr2
                have hR2 := (hR.other (show R ≠ T by omega) 0 (.int .u64 (0 : Int))).other (show R ≠ T by omega) 1 (.int .u64 (H : Int))
                have Bk2 := (Bk.setCell (p := ⟨T, 0, none⟩) (show wv.heap.size ≤ T by omega) (.int .u64 (0 : Int))).setCell (p := ⟨T, 1, none⟩) (show wv.heap.size ≤ T by omega) (.int .u64 (H : Int))
                refine hK.out _ _ (MK.out _ Bk2) (fun hHeld2 => ?_)
                clear hK K hHeld k2 k3 f2 f3 hr2 Bk hR hT
                have hR := hR2
                have hT := hT2
                have Bk := Bk2
                have hHeld := hHeld2
                clear hHeld2 Bk2 hR2 hT2
                (try simp only [Act.put])
                generalize (u.setCell ⟨T, 0, none⟩ (.int .u64 (0 : Int))).setCell ⟨T, 1, none⟩ (.int .u64 (H : Int)) = u at *
                refine wpAnyH_done (by kernel_rfl) ?_ _
                go_wp2_with fail
                go_meet
                exact ⟨R, T, rfl, rfl, hR, hT, Bk⟩
        refine AllReadyH.cons rfl (fun K hK => ?_) AllReadyH.nil
        · go_simp
          have hR := Row2.new u
          have hge : wv.heap.size ≤ u.heap.size := Bk.size
          have Bk2 := Bk.alloc Bk.size (.cells #[.int .u64 0, .int .u64 0] 25)
          have hne := hT.lt
          have hT2 := hT.alloc (.cells #[.int .u64 0, .int .u64 0] 25)
          refine hK.out _ _ (MK.out _ Bk2) (fun hHeld2 => ?_)
          clear hK K hHeld Bk hT
          have hT := hT2
          clear hT2
          have Bk := Bk2
          have hHeld := hHeld2
          clear hHeld2 Bk2
          (try simp only [Act.put, List.getElem_toArray, List.getElem_cons_zero, List.getElem_cons_succ, List.setIfInBounds_toArray, List.set_cons_zero, List.set_cons_succ])
          generalize u.heap.size = R at *
          generalize u.alloc (.cells #[.int .u64 0, .int .u64 0] 25) = u at *
          refine wpAnyH_ready (rs := [7]) (by kernel_rfl) (by simp) ?_
          refine AllReadyH.cons rfl (fun K hK => ?_) AllReadyH.nil
          · go_simp
            refine (M2.out _).mono ?_
            rintro e u ⟨rfl, hb⟩
            (try go_wp2_with fail)
            have Bk2 := Bk.trans (hb.mono Bk.size)
            have hR2 := hR.kept hb
            have hT2 := hT.kept hb
            refine hK.out _ _ (MK.out _ Bk2) (fun hHeld2 => ?_)
            clear hK K hHeld hb Bk hR hT
            have hR := hR2
            have hT := hT2
            have Bk := Bk2
            have hHeld := hHeld2
            clear hHeld2 Bk2 hR2 hT2
            (try simp only [Act.put, List.getElem_toArray, List.getElem_cons_zero, List.getElem_cons_succ, List.setIfInBounds_toArray, List.set_cons_zero, List.set_cons_succ])
            refine wpAnyH_ready (rs := [10]) (by kernel_rfl) (by simp) ?_
            refine AllReadyH.cons rfl (fun K hK => ?_) AllReadyH.nil
            · obtain ⟨k2, k3, f2, f3, hr2⟩ := set2u hR (.int .u64 (p1 : Int)) (.int .u64 (p2 : Int))
              go_simp
              have hR2 : Row2 _ R p1 p2 := hr2
              have hT2 := (hT.other (show T ≠ R by omega) 0 (.int .u64 (p1 : Int))).other (show T ≠ R by omega) 1 (.int .u64 (p2 : Int))
              have Bk2 := (Bk.setCell (p := ⟨R, 0, none⟩) (show wv.heap.size ≤ R by omega) (.int .u64 (p1 : Int))).setCell (p := ⟨R, 1, none⟩) (show wv.heap.size ≤ R by omega) (.int .u64 (p2 : Int))
              refine hK.out _ _ (MK.out _ Bk2) (fun hHeld2 => ?_)
              clear hK K hHeld k2 k3 f2 f3 hr2 Bk hR hT
              have hR := hR2
              have hT := hT2
              have Bk := Bk2
              have hHeld := hHeld2
              clear hHeld2 Bk2 hR2 hT2
              (try simp only [Act.put])
              generalize (u.setCell ⟨R, 0, none⟩ (.int .u64 (p1 : Int))).setCell ⟨R, 1, none⟩ (.int .u64 (p2 : Int)) = u at *
              refine wpAnyH_ready (rs := [11]) (by kernel_rfl) (by simp) ?_
              refine AllReadyH.cons rfl (fun K hK => ?_) AllReadyH.nil
              · obtain ⟨k2, k3, f2, f3, hr2⟩ := set2u hT (.int .u64 (0 : Int)) (.int .u64 (H : Int))
                go_simp
                have hT2 : Row2 _ T 0 H := hr2
                have hR2 := (hR.other (show R ≠ T by omega) 0 (.int .u64 (0 : Int))).other (show R ≠ T by omega) 1 (.int .u64 (H : Int))
                have Bk2 := (Bk.setCell (p := ⟨T, 0, none⟩) (show wv.heap.size ≤ T by omega) (.int .u64 (0 : Int))).setCell (p := ⟨T, 1, none⟩) (show wv.heap.size ≤ T by omega) (.int .u64 (H : Int))
                refine hK.out _ _ (MK.out _ Bk2) (fun hHeld2 => ?_)
                clear hK K hHeld k2 k3 f2 f3 hr2 Bk hR hT
                have hR := hR2
                have hT := hT2
                have Bk := Bk2
                have hHeld := hHeld2
                clear hHeld2 Bk2 hR2 hT2
                (try simp only [Act.put])
                generalize (u.setCell ⟨T, 0, none⟩ (.int .u64 (0 : Int))).setCell ⟨T, 1, none⟩ (.int .u64 (H : Int)) = u at *
                refine wpAnyH_done (by kernel_rfl) ?_ _
                go_wp2_with fail
                go_meet
                exact ⟨R, T, rfl, rfl, hR, hT, Bk⟩
    refine AllReadyH.cons rfl (fun K hK => ?_) ?_
    · go_simp
      have hR := Row2.new u
      have hge : wv.heap.size ≤ u.heap.size := Bk.size
      have Bk2 := Bk.alloc Bk.size (.cells #[.int .u64 0, .int .u64 0] 25)
      refine hK.out _ _ (MK.out _ Bk2) (fun hHeld2 => ?_)
      clear hK K hHeld Bk
      have Bk := Bk2
      have hHeld := hHeld2
      clear hHeld2 Bk2
      (try simp only [Act.put, List.getElem_toArray, List.getElem_cons_zero, List.getElem_cons_succ, List.setIfInBounds_toArray, List.set_cons_zero, List.set_cons_succ])
      generalize u.heap.size = R at *
      generalize u.alloc (.cells #[.int .u64 0, .int .u64 0] 25) = u at *
      refine wpAnyH_ready (rs := [3, 9]) (by kernel_rfl) (by simp) ?_
      refine AllReadyH.cons rfl (fun K hK => ?_) ?_
      · go_simp
        refine (M1.out _).mono ?_
        rintro e u ⟨rfl, hb⟩
        (try go_wp2_with fail)
        have Bk2 := Bk.trans (hb.mono Bk.size)
        have hR2 := hR.kept hb
        refine hK.out _ _ (MK.out _ Bk2) (fun hHeld2 => ?_)
        clear hK K hHeld hb Bk hR
        have hR := hR2
        have Bk := Bk2
        have hHeld := hHeld2
        clear hHeld2 Bk2 hR2
        (try simp only [Act.put, List.getElem_toArray, List.getElem_cons_zero, List.getElem_cons_succ, List.setIfInBounds_toArray, List.set_cons_zero, List.set_cons_succ])
        refine wpAnyH_ready (rs := [7, 9]) (by kernel_rfl) (by simp) ?_
        refine AllReadyH.cons rfl (fun K hK => ?_) ?_
        · go_simp
          refine (M2.out _).mono ?_
          rintro e u ⟨rfl, hb⟩
          (try go_wp2_with fail)
          have Bk2 := Bk.trans (hb.mono Bk.size)
          have hR2 := hR.kept hb
          refine hK.out _ _ (MK.out _ Bk2) (fun hHeld2 => ?_)
          clear hK K hHeld hb Bk hR
          have hR := hR2
          have Bk := Bk2
          have hHeld := hHeld2
          clear hHeld2 Bk2 hR2
          (try simp only [Act.put, List.getElem_toArray, List.getElem_cons_zero, List.getElem_cons_succ, List.setIfInBounds_toArray, List.set_cons_zero, List.set_cons_succ])
          refine wpAnyH_ready (rs := [9]) (by kernel_rfl) (by simp) ?_
          refine AllReadyH.cons rfl (fun K hK => ?_) AllReadyH.nil
          · go_simp
            have hT := Row2.new u
            have hge : wv.heap.size ≤ u.heap.size := Bk.size
            have Bk2 := Bk.alloc Bk.size (.cells #[.int .u64 0, .int .u64 0] 25)
            have hne := hR.lt
            have hR2 := hR.alloc (.cells #[.int .u64 0, .int .u64 0] 25)
            refine hK.out _ _ (MK.out _ Bk2) (fun hHeld2 => ?_)
            clear hK K hHeld Bk hR
            have hR := hR2
            clear hR2
            have Bk := Bk2
            have hHeld := hHeld2
            clear hHeld2 Bk2
            (try simp only [Act.put, List.getElem_toArray, List.getElem_cons_zero, List.getElem_cons_succ, List.setIfInBounds_toArray, List.set_cons_zero, List.set_cons_succ])
            generalize u.heap.size = T at *
            generalize u.alloc (.cells #[.int .u64 0, .int .u64 0] 25) = u at *
            refine wpAnyH_ready (rs := [10]) (by kernel_rfl) (by simp) ?_
            refine AllReadyH.cons rfl (fun K hK => ?_) AllReadyH.nil
            · obtain ⟨k2, k3, f2, f3, hr2⟩ := set2u hR (.int .u64 (p1 : Int)) (.int .u64 (p2 : Int))
              go_simp
              have hR2 : Row2 _ R p1 p2 := hr2
              have hT2 := (hT.other (show T ≠ R by omega) 0 (.int .u64 (p1 : Int))).other (show T ≠ R by omega) 1 (.int .u64 (p2 : Int))
              have Bk2 := (Bk.setCell (p := ⟨R, 0, none⟩) (show wv.heap.size ≤ R by omega) (.int .u64 (p1 : Int))).setCell (p := ⟨R, 1, none⟩) (show wv.heap.size ≤ R by omega) (.int .u64 (p2 : Int))
              refine hK.out _ _ (MK.out _ Bk2) (fun hHeld2 => ?_)
              clear hK K hHeld k2 k3 f2 f3 hr2 Bk hR hT
              have hR := hR2
              have hT := hT2
              have Bk := Bk2
              have hHeld := hHeld2
              clear hHeld2 Bk2 hR2 hT2
              (try simp only [Act.put])
              generalize (u.setCell ⟨R, 0, none⟩ (.int .u64 (p1 : Int))).setCell ⟨R, 1, none⟩ (.int .u64 (p2 : Int)) = u at *
              refine wpAnyH_ready (rs := [11]) (by kernel_rfl) (by simp) ?_
              refine AllReadyH.cons rfl (fun K hK => ?_) AllReadyH.nil
              · obtain ⟨k2, k3, f2, f3, hr2⟩ := set2u hT (.int .u64 (0 : Int)) (.int .u64 (H : Int))
                go_simp
                have hT2 : Row2 _ T 0 H := hr2
                have hR2 := (hR.other (show R ≠ T by omega) 0 (.int .u64 (0 : Int))).other (show R ≠ T by omega) 1 (.int .u64 (H : Int))
                have Bk2 := (Bk.setCell (p := ⟨T, 0, none⟩) (show wv.heap.size ≤ T by omega) (.int .u64 (0 : Int))).setCell (p := ⟨T, 1, none⟩) (show wv.heap.size ≤ T by omega) (.int .u64 (H : Int))
                refine hK.out _ _ (MK.out _ Bk2) (fun hHeld2 => ?_)
                clear hK K hHeld k2 k3 f2 f3 hr2 Bk hR hT
                have hR := hR2
                have hT := hT2
                have Bk := Bk2
                have hHeld := hHeld2
                clear hHeld2 Bk2 hR2 hT2
                (try simp only [Act.put])
                generalize (u.setCell ⟨T, 0, none⟩ (.int .u64 (0 : Int))).setCell ⟨T, 1, none⟩ (.int .u64 (H : Int)) = u at *
                refine wpAnyH_done (by kernel_rfl) ?_ _
                go_wp2_with fail
                go_meet
                exact ⟨R, T, rfl, rfl, hR, hT, Bk⟩
        refine AllReadyH.cons rfl (fun K hK => ?_) AllReadyH.nil
        · go_simp
          have hT := Row2.new u
          have hge : wv.heap.size ≤ u.heap.size := Bk.size
          have Bk2 := Bk.alloc Bk.size (.cells #[.int .u64 0, .int .u64 0] 25)
          have hne := hR.lt
          have hR2 := hR.alloc (.cells #[.int .u64 0, .int .u64 0] 25)
          refine hK.out _ _ (MK.out _ Bk2) (fun hHeld2 => ?_)
          clear hK K hHeld Bk hR
          have hR := hR2
          clear hR2
          have Bk := Bk2
          have hHeld := hHeld2
          clear hHeld2 Bk2
          (try simp only [Act.put, List.getElem_toArray, List.getElem_cons_zero, List.getElem_cons_succ, List.setIfInBounds_toArray, List.set_cons_zero, List.set_cons_succ])
          generalize u.heap.size = T at *
          generalize u.alloc (.cells #[.int .u64 0, .int .u64 0] 25) = u at *
          refine wpAnyH_ready (rs := [7]) (by kernel_rfl) (by simp) ?_
          refine AllReadyH.cons rfl (fun K hK => ?_) AllReadyH.nil
          · go_simp
            refine (M2.out _).mono ?_
            rintro e u ⟨rfl, hb⟩
            (try go_wp2_with fail)
            have Bk2 := Bk.trans (hb.mono Bk.size)
            have hR2 := hR.kept hb
            have hT2 := hT.kept hb
            refine hK.out _ _ (MK.out _ Bk2) (fun hHeld2 => ?_)
            clear hK K hHeld hb Bk hR hT
            have hR := hR2
            have hT := hT2
            have Bk := Bk2
            have hHeld := hHeld2
            clear hHeld2 Bk2 hR2 hT2
            (try simp only [Act.put, List.getElem_toArray, List.getElem_cons_zero, List.getElem_cons_succ, List.setIfInBounds_toArray, List.set_cons_zero, List.set_cons_succ])
            refine wpAnyH_ready (rs := [10]) (by kernel_rfl) (by simp) ?_
            refine AllReadyH.cons rfl (fun K hK => ?_) AllReadyH.nil
            · obtain ⟨k2, k3, f2, f3, hr2⟩ := set2u hR (.int .u64 (p1 : Int)) (.int .u64 (p2 : Int))
              go_simp
              have hR2 : Row2 _ R p1 p2 := hr2
              have hT2 := (hT.other (show T ≠ R by omega) 0 (.int .u64 (p1 : Int))).other (show T ≠ R by omega) 1 (.int .u64 (p2 : Int))
              have Bk2 := (Bk.setCell (p := ⟨R, 0, none⟩) (show wv.heap.size ≤ R by omega) (.int .u64 (p1 : Int))).setCell (p := ⟨R, 1, none⟩) (show wv.heap.size ≤ R by omega) (.int .u64 (p2 : Int))
              refine hK.out _ _ (MK.out _ Bk2) (fun hHeld2 => ?_)
              clear hK K hHeld k2 k3 f2 f3 hr2 Bk hR hT
              have hR := hR2
              have hT := hT2
              have Bk := Bk2
              have hHeld := hHeld2
              clear hHeld2 Bk2 hR2 hT2
              (try simp only [Act.put])
              generalize (u.setCell ⟨R, 0, none⟩ (.int .u64 (p1 : Int))).setCell ⟨R, 1, none⟩ (.int .u64 (p2 : Int)) = u at *
              refine wpAnyH_ready (rs := [11]) (by kernel_rfl) (by simp) ?_
              refine AllReadyH.cons rfl (fun K hK => ?_) AllReadyH.nil
              · obtain ⟨k2, k3, f2, f3, hr2⟩ := set2u hT (.int .u64 (0 : Int)) (.int .u64 (H : Int))
                go_simp
                have hT2 : Row2 _ T 0 H := hr2
                have hR2 := (hR.other (show R ≠ T by omega) 0 (.int .u64 (0 : Int))).other (show R ≠ T by omega) 1 (.int .u64 (H : Int))
                have Bk2 := (Bk.setCell (p := ⟨T, 0, none⟩) (show wv.heap.size ≤ T by omega) (.int .u64 (0 : Int))).setCell (p := ⟨T, 1, none⟩) (show wv.heap.size ≤ T by omega) (.int .u64 (H : Int))
                refine hK.out _ _ (MK.out _ Bk2) (fun hHeld2 => ?_)
                clear hK K hHeld k2 k3 f2 f3 hr2 Bk hR hT
                have hR := hR2
                have hT := hT2
                have Bk := Bk2
                have hHeld := hHeld2
                clear hHeld2 Bk2 hR2 hT2
                (try simp only [Act.put])
                generalize (u.setCell ⟨T, 0, none⟩ (.int .u64 (0 : Int))).setCell ⟨T, 1, none⟩ (.int .u64 (H : Int)) = u at *
                refine wpAnyH_done (by kernel_rfl) ?_ _
                go_wp2_with fail
                go_meet
                exact ⟨R, T, rfl, rfl, hR, hT, Bk⟩
      refine AllReadyH.cons rfl (fun K hK => ?_) AllReadyH.nil
      · go_simp
        have hT := Row2.new u
        have hge : wv.heap.size ≤ u.heap.size := Bk.size
        have Bk2 := Bk.alloc Bk.size (.cells #[.int .u64 0, .int .u64 0] 25)
        have hne := hR.lt
        have hR2 := hR.alloc (.cells #[.int .u64 0, .int .u64 0] 25)
        refine hK.out _ _ (MK.out _ Bk2) (fun hHeld2 => ?_)
        clear hK K hHeld Bk hR
        have hR := hR2
        clear hR2
        have Bk := Bk2
        have hHeld := hHeld2
        clear hHeld2 Bk2
        (try simp only [Act.put, List.getElem_toArray, List.getElem_cons_zero, List.getElem_cons_succ, List.setIfInBounds_toArray, List.set_cons_zero, List.set_cons_succ])
        generalize u.heap.size = T at *
        generalize u.alloc (.cells #[.int .u64 0, .int .u64 0] 25) = u at *
        refine wpAnyH_ready (rs := [3]) (by kernel_rfl) (by simp) ?_
        refine AllReadyH.cons rfl (fun K hK => ?_) AllReadyH.nil
        · go_simp
          refine (M1.out _).mono ?_
          rintro e u ⟨rfl, hb⟩
          (try go_wp2_with fail)
          have Bk2 := Bk.trans (hb.mono Bk.size)
          have hR2 := hR.kept hb
          have hT2 := hT.kept hb
          refine hK.out _ _ (MK.out _ Bk2) (fun hHeld2 => ?_)
          clear hK K hHeld hb Bk hR hT
          have hR := hR2
          have hT := hT2
          have Bk := Bk2
          have hHeld := hHeld2
          clear hHeld2 Bk2 hR2 hT2
          (try simp only [Act.put, List.getElem_toArray, List.getElem_cons_zero, List.getElem_cons_succ, List.setIfInBounds_toArray, List.set_cons_zero, List.set_cons_succ])
          refine wpAnyH_ready (rs := [7]) (by kernel_rfl) (by simp) ?_
          refine AllReadyH.cons rfl (fun K hK => ?_) AllReadyH.nil
          · go_simp
            refine (M2.out _).mono ?_
            rintro e u ⟨rfl, hb⟩
            (try go_wp2_with fail)
            have Bk2 := Bk.trans (hb.mono Bk.size)
            have hR2 := hR.kept hb
            have hT2 := hT.kept hb
            refine hK.out _ _ (MK.out _ Bk2) (fun hHeld2 => ?_)
            clear hK K hHeld hb Bk hR hT
            have hR := hR2
            have hT := hT2
            have Bk := Bk2
            have hHeld := hHeld2
            clear hHeld2 Bk2 hR2 hT2
            (try simp only [Act.put, List.getElem_toArray, List.getElem_cons_zero, List.getElem_cons_succ, List.setIfInBounds_toArray, List.set_cons_zero, List.set_cons_succ])
            refine wpAnyH_ready (rs := [10]) (by kernel_rfl) (by simp) ?_
            refine AllReadyH.cons rfl (fun K hK => ?_) AllReadyH.nil
            · obtain ⟨k2, k3, f2, f3, hr2⟩ := set2u hR (.int .u64 (p1 : Int)) (.int .u64 (p2 : Int))
              go_simp
              have hR2 : Row2 _ R p1 p2 := hr2
              have hT2 := (hT.other (show T ≠ R by omega) 0 (.int .u64 (p1 : Int))).other (show T ≠ R by omega) 1 (.int .u64 (p2 : Int))
              have Bk2 := (Bk.setCell (p := ⟨R, 0, none⟩) (show wv.heap.size ≤ R by omega) (.int .u64 (p1 : Int))).setCell (p := ⟨R, 1, none⟩) (show wv.heap.size ≤ R by omega) (.int .u64 (p2 : Int))
              refine hK.out _ _ (MK.out _ Bk2) (fun hHeld2 => ?_)
              clear hK K hHeld k2 k3 f2 f3 hr2 Bk hR hT
              have hR := hR2
              have hT := hT2
              have Bk := Bk2
              have hHeld := hHeld2
              clear hHeld2 Bk2 hR2 hT2
              (try simp only [Act.put])
              generalize (u.setCell ⟨R, 0, none⟩ (.int .u64 (p1 : Int))).setCell ⟨R, 1, none⟩ (.int .u64 (p2 : Int)) = u at *
              refine wpAnyH_ready (rs := [11]) (by kernel_rfl) (by simp) ?_
              refine AllReadyH.cons rfl (fun K hK => ?_) AllReadyH.nil
              · obtain ⟨k2, k3, f2, f3, hr2⟩ := set2u hT (.int .u64 (0 : Int)) (.int .u64 (H : Int))
                go_simp
                have hT2 : Row2 _ T 0 H := hr2
                have hR2 := (hR.other (show R ≠ T by omega) 0 (.int .u64 (0 : Int))).other (show R ≠ T by omega) 1 (.int .u64 (H : Int))
                have Bk2 := (Bk.setCell (p := ⟨T, 0, none⟩) (show wv.heap.size ≤ T by omega) (.int .u64 (0 : Int))).setCell (p := ⟨T, 1, none⟩) (show wv.heap.size ≤ T by omega) (.int .u64 (H : Int))
                refine hK.out _ _ (MK.out _ Bk2) (fun hHeld2 => ?_)
                clear hK K hHeld k2 k3 f2 f3 hr2 Bk hR hT
                have hR := hR2
                have hT := hT2
                have Bk := Bk2
                have hHeld := hHeld2
                clear hHeld2 Bk2 hR2 hT2
                (try simp only [Act.put])
                generalize (u.setCell ⟨T, 0, none⟩ (.int .u64 (0 : Int))).setCell ⟨T, 1, none⟩ (.int .u64 (H : Int)) = u at *
                refine wpAnyH_done (by kernel_rfl) ?_ _
                go_wp2_with fail
                go_meet
                exact ⟨R, T, rfl, rfl, hR, hT, Bk⟩
    refine AllReadyH.cons rfl (fun K hK => ?_) AllReadyH.nil
    · go_simp
      have hT := Row2.new u
      have hge : wv.heap.size ≤ u.heap.size := Bk.size
      have Bk2 := Bk.alloc Bk.size (.cells #[.int .u64 0, .int .u64 0] 25)
      refine hK.out _ _ (MK.out _ Bk2) (fun hHeld2 => ?_)
      clear hK K hHeld Bk
      have Bk := Bk2
      have hHeld := hHeld2
      clear hHeld2 Bk2
      (try simp only [Act.put, List.getElem_toArray, List.getElem_cons_zero, List.getElem_cons_succ, List.setIfInBounds_toArray, List.set_cons_zero, List.set_cons_succ])
      generalize u.heap.size = T at *
      generalize u.alloc (.cells #[.int .u64 0, .int .u64 0] 25) = u at *
      refine wpAnyH_ready (rs := [3, 8]) (by kernel_rfl) (by simp) ?_
      refine AllReadyH.cons rfl (fun K hK => ?_) ?_
      · go_simp
        refine (M1.out _).mono ?_
        rintro e u ⟨rfl, hb⟩
        (try go_wp2_with fail)
        have Bk2 := Bk.trans (hb.mono Bk.size)
        have hT2 := hT.kept hb
        refine hK.out _ _ (MK.out _ Bk2) (fun hHeld2 => ?_)
        clear hK K hHeld hb Bk hT
        have hT := hT2
        have Bk := Bk2
        have hHeld := hHeld2
        clear hHeld2 Bk2 hT2
        (try simp only [Act.put, List.getElem_toArray, List.getElem_cons_zero, List.getElem_cons_succ, List.setIfInBounds_toArray, List.set_cons_zero, List.set_cons_succ])
        refine wpAnyH_ready (rs := [7, 8]) (by kernel_rfl) (by simp) ?_
        refine AllReadyH.cons rfl (fun K hK => ?_) ?_
        · go_simp
          refine (M2.out _).mono ?_
          rintro e u ⟨rfl, hb⟩
          (try go_wp2_with fail)
          have Bk2 := Bk.trans (hb.mono Bk.size)
          have hT2 := hT.kept hb
          refine hK.out _ _ (MK.out _ Bk2) (fun hHeld2 => ?_)
          clear hK K hHeld hb Bk hT
          have hT := hT2
          have Bk := Bk2
          have hHeld := hHeld2
          clear hHeld2 Bk2 hT2
          (try simp only [Act.put, List.getElem_toArray, List.getElem_cons_zero, List.getElem_cons_succ, List.setIfInBounds_toArray, List.set_cons_zero, List.set_cons_succ])
          refine wpAnyH_ready (rs := [8]) (by kernel_rfl) (by simp) ?_
          refine AllReadyH.cons rfl (fun K hK => ?_) AllReadyH.nil
          · go_simp
            have hR := Row2.new u
            have hge : wv.heap.size ≤ u.heap.size := Bk.size
            have Bk2 := Bk.alloc Bk.size (.cells #[.int .u64 0, .int .u64 0] 25)
            have hne := hT.lt
            have hT2 := hT.alloc (.cells #[.int .u64 0, .int .u64 0] 25)
            refine hK.out _ _ (MK.out _ Bk2) (fun hHeld2 => ?_)
            clear hK K hHeld Bk hT
            have hT := hT2
            clear hT2
            have Bk := Bk2
            have hHeld := hHeld2
            clear hHeld2 Bk2
            (try simp only [Act.put, List.getElem_toArray, List.getElem_cons_zero, List.getElem_cons_succ, List.setIfInBounds_toArray, List.set_cons_zero, List.set_cons_succ])
            generalize u.heap.size = R at *
            generalize u.alloc (.cells #[.int .u64 0, .int .u64 0] 25) = u at *
            refine wpAnyH_ready (rs := [10]) (by kernel_rfl) (by simp) ?_
            refine AllReadyH.cons rfl (fun K hK => ?_) AllReadyH.nil
            · obtain ⟨k2, k3, f2, f3, hr2⟩ := set2u hR (.int .u64 (p1 : Int)) (.int .u64 (p2 : Int))
              go_simp
              have hR2 : Row2 _ R p1 p2 := hr2
              have hT2 := (hT.other (show T ≠ R by omega) 0 (.int .u64 (p1 : Int))).other (show T ≠ R by omega) 1 (.int .u64 (p2 : Int))
              have Bk2 := (Bk.setCell (p := ⟨R, 0, none⟩) (show wv.heap.size ≤ R by omega) (.int .u64 (p1 : Int))).setCell (p := ⟨R, 1, none⟩) (show wv.heap.size ≤ R by omega) (.int .u64 (p2 : Int))
              refine hK.out _ _ (MK.out _ Bk2) (fun hHeld2 => ?_)
              clear hK K hHeld k2 k3 f2 f3 hr2 Bk hR hT
              have hR := hR2
              have hT := hT2
              have Bk := Bk2
              have hHeld := hHeld2
              clear hHeld2 Bk2 hR2 hT2
              (try simp only [Act.put])
              generalize (u.setCell ⟨R, 0, none⟩ (.int .u64 (p1 : Int))).setCell ⟨R, 1, none⟩ (.int .u64 (p2 : Int)) = u at *
              refine wpAnyH_ready (rs := [11]) (by kernel_rfl) (by simp) ?_
              refine AllReadyH.cons rfl (fun K hK => ?_) AllReadyH.nil
              · obtain ⟨k2, k3, f2, f3, hr2⟩ := set2u hT (.int .u64 (0 : Int)) (.int .u64 (H : Int))
                go_simp
                have hT2 : Row2 _ T 0 H := hr2
                have hR2 := (hR.other (show R ≠ T by omega) 0 (.int .u64 (0 : Int))).other (show R ≠ T by omega) 1 (.int .u64 (H : Int))
                have Bk2 := (Bk.setCell (p := ⟨T, 0, none⟩) (show wv.heap.size ≤ T by omega) (.int .u64 (0 : Int))).setCell (p := ⟨T, 1, none⟩) (show wv.heap.size ≤ T by omega) (.int .u64 (H : Int))
                refine hK.out _ _ (MK.out _ Bk2) (fun hHeld2 => ?_)
                clear hK K hHeld k2 k3 f2 f3 hr2 Bk hR hT
                have hR := hR2
                have hT := hT2
                have Bk := Bk2
                have hHeld := hHeld2
                clear hHeld2 Bk2 hR2 hT2
                (try simp only [Act.put])
                generalize (u.setCell ⟨T, 0, none⟩ (.int .u64 (0 : Int))).setCell ⟨T, 1, none⟩ (.int .u64 (H : Int)) = u at *
                refine wpAnyH_done (by kernel_rfl) ?_ _
                go_wp2_with fail
                go_meet
                exact ⟨R, T, rfl, rfl, hR, hT, Bk⟩
        refine AllReadyH.cons rfl (fun K hK => ?_) AllReadyH.nil
        · go_simp
          have hR := Row2.new u
          have hge : wv.heap.size ≤ u.heap.size := Bk.size
          have Bk2 := Bk.alloc Bk.size (.cells #[.int .u64 0, .int .u64 0] 25)
          have hne := hT.lt
          have hT2 := hT.alloc (.cells #[.int .u64 0, .int .u64 0] 25)
          refine hK.out _ _ (MK.out _ Bk2) (fun hHeld2 => ?_)
          clear hK K hHeld Bk hT
          have hT := hT2
          clear hT2
          have Bk := Bk2
          have hHeld := hHeld2
          clear hHeld2 Bk2
          (try simp only [Act.put, List.getElem_toArray, List.getElem_cons_zero, List.getElem_cons_succ, List.setIfInBounds_toArray, List.set_cons_zero, List.set_cons_succ])
          generalize u.heap.size = R at *
          generalize u.alloc (.cells #[.int .u64 0, .int .u64 0] 25) = u at *
          refine wpAnyH_ready (rs := [7]) (by kernel_rfl) (by simp) ?_
          refine AllReadyH.cons rfl (fun K hK => ?_) AllReadyH.nil
          · go_simp
            refine (M2.out _).mono ?_
            rintro e u ⟨rfl, hb⟩
            (try go_wp2_with fail)
            have Bk2 := Bk.trans (hb.mono Bk.size)
            have hR2 := hR.kept hb
            have hT2 := hT.kept hb
            refine hK.out _ _ (MK.out _ Bk2) (fun hHeld2 => ?_)
            clear hK K hHeld hb Bk hR hT
            have hR := hR2
            have hT := hT2
            have Bk := Bk2
            have hHeld := hHeld2
            clear hHeld2 Bk2 hR2 hT2
            (try simp only [Act.put, List.getElem_toArray, List.getElem_cons_zero, List.getElem_cons_succ, List.setIfInBounds_toArray, List.set_cons_zero, List.set_cons_succ])
            refine wpAnyH_ready (rs := [10]) (by kernel_rfl) (by simp) ?_
            refine AllReadyH.cons rfl (fun K hK => ?_) AllReadyH.nil
            · obtain ⟨k2, k3, f2, f3, hr2⟩ := set2u hR (.int .u64 (p1 : Int)) (.int .u64 (p2 : Int))
              go_simp
              have hR2 : Row2 _ R p1 p2 := hr2
              have hT2 := (hT.other (show T ≠ R by omega) 0 (.int .u64 (p1 : Int))).other (show T ≠ R by omega) 1 (.int .u64 (p2 : Int))
              have Bk2 := (Bk.setCell (p := ⟨R, 0, none⟩) (show wv.heap.size ≤ R by omega) (.int .u64 (p1 : Int))).setCell (p := ⟨R, 1, none⟩) (show wv.heap.size ≤ R by omega) (.int .u64 (p2 : Int))
              refine hK.out _ _ (MK.out _ Bk2) (fun hHeld2 => ?_)
              clear hK K hHeld k2 k3 f2 f3 hr2 Bk hR hT
              have hR := hR2
              have hT := hT2
              have Bk := Bk2
              have hHeld := hHeld2
              clear hHeld2 Bk2 hR2 hT2
              (try simp only [Act.put])
              generalize (u.setCell ⟨R, 0, none⟩ (.int .u64 (p1 : Int))).setCell ⟨R, 1, none⟩ (.int .u64 (p2 : Int)) = u at *
              refine wpAnyH_ready (rs := [11]) (by kernel_rfl) (by simp) ?_
              refine AllReadyH.cons rfl (fun K hK => ?_) AllReadyH.nil
              · obtain ⟨k2, k3, f2, f3, hr2⟩ := set2u hT (.int .u64 (0 : Int)) (.int .u64 (H : Int))
                go_simp
                have hT2 : Row2 _ T 0 H := hr2
                have hR2 := (hR.other (show R ≠ T by omega) 0 (.int .u64 (0 : Int))).other (show R ≠ T by omega) 1 (.int .u64 (H : Int))
                have Bk2 := (Bk.setCell (p := ⟨T, 0, none⟩) (show wv.heap.size ≤ T by omega) (.int .u64 (0 : Int))).setCell (p := ⟨T, 1, none⟩) (show wv.heap.size ≤ T by omega) (.int .u64 (H : Int))
                refine hK.out _ _ (MK.out _ Bk2) (fun hHeld2 => ?_)
                clear hK K hHeld k2 k3 f2 f3 hr2 Bk hR hT
                have hR := hR2
                have hT := hT2
                have Bk := Bk2
                have hHeld := hHeld2
                clear hHeld2 Bk2 hR2 hT2
                (try simp only [Act.put])
                generalize (u.setCell ⟨T, 0, none⟩ (.int .u64 (0 : Int))).setCell ⟨T, 1, none⟩ (.int .u64 (H : Int)) = u at *
                refine wpAnyH_done (by kernel_rfl) ?_ _
                go_wp2_with fail
                go_meet
                exact ⟨R, T, rfl, rfl, hR, hT, Bk⟩
      refine AllReadyH.cons rfl (fun K hK => ?_) AllReadyH.nil
      · go_simp
        have hR := Row2.new u
        have hge : wv.heap.size ≤ u.heap.size := Bk.size
        have Bk2 := Bk.alloc Bk.size (.cells #[.int .u64 0, .int .u64 0] 25)
        have hne := hT.lt
        have hT2 := hT.alloc (.cells #[.int .u64 0, .int .u64 0] 25)
        refine hK.out _ _ (MK.out _ Bk2) (fun hHeld2 => ?_)
        clear hK K hHeld Bk hT
        have hT := hT2
        clear hT2
        have Bk := Bk2
        have hHeld := hHeld2
        clear hHeld2 Bk2
        (try simp only [Act.put, List.getElem_toArray, List.getElem_cons_zero, List.getElem_cons_succ, List.setIfInBounds_toArray, List.set_cons_zero, List.set_cons_succ])
        generalize u.heap.size = R at *
        generalize u.alloc (.cells #[.int .u64 0, .int .u64 0] 25) = u at *
        refine wpAnyH_ready (rs := [3]) (by kernel_rfl) (by simp) ?_
        refine AllReadyH.cons rfl (fun K hK => ?_) AllReadyH.nil
        · go_simp
          refine (M1.out _).mono ?_
          rintro e u ⟨rfl, hb⟩
          (try go_wp2_with fail)
          have Bk2 := Bk.trans (hb.mono Bk.size)
          have hR2 := hR.kept hb
          have hT2 := hT.kept hb
          refine hK.out _ _ (MK.out _ Bk2) (fun hHeld2 => ?_)
          clear hK K hHeld hb Bk hR hT
          have hR := hR2
          have hT := hT2
          have Bk := Bk2
          have hHeld := hHeld2
          clear hHeld2 Bk2 hR2 hT2
          (try simp only [Act.put, List.getElem_toArray, List.getElem_cons_zero, List.getElem_cons_succ, List.setIfInBounds_toArray, List.set_cons_zero, List.set_cons_succ])
          refine wpAnyH_ready (rs := [7]) (by kernel_rfl) (by simp) ?_
          refine AllReadyH.cons rfl (fun K hK => ?_) AllReadyH.nil
          · go_simp
            refine (M2.out _).mono ?_
            rintro e u ⟨rfl, hb⟩
            (try go_wp2_with fail)
            have Bk2 := Bk.trans (hb.mono Bk.size)
            have hR2 := hR.kept hb
            have hT2 := hT.kept hb
            refine hK.out _ _ (MK.out _ Bk2) (fun hHeld2 => ?_)
            clear hK K hHeld hb Bk hR hT
            have hR := hR2
            have hT := hT2
            have Bk := Bk2
            have hHeld := hHeld2
            clear hHeld2 Bk2 hR2 hT2
            (try simp only [Act.put, List.getElem_toArray, List.getElem_cons_zero, List.getElem_cons_succ, List.setIfInBounds_toArray, List.set_cons_zero, List.set_cons_succ])
            refine wpAnyH_ready (rs := [10]) (by kernel_rfl) (by simp) ?_
            refine AllReadyH.cons rfl (fun K hK => ?_) AllReadyH.nil
            · obtain ⟨k2, k3, f2, f3, hr2⟩ := set2u hR (.int .u64 (p1 : Int)) (.int .u64 (p2 : Int))
              go_simp
              have hR2 : Row2 _ R p1 p2 := hr2
              have hT2 := (hT.other (show T ≠ R by omega) 0 (.int .u64 (p1 : Int))).other (show T ≠ R by omega) 1 (.int .u64 (p2 : Int))
              have Bk2 := (Bk.setCell (p := ⟨R, 0, none⟩) (show wv.heap.size ≤ R by omega) (.int .u64 (p1 : Int))).setCell (p := ⟨R, 1, none⟩) (show wv.heap.size ≤ R by omega) (.int .u64 (p2 : Int))
              refine hK.out _ _ (MK.out _ Bk2) (fun hHeld2 => ?_)
              clear hK K hHeld k2 k3 f2 f3 hr2 Bk hR hT
              have hR := hR2
              have hT := hT2
              have Bk := Bk2
              have hHeld := hHeld2
              clear hHeld2 Bk2 hR2 hT2
              (try simp only [Act.put])
              generalize (u.setCell ⟨R, 0, none⟩ (.int .u64 (p1 : Int))).setCell ⟨R, 1, none⟩ (.int .u64 (p2 : Int)) = u at *
              refine wpAnyH_ready (rs := [11]) (by kernel_rfl) (by simp) ?_
              refine AllReadyH.cons rfl (fun K hK => ?_) AllReadyH.nil
              · obtain ⟨k2, k3, f2, f3, hr2⟩ := set2u hT (.int .u64 (0 : Int)) (.int .u64 (H : Int))
                go_simp
                have hT2 : Row2 _ T 0 H := hr2
                have hR2 := (hR.other (show R ≠ T by omega) 0 (.int .u64 (0 : Int))).other (show R ≠ T by omega) 1 (.int .u64 (H : Int))
                have Bk2 := (Bk.setCell (p := ⟨T, 0, none⟩) (show wv.heap.size ≤ T by omega) (.int .u64 (0 : Int))).setCell (p := ⟨T, 1, none⟩) (show wv.heap.size ≤ T by omega) (.int .u64 (H : Int))
                refine hK.out _ _ (MK.out _ Bk2) (fun hHeld2 => ?_)
                clear hK K hHeld k2 k3 f2 f3 hr2 Bk hR hT
                have hR := hR2
                have hT := hT2
                have Bk := Bk2
                have hHeld := hHeld2
                clear hHeld2 Bk2 hR2 hT2
                (try simp only [Act.put])
                generalize (u.setCell ⟨T, 0, none⟩ (.int .u64 (0 : Int))).setCell ⟨T, 1, none⟩ (.int .u64 (H : Int)) = u at *
                refine wpAnyH_done (by kernel_rfl) ?_ _
                go_wp2_with fail
                go_meet
                exact ⟨R, T, rfl, rfl, hR, hT, Bk⟩
  case rest =>
    obtain ⟨R, T, rfl, rfl, hR, hT, Bz⟩ := hcut
    generalize wc = wz at *
    have x0 := (Bz.cell (p := ⟨W.heap.size + 1, 0, none⟩) lx).trans x0
    have x1 := (Bz.cell (p := ⟨W.heap.size + 1, 1, none⟩) lx).trans x1
    have lx2 := block_lt_of_cell x0
    have lR := hR.lt
    have lT := hT.lt
    obtain ⟨r0, r1⟩ := hR.cells
    obtain ⟨t0, t1⟩ := hT.cells
    have M9 := Lib.hid (fun w' (hb : Below wz.heap.size wz w') => (show w'.cell? ⟨W.heap.size + 1, 0, none⟩ = some (.int .u64 (h : Int)) ∧ w'.cell? ⟨W.heap.size + 1, 1, none⟩ = some (.int .u64 (l : Int)) ∧ w'.cell? ⟨R, 0, none⟩ = some (.int .u64 (p1 : Int)) ∧ w'.cell? ⟨R, 1, none⟩ = some (.int .u64 (p2 : Int)) ∧ w'.cell? ⟨T, 0, none⟩ = some (.int .u64 (0 : Int)) ∧ w'.cell? ⟨T, 1, none⟩ = some (.int .u64 (H : Int)) ∧ Below wz.heap.size wz w' from ⟨(hb.cell (p := ⟨W.heap.size + 1, 0, none⟩) lx2).trans x0, (hb.cell (p := ⟨W.heap.size + 1, 1, none⟩) lx2).trans x1, (hb.cell (p := ⟨R, 0, none⟩) lR).trans r0, (hb.cell (p := ⟨R, 1, none⟩) lR).trans r1, (hb.cell (p := ⟨T, 0, none⟩) lT).trans t0, (hb.cell (p := ⟨T, 1, none⟩) lT).trans t1, hb⟩))
    have K9 := Lib.hid (fun w1 w' (hS : w1.cell? ⟨W.heap.size + 1, 0, none⟩ = some (.int .u64 (h : Int)) ∧ w1.cell? ⟨W.heap.size + 1, 1, none⟩ = some (.int .u64 (l : Int)) ∧ w1.cell? ⟨R, 0, none⟩ = some (.int .u64 (p1 : Int)) ∧ w1.cell? ⟨R, 1, none⟩ = some (.int .u64 (p2 : Int)) ∧ w1.cell? ⟨T, 0, none⟩ = some (.int .u64 (0 : Int)) ∧ w1.cell? ⟨T, 1, none⟩ = some (.int .u64 (H : Int)) ∧ Below wz.heap.size wz w1) (hb : Below w1.heap.size w1 w') => M9.out w' (hS.2.2.2.2.2.2.trans (hb.mono hS.2.2.2.2.2.2.size)))
    have hB := Lib.hid (hB.out.trans (Bz.mono hB.out.size))
    clear MK x0 x1 r0 r1 t0 t1 lx lx2 lP lR lT hR hT Bz
    go_wp2_with fail
    go_region_held3 (fun w' => w'.cell? ⟨W.heap.size + 1, 0, none⟩ = some (.int .u64 (h : Int)) ∧ w'.cell? ⟨W.heap.size + 1, 1, none⟩ = some (.int .u64 (l : Int)) ∧ w'.cell? ⟨R, 0, none⟩ = some (.int .u64 (p1 : Int)) ∧ w'.cell? ⟨R, 1, none⟩ = some (.int .u64 (p2 : Int)) ∧ w'.cell? ⟨T, 0, none⟩ = some (.int .u64 (0 : Int)) ∧ w'.cell? ⟨T, 1, none⟩ = some (.int .u64 (H : Int)) ∧ Below wz.heap.size wz w') (first | exact M9.out _ ((Below.refl _ _).drew) | assumption | (refine K9.out _ _ ?_ hb; first | assumption | exact M9.out _ ((Below.refl _ _).drew))) ((first | (go_at_call 20; (with_reducible refine (LF.out _).mono ?_); rintro e w' ⟨rfl, hb⟩) | (go_at_call 7; (first | with_reducible refine (A1.out _).mono ?_ | with_reducible refine (A2.out _).mono ?_); rintro e w' ⟨rfl, hb⟩) | (go_at_call 15; (with_reducible refine (OF.out _).mono ?_); rintro e w' ⟨rfl, hb⟩) | (go_at_call 16; (with_reducible refine (LV.out _).mono ?_); rintro e w' ⟨rfl, hb⟩)))
    rename_i hSS
    have hBC := hSS.2.2.2.2.2.2
    clear hSS
    go_wp2_with fail
    go_ret
    exact ⟨rfl, hB.out.trans (hBC.mono hB.out.size)⟩
theorem walk (W : World) (a0_0 : Int) (w0_0 : 0 ≤ a0_0 ∧ a0_0 ≤ 18446744073709551615) (a0_1 : Int) (w0_1 : 0 ≤ a0_1 ∧ a0_1 ≤ 18446744073709551615) (a1 : Int) (w1 : 0 ≤ a1 ∧ a1 ≤ 18446744073709551615) :
    Calls Try.prog 4 #[.agg #[.int .u64 a0_0, .int .u64 a0_1], .int .u64 a1] W fun e W' => e = .returned (.bool true) ∧ Below W.heap.size W W' := by
  obtain ⟨h, rfl⟩ := Int.eq_ofNat_of_zero_le w0_0.1
  obtain ⟨l, rfl⟩ := Int.eq_ofNat_of_zero_le w0_1.1
  obtain ⟨b, rfl⟩ := Int.eq_ofNat_of_zero_le w1.1
  by_cases hb : b = 0
  · subst hb; exact nought h l W
  · exact main h l b W (by omega) (by omega) (by omega) (by omega)
end wideDivs
end Go.Proofs.Ytlmaacbjbmhogaa
