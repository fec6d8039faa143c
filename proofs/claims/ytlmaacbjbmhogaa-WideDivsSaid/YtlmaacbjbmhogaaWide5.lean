/- Numbers in digits that lie in blocks; dulcimerref01.Mul. -/
import Derived.Test.YtlmaacbjbmhogaaWide4
import Derived.Laws.CopyOwn
namespace Go.Proofs.Ytlmaacbjbmhogaa
open Go.ChangeShapes Go.WideShapes Go.ChangeAt Go.RowKit
set_option linter.unusedVariables false
def Box (w : World) (g n : Nat) : Prop := w.heap[g]? = some (.cells (D n) 27 (0, 0))
theorem Box.lt {w : World} {g n : Nat} (h : Box w g n) : g < w.heap.size := (Array.getElem?_eq_some_iff.1 h).1
theorem Box.below {w w' : World} {B g n : Nat} (h : Box w g n) (hb : Below B w w') (hg : g < B) : Box w' g n := by unfold Box; rw [hb.block g hg]; exact h
theorem Box.kept {w w' : World} {g n : Nat} (h : Box w g n) (hb : Below w.heap.size w w') : Box w' g n := h.below hb h.lt
theorem Box.set {w : World} {g n : Nat} (h : Box w g n) (m : Nat) : Box (w.setRow g (D m)) g m := setRow_heap _ _ _ _ _ _ h
theorem Box.other {w : World} {g g' n : Nat} (h : Box w g n) (hne : g ≠ g') (cs : Array Value) : Box (w.setRow g' cs) g n := by unfold Box; rw [setRow_other _ _ _ _ hne]; exact h
theorem Box.st {w : World} {g n : Nat} (h : Box w g n) (m : Nat) : (storeCells ⟨g, 0, none⟩ (D m).toList).run Try.prog w = .ok () (w.setRow g (D m)) := by
  rw [run_storeCells_from g 27 (D m).toList 0 (D n) w h rfl (one8 m)]
  simp
theorem D_zero : D 0 = #[.int .i64 0, .int .i64 0, .int .i64 0, .int .i64 0, .int .i64 0, .int .i64 0, .int .i64 0, .int .i64 0] := by
  unfold D dl dg
  simp
theorem Box.new (w : World) : Box (w.alloc (.cells #[.int .i64 0, .int .i64 0, .int .i64 0, .int .i64 0, .int .i64 0, .int .i64 0, .int .i64 0, .int .i64 0] 27)) w.heap.size 0 := by
  unfold Box; rw [heap_alloc_new, D_zero]
theorem Box.alloc {w : World} {g n : Nat} (h : Box w g n) (o : Obj) : Box (w.alloc o) g n := h.kept ((Below.refl _ _).alloc (Nat.le_refl _) o)
theorem D_mod (n : Nat) : D (n % 65536 ^ 8) = D n := by unfold D; rw [dl_mod]
theorem mul_round (a b i : Nat) : a / 2 ^ (i + 1) * b + a / 2 ^ (i + 1) * b + (a / 2 ^ i % 2) * b = a / 2 ^ i * b := by
  have e : a / 2 ^ i = a / 2 ^ (i + 1) + a / 2 ^ (i + 1) + a / 2 ^ i % 2 := by
    rw [Nat.pow_succ, ← Nat.div_div_eq_div_mul]; omega
  conv => rhs; rw [e]
  rw [Nat.add_mul, Nat.add_mul]
set_option maxRecDepth 100000 in
set_option maxHeartbeats 4000000 in
theorem r1_mul (a b : Nat) (w : World) (ha : a < 18446744073709551616) (hb : b < 18446744073709551616) :
    Calls Try.prog 14 #[.int .u64 a, .int .u64 b] w fun e w' => e = .returned (.agg (D (a * b))) ∧ Below w.heap.size w w' := by
  have ea : (0 * 18446744073709551616 + (a : Int)).toNat = a := by omega
  have eb : (0 * 18446744073709551616 + (b : Int)).toNat = b := by omega
  have cA : ∀ w, Calls Try.prog 19 #[.int .u64 0, .int .u64 a] w fun e w' => e = .returned (.agg (D a)) ∧ Below w.heap.size w w' := fun w => by
    have := r1_of 0 a w (by omega) (by omega) (by omega) (by omega); rwa [ea] at this
  have cB : ∀ w, Calls Try.prog 19 #[.int .u64 0, .int .u64 b] w fun e w' => e = .returned (.agg (D b)) ∧ Below w.heap.size w w' := fun w => by
    have := r1_of 0 b w (by omega) (by omega) (by omega) (by omega); rwa [eb] at this
  have CA := Lib.hid cA
  have CB := Lib.hid cB
  have B0 := Lib.hid (Box.new w)
  have hB0 := (Below.refl w.heap.size w).alloc (Nat.le_refl _) (.cells #[.int .i64 0, .int .i64 0, .int .i64 0, .int .i64 0, .int .i64 0, .int .i64 0, .int .i64 0, .int .i64 0] 27)
  clear cA cB ea eb
  go_enter Try.func14, Try.ntmps14
  go_wp2_with fail
  generalize w.alloc (.cells #[.int .i64 0, .int .i64 0, .int .i64 0, .int .i64 0, .int .i64 0, .int .i64 0, .int .i64 0, .int .i64 0] 27) = w0 at *
  refine (CA.out _).mono ?_
  rintro e w1 ⟨rfl, b1⟩
  have B0 := Lib.hid (B0.out.kept b1)
  have hB0 := hB0.trans (b1.mono hB0.size)
  clear b1
  go_wp2_with fail
  refine (CB.out _).mono ?_
  rintro e w2 ⟨rfl, b1⟩
  have B0 := Lib.hid (B0.out.kept b1)
  have hB0 := hB0.trans (b1.mono hB0.size)
  clear b1
  have HBL := Lib.hid B0.out.lt
  have X0 := Box.new w2
  have Y0 := Box.new (w2.alloc (.cells #[.int .i64 0, .int .i64 0, .int .i64 0, .int .i64 0, .int .i64 0, .int .i64 0, .int .i64 0, .int .i64 0] 27))
  have X1 := X0.alloc (.cells #[.int .i64 0, .int .i64 0, .int .i64 0, .int .i64 0, .int .i64 0, .int .i64 0, .int .i64 0, .int .i64 0] 27)
  have s5 := X1.st a
  have hsz : (w2.alloc (.cells #[.int .i64 0, .int .i64 0, .int .i64 0, .int .i64 0, .int .i64 0, .int .i64 0, .int .i64 0, .int .i64 0] 27)).heap.size = w2.heap.size + 1 := by simp
  rw [hsz] at Y0
  have s6 := (Y0.other (show w2.heap.size + 1 ≠ w2.heap.size by omega) (D a)).st b
  have HX := Lib.hid (((X1.set a).other (show w2.heap.size ≠ w2.heap.size + 1 by omega) (D b)))
  have HY := Lib.hid ((Y0.other (show w2.heap.size + 1 ≠ w2.heap.size by omega) (D a)).set b)
  have B0 := Lib.hid ((((B0.out.alloc (.cells #[.int .i64 0, .int .i64 0, .int .i64 0, .int .i64 0, .int .i64 0, .int .i64 0, .int .i64 0, .int .i64 0] 27)).alloc (.cells #[.int .i64 0, .int .i64 0, .int .i64 0, .int .i64 0, .int .i64 0, .int .i64 0, .int .i64 0, .int .i64 0] 27)).other (show w.heap.size ≠ w2.heap.size by have := B0.out.lt; omega) (D a)).other (show w.heap.size ≠ w2.heap.size + 1 by have := B0.out.lt; omega) (D b))
  have hX2 : w.heap.size < w2.heap.size := HBL.out
  clear X0 Y0 X1 hsz
  go_wp2_with fail
  obtain ⟨X, hX⟩ : ∃ X, w2.heap.size = X := ⟨_, rfl⟩
  have HZ := Lib.hid (Box.new (((w2.alloc (.cells #[.int .i64 0, .int .i64 0, .int .i64 0, .int .i64 0, .int .i64 0, .int .i64 0, .int .i64 0, .int .i64 0] 27)).alloc (.cells #[.int .i64 0, .int .i64 0, .int .i64 0, .int .i64 0, .int .i64 0, .int .i64 0, .int .i64 0, .int .i64 0] 27)).setRow w2.heap.size (D a) |>.setRow (w2.heap.size + 1) (D b)))
  have HX := Lib.hid (HX.out.alloc (.cells #[.int .i64 0, .int .i64 0, .int .i64 0, .int .i64 0, .int .i64 0, .int .i64 0, .int .i64 0, .int .i64 0] 27))
  have HY := Lib.hid (HY.out.alloc (.cells #[.int .i64 0, .int .i64 0, .int .i64 0, .int .i64 0, .int .i64 0, .int .i64 0, .int .i64 0, .int .i64 0] 27))
  have B0 := Lib.hid (B0.out.alloc (.cells #[.int .i64 0, .int .i64 0, .int .i64 0, .int .i64 0, .int .i64 0, .int .i64 0, .int .i64 0, .int .i64 0] 27))
  have hBW := (below_setRow (below_setRow ((hB0.alloc hB0.size (.cells #[.int .i64 0, .int .i64 0, .int .i64 0, .int .i64 0, .int .i64 0, .int .i64 0, .int .i64 0, .int .i64 0] 27)).alloc (by simp; omega) (.cells #[.int .i64 0, .int .i64 0, .int .i64 0, .int .i64 0, .int .i64 0, .int .i64 0, .int .i64 0, .int .i64 0] 27)) (show w.heap.size ≤ w2.heap.size by omega) (D a)) (show w.heap.size ≤ w2.heap.size + 1 by omega) (D b)).alloc (by simp; omega) (.cells #[.int .i64 0, .int .i64 0, .int .i64 0, .int .i64 0, .int .i64 0, .int .i64 0, .int .i64 0, .int .i64 0] 27)
  have hsz2 : ((((w2.alloc (.cells #[.int .i64 0, .int .i64 0, .int .i64 0, .int .i64 0, .int .i64 0, .int .i64 0, .int .i64 0, .int .i64 0] 27)).alloc (.cells #[.int .i64 0, .int .i64 0, .int .i64 0, .int .i64 0, .int .i64 0, .int .i64 0, .int .i64 0, .int .i64 0] 27)).setRow w2.heap.size (D a)).setRow (w2.heap.size + 1) (D b)).heap.size = w2.heap.size + 1 + 1 := by simp
  rw [hsz2] at HZ
  rw [hX] at HX HY HZ B0 hBW hX2 ⊢
  clear s5 s6 hsz2 hB0
  generalize ((((w2.alloc (.cells #[.int .i64 0, .int .i64 0, .int .i64 0, .int .i64 0, .int .i64 0, .int .i64 0, .int .i64 0, .int .i64 0] 27)).alloc (.cells #[.int .i64 0, .int .i64 0, .int .i64 0, .int .i64 0, .int .i64 0, .int .i64 0, .int .i64 0, .int .i64 0] 27)).setRow X (D a)).setRow (X + 1) (D b)).alloc (.cells #[.int .i64 0, .int .i64 0, .int .i64 0, .int .i64 0, .int .i64 0, .int .i64 0, .int .i64 0, .int .i64 0] 27) = w7 at *
  have MR := Lib.hid (mul_round a b)
  have M0 := Lib.hid (show a / 2 ^ 64 * b = 0 by rw [Nat.div_eq_of_lt (by omega), Nat.zero_mul])
  have ME := Lib.hid (show a / 2 ^ 0 * b = a * b by rw [Nat.pow_zero, Nat.div_one])
  go_loopw [8] (fun x wr => ∃ j d : Nat, j ≤ 64 ∧ x = .int .i64 ((j : Int) - 1) ∧ Hid (a / 2 ^ j * b = d) ∧ Hid (Box wr X a) ∧ Hid (Box wr (X + 1) b) ∧ Hid (Box wr (X + 1 + 1) d) ∧ Hid (Box wr w.heap.size 0) ∧ Below w.heap.size w wr) (fun x _ => (intOf x + 1).toNat)
  case atStart => exact ⟨64, 0, Nat.le_refl _, rfl, M0, HX, HY, HZ, B0, hBW⟩
  case round =>
    clear HX HY HZ B0 hBW M0
    obtain ⟨j, d, hj, rfl, HD, HX, HY, HZ, B0, hBW⟩ := hrel
    cases j with
    | zero =>
      have E : d = a * b := by rw [← HD.out]; exact ME.out
      subst E
      have hst := B0.out.st (a * b)
      have HF := Lib.hid (B0.out.set (a * b))
      go_wp2_with (refine wpList_load_row rfl 27 _ rfl (X + 1 + 1) rfl 27 (D (a * b)) (0, 0) _ HZ.out Try.underlying27 rfl (by kernel_rfl) ?_)
      refine bodyPost_ret (results_cell_row (p := 4) (ty := 27) rfl _ _ _ 27 (D (a * b)) (0, 0) _ rfl HF.out Try.underlying27 rfl (by kernel_rfl)) rfl ⟨rfl, ?_⟩
      exact below_setRow hBW (Nat.le_refl _) _
    | succ i =>
      have ex : (((i + 1 : Nat) : Int) - 1) = (i : Int) := by omega
      rw [ex]
      have d3 : decide ((0 : Int) ≤ (i : Int)) = true := decide_eq_true (by omega)
      have BT := Lib.hid (fun w => r1_bit a i w (by omega))
      have MR1 := MR.out i
      rw [HD.out] at MR1
      have hbt : a / 2 ^ i % 2 = 0 ∨ a / 2 ^ i % 2 = 1 := by omega
      have BI := Lib.hid (show bitI a i = ((a / 2 ^ i % 2 : Nat) : Int) from rfl)
      obtain ⟨r, hr⟩ : ∃ r, a / 2 ^ i % 2 = r := ⟨_, rfl⟩
      rw [hr] at BI MR1 hbt
      rw [BI.out] at BT
      have MR1 := Lib.hid MR1
      clear BI hr
      go_wp2_with (refine wpList_load_row rfl 27 _ rfl (X + 1 + 1) rfl 27 (D (d)) (0, 0) _ HZ.out Try.underlying27 rfl (by kernel_rfl) ?_)
      refine (r1_add d d _).mono ?_
      rintro e w1 ⟨rfl, b1⟩
      have sz1 := b1.size
      have HX := Lib.hid (HX.out.kept b1)
      have HY := Lib.hid (HY.out.kept b1)
      have HZ := Lib.hid (HZ.out.kept b1)
      have B0 := Lib.hid (B0.out.kept b1)
      have hBW := hBW.trans (b1.mono hBW.size)
      have s7 := HZ.out.st (d + d)
      have HX := Lib.hid (HX.out.other (show X ≠ X + 1 + 1 by omega) (D (d + d)))
      have HY := Lib.hid (HY.out.other (show X + 1 ≠ X + 1 + 1 by omega) (D (d + d)))
      have B0 := Lib.hid (B0.out.other (show w.heap.size ≠ X + 1 + 1 by omega) (D (d + d)))
      have HZ := Lib.hid (HZ.out.set (d + d))
      have hBW := below_setRow hBW (show w.heap.size ≤ X + 1 + 1 by omega) (D (d + d))
      clear b1 sz1
      go_wp2_with (refine wpList_load_row rfl 27 _ rfl (X) rfl 27 (D (a)) (0, 0) _ HX.out Try.underlying27 rfl (by kernel_rfl) ?_)
      clear s7
      generalize w1.setRow (X + 1 + 1) (D (d + d)) = w3 at *
      refine (BT.out _).mono ?_
      rintro e w4 ⟨rfl, b1⟩
      have HX := Lib.hid (HX.out.kept b1)
      have HY := Lib.hid (HY.out.kept b1)
      have HZ := Lib.hid (HZ.out.kept b1)
      have B0 := Lib.hid (B0.out.kept b1)
      have hBW := hBW.trans (b1.mono hBW.size)
      clear b1
      rcases hbt with rfl | rfl
      · have MR2 := Lib.hid (show a / 2 ^ i * b = d + d by rw [← MR1.out]; omega)
        go_wp2_with fail
        go_roundw
        case rel => exact ⟨i, d + d, by omega, by go_num, MR2, HX, HY, HZ, B0, hBW⟩
        case measure => (first | (simp [intOf]; done) | (simp [intOf]; omega) | (simp only [intOf]; omega))
      · have MR2 := Lib.hid (show a / 2 ^ i * b = d + d + b by rw [← MR1.out]; omega)
        go_wp2_with (first | (refine wpList_load_row rfl 27 _ rfl (X + 1 + 1) rfl 27 (D (d + d)) (0, 0) _ HZ.out Try.underlying27 rfl (by kernel_rfl) ?_) | (refine wpList_load_row rfl 27 _ rfl (X + 1) rfl 27 (D (b)) (0, 0) _ HY.out Try.underlying27 rfl (by kernel_rfl) ?_))
        refine (r1_add (d + d) b _).mono ?_
        rintro e w5 ⟨rfl, b1⟩
        have HX := Lib.hid (HX.out.kept b1)
        have HY := Lib.hid (HY.out.kept b1)
        have HZ := Lib.hid (HZ.out.kept b1)
        have B0 := Lib.hid (B0.out.kept b1)
        have hBW := hBW.trans (b1.mono hBW.size)
        have s7 := HZ.out.st (d + d + b)
        have HX := Lib.hid (HX.out.other (show X ≠ X + 1 + 1 by omega) (D (d + d + b)))
        have HY := Lib.hid (HY.out.other (show X + 1 ≠ X + 1 + 1 by omega) (D (d + d + b)))
        have B0 := Lib.hid (B0.out.other (show w.heap.size ≠ X + 1 + 1 by omega) (D (d + d + b)))
        have HZ := Lib.hid (HZ.out.set (d + d + b))
        have hBW := below_setRow hBW (show w.heap.size ≤ X + 1 + 1 by omega) (D (d + d + b))
        clear b1
        go_wp2_with fail
        go_roundw
        case rel => exact ⟨i, d + d + b, by omega, by go_num, MR2, HX, HY, HZ, B0, hBW⟩
        case measure => (first | (simp [intOf]; done) | (simp [intOf]; omega) | (simp only [intOf]; omega))
end Go.Proofs.Ytlmaacbjbmhogaa
