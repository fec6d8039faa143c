/- DftTells: the transform, its undoing and one sum, by the document's sums. -/
import Derived.Test.YtjiedfncamdojaaDft3
import Derived.Test.YtjiedfncamdojaaLive6
import Derived.Test.YtjiedfncamdojaaLDftBack
namespace Go.Proofs.Ytjiedfncamdojaa
open Go.ChangeShapes Go.WideShapes Go.ChangeAt Go.RowKit
set_option linter.unusedVariables false
namespace dftTells
open rootTells dftBack
theorem chk_flip (n dir : Int) (hc : chk n dir = 0) : chk n (1 - dir) = 0 := by
  rcases (chk_ok hc).1 with rfl | rfl
  · exact hc
  · exact hc
theorem dft_undono (p : Option Addr) (n c : Nat) (dir z : Int) (w : World) (hs : n ≤ 17592186044415) (hc : chk n dir = z) (hz : (z != 0) = true) :
    Calls Try.prog 17 #[.slice p n c, .int .i64 dir] w fun e w' => e = .returned (.tuple #[.slice none 0 0, .int .i64 z]) ∧ w = w' := by
  have C := fun w => dft_chk n dir w (by omega) (by omega)
  rw [hc] at C
  have C := Lib.hid C
  clear hc
  go_enter Try.func17, Try.ntmps17
  go_wp2_with fail
  refine (C.out _).mono ?_
  rintro e w1 ⟨rfl, rfl⟩
  go_wp2_with fail
  go_ret2
  exact ⟨rfl, rfl⟩
set_option maxRecDepth 100000 in
theorem main (W : World) (a0 : Option Addr) (n c0 : Nat) (xs : List Int) (hx : Row W a0 n xs) (hn : n ≤ 70) (d k v : Int) (wk : -9223372036854775808 ≤ k ∧ k ≤ 9223372036854775807) (wv : 0 ≤ v ∧ v ≤ 18446744073709551615) (hc : chk n d = 0) :
    Calls Try.prog 3 #[.slice a0 n c0, .agg #[.int .i64 d, .int .i64 k], .int .u64 v] W fun e W' => e = .returned (.bool true) ∧ Below W.heap.size W W' := by
  have g1 : decide (70 < (n : Int)) = false := decide_eq_false (by omega)
  obtain ⟨hd, hh, _⟩ := chk_ok hc
  have hn1 : 1 ≤ n := by have := (hasb_dvd hh).1; omega
  have I := inv2_dir n d hc
  have E2 := Lib.hid (redone I xs hx.len hn1 (by omega))
  have C := fun w => r6_chk n d w (by omega) (by omega)
  rw [hc] at C
  have C := Lib.hid C
  have DD := Lib.hid (fun (p : Option Addr) (c : Nat) (ys : List Int) (w : World) (h : Row w p n ys) => dft_dft2 p n c d ys w h hc)
  have UU := Lib.hid (fun (p : Option Addr) (c : Nat) (ys : List Int) (w : World) (h : Row w p n ys) => dft_undo p n c d ys w h hc)
  have RD := Lib.hid (fun (p : Option Addr) (c : Nat) (ys : List Int) (w : World) (h : Row w p n ys) => r6_dft p n c d ys w h hc)
  have P1 := Lib.hid (fun (w : World) (h : Row w a0 n xs) => dft_point a0 n c0 k.toNat k xs v w h wv.1 wv.2 wk.1 wk.2 rfl)
  have P2 := Lib.hid (fun (w : World) (h : Row w a0 n xs) => r6_pointn a0 n c0 k.toNat xs k v w h wv.1 wv.2 wk.1 wk.2 rfl)
  have HX := Lib.hid (hx.alloc (.cells #[.int .i64 d, .int .i64 k] 23))
  have hB : Below W.heap.size W (W.alloc (.cells #[.int .i64 d, .int .i64 k] 23)) := (Below.refl _ _).alloc (Nat.le_refl _) _
  have hW0 : (W.alloc (.cells #[.int .i64 d, .int .i64 k] 23)).heap[W.heap.size]? = some (.cells #[.int .i64 d, .int .i64 k] 23 (0, 0)) := heap_alloc_new _ _
  have d0 : (W.alloc (.cells #[.int .i64 d, .int .i64 k] 23)).cell? ⟨W.heap.size, 0, none⟩ = some (.int .i64 d) := by rw [cell_of_row _ _ 0 _ _ _ hW0]; rfl
  have d1 : (W.alloc (.cells #[.int .i64 d, .int .i64 k] 23)).cell? ⟨W.heap.size, 1, none⟩ = some (.int .i64 k) := by rw [cell_of_row _ _ 1 _ _ _ hW0]; rfl
  clear hx hc hh I hd hW0
  generalize finv (n : Int) = u at *
  generalize rdir n (1 - d) = s at *
  generalize rdir n d = r at *
  generalize hor (fm (v ^ k.toNat)) xs = pt at *
  go_enter Try.func3, Try.ntmps3
  go_wp2_with fail
  generalize W.alloc (.cells #[.int .i64 d, .int .i64 k] 23) = W1 at *
  have HXq := Lib.hid (fun q => HX.out.below (below_drewN (Below.refl W1.heap.size W1) q))
  have HBq := Lib.hid (fun q => below_drewN hB q)
  clear hB HX
  go_quiet (fail)
  go_wp2_with fail
  refine (DD.out _ _ _ _ (HXq.out _)).mono ?_
  rintro e w1 ⟨p1, c1, rfl, hr, b1⟩
  have RY := Lib.hid hr; clear hr
  have HX := Lib.hid ((HXq.out _).below b1)
  have hB := (HBq.out _).trans (b1.mono (HBq.out _).size)
  clear b1 HXq HBq d0 d1
  go_wp2_with fail
  refine (UU.out _ _ _ _ HX.out).mono ?_
  rintro e w1 ⟨p2, c2, rfl, hr, b1⟩
  have RZ := Lib.hid hr; clear hr; have HX := Lib.hid (HX.out.below b1); have RY := Lib.hid (RY.out.below b1); have hB := hB.trans (b1.mono hB.size); clear b1
  go_wp2_with fail
  refine (C.out _).mono ?_
  rintro e w1 ⟨rfl, rfl⟩
  go_wp2_with fail
  refine (P1.out _ HX.out).mono ?_
  rintro e w1 ⟨rfl, b1⟩
  have HX := Lib.hid (HX.out.below b1); have RY := Lib.hid (RY.out.below b1); have RZ := Lib.hid (RZ.out.below b1); have hB := hB.trans (b1.mono hB.size); clear b1
  go_wp2_with fail
  refine (P2.out _ HX.out).mono ?_
  rintro e w1 ⟨rfl, b1⟩
  have HX := Lib.hid (HX.out.below b1); have RY := Lib.hid (RY.out.below b1); have RZ := Lib.hid (RZ.out.below b1); have hB := hB.trans (b1.mono hB.size); clear b1
  go_wp2_with fail
  refine (RD.out _ _ _ _ HX.out).mono ?_
  rintro e w1 ⟨p3, c3, rfl, hr, b1⟩
  have RU := Lib.hid hr; clear hr; have HX := Lib.hid (HX.out.below b1); have RY := Lib.hid (RY.out.below b1); have RZ := Lib.hid (RZ.out.below b1); have hB := hB.trans (b1.mono hB.size); clear b1
  go_wp2_with fail
  refine (c_same RY.out RU.out).mono ?_
  rintro e w1 ⟨rfl, b1⟩
  clear RU RY; have HX := Lib.hid (HX.out.below b1); have RZ := Lib.hid (RZ.out.below b1); have hB := hB.trans (b1.mono hB.size); clear b1
  go_wp2_with fail
  refine (RD.out _ _ _ _ RZ.out).mono ?_
  rintro e w1 ⟨p4, c4, rfl, hr, b1⟩
  rw [E2.out] at hr
  have RV := Lib.hid hr; clear hr; clear RZ; have HX := Lib.hid (HX.out.below b1); have hB := hB.trans (b1.mono hB.size); clear b1
  go_wp2_with fail
  refine (c_rred HX.out).mono ?_
  rintro e w1 ⟨p5, c5, rfl, hr, b1⟩
  have RW := Lib.hid hr; clear hr; have RV := Lib.hid (RV.out.below b1); have hB := hB.trans (b1.mono hB.size); clear b1
  go_wp2_with fail
  refine (c_same RV.out RW.out).mono ?_
  rintro e w1 ⟨rfl, b1⟩
  have hB := hB.trans (b1.mono hB.size); clear b1
  go_wp2_with fail
  refine (live6 _).mono ?_
  rintro e w1 ⟨rfl, b1⟩
  have hB := hB.trans (b1.mono hB.size); clear b1
  go_wp2_with fail
  go_ret
  exact ⟨rfl, hB⟩
set_option maxRecDepth 100000 in
theorem far (W : World) (a0 : Option Addr) (n c0 : Nat) (d k v : Int) (hn : 70 < n) :
    Calls Try.prog 3 #[.slice a0 n c0, .agg #[.int .i64 d, .int .i64 k], .int .u64 v] W fun e W' => e = .returned (.bool true) ∧ Below W.heap.size W W' := by
  have g1 : decide (70 < (n : Int)) = true := decide_eq_true (by omega)
  have hB : Below W.heap.size W (W.alloc (.cells #[.int .i64 d, .int .i64 k] 23)) := (Below.refl _ _).alloc (Nat.le_refl _) _
  have hW0 : (W.alloc (.cells #[.int .i64 d, .int .i64 k] 23)).heap[W.heap.size]? = some (.cells #[.int .i64 d, .int .i64 k] 23 (0, 0)) := heap_alloc_new _ _
  have d0 : (W.alloc (.cells #[.int .i64 d, .int .i64 k] 23)).cell? ⟨W.heap.size, 0, none⟩ = some (.int .i64 d) := by rw [cell_of_row _ _ 0 _ _ _ hW0]; rfl
  have d1 : (W.alloc (.cells #[.int .i64 d, .int .i64 k] 23)).cell? ⟨W.heap.size, 1, none⟩ = some (.int .i64 k) := by rw [cell_of_row _ _ 1 _ _ _ hW0]; rfl
  clear hW0
  go_enter Try.func3, Try.ntmps3
  go_wp2_with fail
  generalize W.alloc (.cells #[.int .i64 d, .int .i64 k] 23) = W1 at *
  have HBq := Lib.hid (fun q => below_drewN hB q)
  clear hB
  go_quiet (fail)
  go_wp2_with fail
  refine (live6 _).mono ?_
  rintro e w1 ⟨rfl, b1⟩
  have hB := (HBq.out _).trans (b1.mono (HBq.out _).size)
  clear b1 HBq d0 d1
  go_wp2_with fail
  go_ret
  exact ⟨rfl, hB⟩
set_option maxRecDepth 100000 in
theorem noth (W : World) (a0 : Option Addr) (n c0 : Nat) (xs : List Int) (hx : Row W a0 n xs) (hn : n ≤ 70) (d k v z : Int) (wk : -9223372036854775808 ≤ k ∧ k ≤ 9223372036854775807) (wd : -9223372036854775808 ≤ d ∧ d ≤ 9223372036854775807) (wv : 0 ≤ v ∧ v ≤ 18446744073709551615) (hc : chk n d = z) (hz : (z != 0) = true) :
    Calls Try.prog 3 #[.slice a0 n c0, .agg #[.int .i64 d, .int .i64 k], .int .u64 v] W fun e W' => e = .returned (.bool true) ∧ Below W.heap.size W W' := by
  have g1 : decide (70 < (n : Int)) = false := decide_eq_false (by omega)
  have C := fun w => r6_chk n d w (by omega) (by omega)
  rw [hc] at C
  have C := Lib.hid C
  have DD := Lib.hid (fun (p : Option Addr) (c : Nat) (w : World) => dft_dftno p n c d z w (by omega) hc hz)
  have UU := Lib.hid (fun (p : Option Addr) (c : Nat) (w : World) => dft_undono p n c d z w (by omega) hc hz)
  have P1 := Lib.hid (fun (w : World) (h : Row w a0 n xs) => dft_point a0 n c0 k.toNat k xs v w h wv.1 wv.2 wk.1 wk.2 rfl)
  have P2 := Lib.hid (fun (w : World) (h : Row w a0 n xs) => r6_pointn a0 n c0 k.toNat xs k v w h wv.1 wv.2 wk.1 wk.2 rfl)
  have HX := Lib.hid (hx.alloc (.cells #[.int .i64 d, .int .i64 k] 23))
  have hB : Below W.heap.size W (W.alloc (.cells #[.int .i64 d, .int .i64 k] 23)) := (Below.refl _ _).alloc (Nat.le_refl _) _
  have hW0 : (W.alloc (.cells #[.int .i64 d, .int .i64 k] 23)).heap[W.heap.size]? = some (.cells #[.int .i64 d, .int .i64 k] 23 (0, 0)) := heap_alloc_new _ _
  have d0 : (W.alloc (.cells #[.int .i64 d, .int .i64 k] 23)).cell? ⟨W.heap.size, 0, none⟩ = some (.int .i64 d) := by rw [cell_of_row _ _ 0 _ _ _ hW0]; rfl
  have d1 : (W.alloc (.cells #[.int .i64 d, .int .i64 k] 23)).cell? ⟨W.heap.size, 1, none⟩ = some (.int .i64 k) := by rw [cell_of_row _ _ 1 _ _ _ hW0]; rfl
  clear hx hc hW0
  generalize hor (fm (v ^ k.toNat)) xs = pt at *
  go_enter Try.func3, Try.ntmps3
  go_wp2_with fail
  generalize W.alloc (.cells #[.int .i64 d, .int .i64 k] 23) = W1 at *
  have HXq := Lib.hid (fun q => HX.out.below (below_drewN (Below.refl W1.heap.size W1) q))
  have HBq := Lib.hid (fun q => below_drewN hB q)
  clear hB HX
  go_quiet (fail)
  go_wp2_with fail
  refine (DD.out _ _ _).mono ?_
  rintro e w1 ⟨rfl, rfl⟩
  go_wp2_with fail
  refine (UU.out _ _ _).mono ?_
  rintro e w1 ⟨rfl, rfl⟩
  go_wp2_with fail
  refine (C.out _).mono ?_
  rintro e w1 ⟨rfl, rfl⟩
  go_wp2_with fail
  refine (P1.out _ (HXq.out _)).mono ?_
  rintro e w1 ⟨rfl, b1⟩
  have HX := Lib.hid ((HXq.out _).below b1)
  have hB := (HBq.out _).trans (b1.mono (HBq.out _).size)
  clear b1 HXq HBq d0 d1
  go_wp2_with fail
  refine (P2.out _ HX.out).mono ?_
  rintro e w1 ⟨rfl, b1⟩
  have HX := Lib.hid (HX.out.below b1); have hB := hB.trans (b1.mono hB.size); clear b1
  go_wp2_with fail
  refine (live6 _).mono ?_
  rintro e w1 ⟨rfl, b1⟩
  have hB := hB.trans (b1.mono hB.size); clear b1
  go_wp2_with fail
  go_ret
  exact ⟨rfl, hB⟩
theorem walk (W : World) (a0 : Option Addr) (n0 c0 : Nat) (w0 : IsRow .u64 W a0 n0 c0) (a1_0 : Int) (w1_0 : -9223372036854775808 ≤ a1_0 ∧ a1_0 ≤ 9223372036854775807) (a1_1 : Int) (w1_1 : -9223372036854775808 ≤ a1_1 ∧ a1_1 ≤ 9223372036854775807) (a2 : Int) (w2 : 0 ≤ a2 ∧ a2 ≤ 18446744073709551615) :
    Calls Try.prog 3 #[.slice a0 n0 c0, .agg #[.int .i64 a1_0, .int .i64 a1_1], .int .u64 a2] W fun e W' => e = .returned (.bool true) ∧ Below W.heap.size W W' := by
  by_cases h : 70 < n0
  · exact far W a0 n0 c0 _ _ _ h
  · obtain ⟨xs, hx⟩ := Row.of_isRow w0 (by omega)
    by_cases hc : chk n0 a1_0 = 0
    · exact main W a0 n0 c0 xs hx (by omega) _ _ _ w1_1 w2 hc
    · exact noth W a0 n0 c0 xs hx (by omega) _ _ _ _ w1_1 w1_0 w2 rfl (by simpa using hc)
end dftTells
end Go.Proofs.Ytjiedfncamdojaa
