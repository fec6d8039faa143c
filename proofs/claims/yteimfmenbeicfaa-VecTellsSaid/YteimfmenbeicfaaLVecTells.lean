/- VecTells: two rows, one by one. -/
import Derived.Test.YteimfmenbeicfaaVecc
import Derived.Test.YteimfmenbeicfaaLive5
namespace Go.Proofs.Yteimfmenbeicfaa
open Go.ChangeShapes Go.WideShapes Go.ChangeAt Go.RowKit
set_option linter.unusedVariables false
namespace vecTells
set_option maxRecDepth 100000 in
theorem big (W : World) (a0 : Option Addr) (n0 c0 : Nat) (a1 : Option Addr) (n1 c1 : Nat) (a2 : Int) (h : 200 < n0 ∨ 200 < n1) :
    Calls Try.prog 8 #[.slice a0 n0 c0, .slice a1 n1 c1, .int .u64 a2] W fun e W' => e = .returned (.bool true) ∧ Below W.heap.size W W' := by
  by_cases h0 : 200 < n0
  · have hd : decide (200 < (n0 : Int)) = true := decide_eq_true (by omega)
    clear h h0
    go_enter Try.func8, Try.ntmps8
    go_wp2_with fail
    refine (live5 _).mono ?_
    rintro e w1 ⟨rfl, hb⟩
    go_wp2_with fail
    go_ret
    exact ⟨rfl, hb⟩
  · have h1 : 200 < n1 := by omega
    have hd : decide (200 < (n0 : Int)) = false := decide_eq_false (by omega)
    have hd1 : decide (200 < (n1 : Int)) = true := decide_eq_true (by omega)
    clear h h0 h1
    go_enter Try.func8, Try.ntmps8
    go_wp2_with fail
    refine (live5 _).mono ?_
    rintro e w1 ⟨rfl, hb⟩
    go_wp2_with fail
    go_ret
    exact ⟨rfl, hb⟩

set_option maxRecDepth 100000 in
theorem same (W : World) (a0 : Option Addr) (n c0 : Nat) (a1 : Option Addr) (c1 : Nat) (a2 : Int) (g0 : 0 ≤ a2) (g1 : a2 ≤ 18446744073709551615) (xs ys : List Int) (hx : Row W a0 n xs) (hy : Row W a1 n ys) (hn : n ≤ 200) :
    Calls Try.prog 8 #[.slice a0 n c0, .slice a1 n c1, .int .u64 a2] W fun e W' => e = .returned (.bool true) ∧ Below W.heap.size W W' := by
  have hd : decide (200 < (n : Int)) = false := decide_eq_false (by omega)
  have hne : ((n : Int) != (n : Int)) = false := by simp
  obtain ⟨b, hb⟩ : ∃ b, decide (redl xs = redl ys) = b := ⟨_, rfl⟩
  have HBQ := Lib.hid hb
  have HX := Lib.hid hx
  have HY := Lib.hid hy
  clear hb hx hy
  have hB : Below W.heap.size W W := Below.refl _ _
  go_enter Try.func8, Try.ntmps8
  go_wp2_with fail
  refine (c_add HX.out HY.out).mono ?_
  rintro e w1 ⟨p1, d1, rfl, r, b1⟩
  have R1 := Lib.hid r; clear r; have HX := Lib.hid (HX.out.below b1); have HY := Lib.hid (HY.out.below b1); have hB := hB.trans (b1.mono hB.size); clear b1
  go_wp2_with fail
  refine (c_mul HX.out HY.out).mono ?_
  rintro e w2 ⟨p2, d2, rfl, r, b1⟩
  have R2 := Lib.hid r; clear r; have HX := Lib.hid (HX.out.below b1); have HY := Lib.hid (HY.out.below b1); have R1 := Lib.hid (R1.out.below b1); have hB := hB.trans (b1.mono hB.size); clear b1
  go_wp2_with fail
  refine (c_dot HX.out HY.out).mono ?_
  rintro e w3 ⟨rfl, b1⟩
  have HX := Lib.hid (HX.out.below b1); have HY := Lib.hid (HY.out.below b1); have R1 := Lib.hid (R1.out.below b1); have R2 := Lib.hid (R2.out.below b1); have hB := hB.trans (b1.mono hB.size); clear b1
  go_wp2_with fail
  refine (c_red HX.out).mono ?_
  rintro e w4 ⟨p3, d3, rfl, r, b1⟩
  have R3 := Lib.hid r; clear r; have HX := Lib.hid (HX.out.below b1); have HY := Lib.hid (HY.out.below b1); have R1 := Lib.hid (R1.out.below b1); have R2 := Lib.hid (R2.out.below b1); have hB := hB.trans (b1.mono hB.size); clear b1
  go_wp2_with fail
  refine (c_rred HX.out).mono ?_
  rintro e w5 ⟨p4, d4, rfl, r, b1⟩
  have R4 := Lib.hid r; clear r; have HX := Lib.hid (HX.out.below b1); have HY := Lib.hid (HY.out.below b1); have R1 := Lib.hid (R1.out.below b1); have R2 := Lib.hid (R2.out.below b1); have R3 := Lib.hid (R3.out.below b1); have hB := hB.trans (b1.mono hB.size); clear b1
  go_wp2_with fail
  refine (c_same R3.out R4.out).mono ?_
  rintro e w6 ⟨rfl, b1⟩
  clear R3 R4; have HX := Lib.hid (HX.out.below b1); have HY := Lib.hid (HY.out.below b1); have R1 := Lib.hid (R1.out.below b1); have R2 := Lib.hid (R2.out.below b1); have hB := hB.trans (b1.mono hB.size); clear b1
  go_wp2_with fail
  refine (c_scale HX.out g0 g1).mono ?_
  rintro e w7 ⟨p3, d3, rfl, r, b1⟩
  have R3 := Lib.hid r; clear r; have HX := Lib.hid (HX.out.below b1); have HY := Lib.hid (HY.out.below b1); have R1 := Lib.hid (R1.out.below b1); have R2 := Lib.hid (R2.out.below b1); have hB := hB.trans (b1.mono hB.size); clear b1
  go_wp2_with fail
  refine (c_rscale HX.out g0 g1).mono ?_
  rintro e w8 ⟨p4, d4, rfl, r, b1⟩
  have R4 := Lib.hid r; clear r; have HX := Lib.hid (HX.out.below b1); have HY := Lib.hid (HY.out.below b1); have R1 := Lib.hid (R1.out.below b1); have R2 := Lib.hid (R2.out.below b1); have R3 := Lib.hid (R3.out.below b1); have hB := hB.trans (b1.mono hB.size); clear b1
  go_wp2_with fail
  refine (c_same R3.out R4.out).mono ?_
  rintro e w9 ⟨rfl, b1⟩
  clear R3 R4; have HX := Lib.hid (HX.out.below b1); have HY := Lib.hid (HY.out.below b1); have R1 := Lib.hid (R1.out.below b1); have R2 := Lib.hid (R2.out.below b1); have hB := hB.trans (b1.mono hB.size); clear b1
  go_wp2_with fail
  refine (c_vsame HX.out HY.out HBQ.out).mono ?_
  rintro e w10 ⟨rfl, b1⟩
  have HX := Lib.hid (HX.out.below b1); have HY := Lib.hid (HY.out.below b1); have R1 := Lib.hid (R1.out.below b1); have R2 := Lib.hid (R2.out.below b1); have hB := hB.trans (b1.mono hB.size); clear b1
  go_wp2_with fail
  refine (c_rred HX.out).mono ?_
  rintro e w11 ⟨p3, d3, rfl, r, b1⟩
  have R3 := Lib.hid r; clear r; have HX := Lib.hid (HX.out.below b1); have HY := Lib.hid (HY.out.below b1); have R1 := Lib.hid (R1.out.below b1); have R2 := Lib.hid (R2.out.below b1); have hB := hB.trans (b1.mono hB.size); clear b1
  go_wp2_with fail
  refine (c_rred HY.out).mono ?_
  rintro e w12 ⟨p4, d4, rfl, r, b1⟩
  have R4 := Lib.hid r; clear r; have HX := Lib.hid (HX.out.below b1); have HY := Lib.hid (HY.out.below b1); have R1 := Lib.hid (R1.out.below b1); have R2 := Lib.hid (R2.out.below b1); have R3 := Lib.hid (R3.out.below b1); have hB := hB.trans (b1.mono hB.size); clear b1
  go_wp2_with fail
  refine (c_sameb R3.out R4.out HBQ.out).mono ?_
  rintro e w13 ⟨rfl, b1⟩
  clear R3 R4; have HX := Lib.hid (HX.out.below b1); have HY := Lib.hid (HY.out.below b1); have R1 := Lib.hid (R1.out.below b1); have R2 := Lib.hid (R2.out.below b1); have hB := hB.trans (b1.mono hB.size); clear b1
  go_wp2_with fail
  refine (c_radd HX.out HY.out).mono ?_
  rintro e w14 ⟨p3, d3, rfl, r, b1⟩
  have R3 := Lib.hid r; clear r; have HX := Lib.hid (HX.out.below b1); have HY := Lib.hid (HY.out.below b1); have R1 := Lib.hid (R1.out.below b1); have R2 := Lib.hid (R2.out.below b1); have hB := hB.trans (b1.mono hB.size); clear b1
  go_wp2_with fail
  refine (c_same R1.out R3.out).mono ?_
  rintro e w15 ⟨rfl, b1⟩
  clear R3 R1; have HX := Lib.hid (HX.out.below b1); have HY := Lib.hid (HY.out.below b1); have R2 := Lib.hid (R2.out.below b1); have hB := hB.trans (b1.mono hB.size); clear b1
  go_wp2_with fail
  refine (c_rmul HX.out HY.out).mono ?_
  rintro e w16 ⟨p3, d3, rfl, r, b1⟩
  have R3 := Lib.hid r; clear r; have HX := Lib.hid (HX.out.below b1); have HY := Lib.hid (HY.out.below b1); have R2 := Lib.hid (R2.out.below b1); have hB := hB.trans (b1.mono hB.size); clear b1
  go_wp2_with fail
  refine (c_same R2.out R3.out).mono ?_
  rintro e w17 ⟨rfl, b1⟩
  clear R3 R2; have HX := Lib.hid (HX.out.below b1); have HY := Lib.hid (HY.out.below b1); have hB := hB.trans (b1.mono hB.size); clear b1
  go_wp2_with fail
  refine (c_rdot HX.out HY.out).mono ?_
  rintro e w18 ⟨rfl, b1⟩
  have HX := Lib.hid (HX.out.below b1); have HY := Lib.hid (HY.out.below b1); have hB := hB.trans (b1.mono hB.size); clear b1
  go_wp2_with fail
  refine (live5 _).mono ?_
  rintro e w19 ⟨rfl, b1⟩
  have hB := hB.trans (b1.mono hB.size); clear b1
  go_wp2_with fail
  go_ret
  exact ⟨rfl, hB⟩

set_option maxRecDepth 100000 in
theorem other (W : World) (a0 : Option Addr) (n c0 : Nat) (a1 : Option Addr) (m c1 : Nat) (a2 : Int) (g0 : 0 ≤ a2) (g1 : a2 ≤ 18446744073709551615) (xs ys : List Int) (hx : Row W a0 n xs) (hy : Row W a1 m ys) (hn : n ≤ 200) (hm : m ≤ 200) (hnm : n ≠ m) :
    Calls Try.prog 8 #[.slice a0 n c0, .slice a1 m c1, .int .u64 a2] W fun e W' => e = .returned (.bool true) ∧ Below W.heap.size W W' := by
  have hd : decide (200 < (n : Int)) = false := decide_eq_false (by omega)
  have hd2 : decide (200 < (m : Int)) = false := decide_eq_false (by omega)
  have hne : ((n : Int) != (m : Int)) = true := by simp; omega
  obtain ⟨b, hb⟩ : ∃ b, decide (redl xs = redl ys) = b := ⟨_, rfl⟩
  have HBQ := Lib.hid hb
  have HX := Lib.hid hx
  have HY := Lib.hid hy
  have HNE := Lib.hid hnm
  clear hb hx hy hnm
  have hB : Below W.heap.size W W := Below.refl _ _
  go_enter Try.func8, Try.ntmps8
  go_wp2_with fail
  refine (vec_add_no _ _ _ _ _ _ _ HNE.out).mono ?_
  rintro e w1 ⟨rfl, rfl⟩
  go_wp2_with fail
  refine (vec_mul_no _ _ _ _ _ _ _ HNE.out).mono ?_
  rintro e w2 ⟨rfl, rfl⟩
  go_wp2_with fail
  refine (vec_dot_no _ _ _ _ _ _ _ HNE.out).mono ?_
  rintro e w3 ⟨rfl, rfl⟩
  go_wp2_with fail
  refine (c_red HX.out).mono ?_
  rintro e w4 ⟨p3, d3, rfl, r, b1⟩
  have R3 := Lib.hid r; clear r; have HX := Lib.hid (HX.out.below b1); have HY := Lib.hid (HY.out.below b1); have hB := hB.trans (b1.mono hB.size); clear b1
  go_wp2_with fail
  refine (c_rred HX.out).mono ?_
  rintro e w5 ⟨p4, d4, rfl, r, b1⟩
  have R4 := Lib.hid r; clear r; have HX := Lib.hid (HX.out.below b1); have HY := Lib.hid (HY.out.below b1); have R3 := Lib.hid (R3.out.below b1); have hB := hB.trans (b1.mono hB.size); clear b1
  go_wp2_with fail
  refine (c_same R3.out R4.out).mono ?_
  rintro e w6 ⟨rfl, b1⟩
  clear R3 R4; have HX := Lib.hid (HX.out.below b1); have HY := Lib.hid (HY.out.below b1); have hB := hB.trans (b1.mono hB.size); clear b1
  go_wp2_with fail
  refine (c_scale HX.out g0 g1).mono ?_
  rintro e w7 ⟨p3, d3, rfl, r, b1⟩
  have R3 := Lib.hid r; clear r; have HX := Lib.hid (HX.out.below b1); have HY := Lib.hid (HY.out.below b1); have hB := hB.trans (b1.mono hB.size); clear b1
  go_wp2_with fail
  refine (c_rscale HX.out g0 g1).mono ?_
  rintro e w8 ⟨p4, d4, rfl, r, b1⟩
  have R4 := Lib.hid r; clear r; have HX := Lib.hid (HX.out.below b1); have HY := Lib.hid (HY.out.below b1); have R3 := Lib.hid (R3.out.below b1); have hB := hB.trans (b1.mono hB.size); clear b1
  go_wp2_with fail
  refine (c_same R3.out R4.out).mono ?_
  rintro e w9 ⟨rfl, b1⟩
  clear R3 R4; have HX := Lib.hid (HX.out.below b1); have HY := Lib.hid (HY.out.below b1); have hB := hB.trans (b1.mono hB.size); clear b1
  go_wp2_with fail
  refine (c_vsame HX.out HY.out HBQ.out).mono ?_
  rintro e w10 ⟨rfl, b1⟩
  have HX := Lib.hid (HX.out.below b1); have HY := Lib.hid (HY.out.below b1); have hB := hB.trans (b1.mono hB.size); clear b1
  go_wp2_with fail
  refine (c_rred HX.out).mono ?_
  rintro e w11 ⟨p3, d3, rfl, r, b1⟩
  have R3 := Lib.hid r; clear r; have HX := Lib.hid (HX.out.below b1); have HY := Lib.hid (HY.out.below b1); have hB := hB.trans (b1.mono hB.size); clear b1
  go_wp2_with fail
  refine (c_rred HY.out).mono ?_
  rintro e w12 ⟨p4, d4, rfl, r, b1⟩
  have R4 := Lib.hid r; clear r; have HX := Lib.hid (HX.out.below b1); have HY := Lib.hid (HY.out.below b1); have R3 := Lib.hid (R3.out.below b1); have hB := hB.trans (b1.mono hB.size); clear b1
  go_wp2_with fail
  refine (c_sameb R3.out R4.out HBQ.out).mono ?_
  rintro e w13 ⟨rfl, b1⟩
  clear R3 R4; have HX := Lib.hid (HX.out.below b1); have HY := Lib.hid (HY.out.below b1); have hB := hB.trans (b1.mono hB.size); clear b1
  go_wp2_with fail
  refine (live5 _).mono ?_
  rintro e w19 ⟨rfl, b1⟩
  have hB := hB.trans (b1.mono hB.size); clear b1
  go_wp2_with fail
  go_ret
  exact ⟨rfl, hB⟩

theorem walk (W : World) (a0 : Option Addr) (n0 c0 : Nat) (w0 : IsRow .u64 W a0 n0 c0) (a1 : Option Addr) (n1 c1 : Nat) (w1 : IsRow .u64 W a1 n1 c1) (a2 : Int) (w2 : 0 ≤ a2 ∧ a2 ≤ 18446744073709551615) :
    Calls Try.prog 8 #[.slice a0 n0 c0, .slice a1 n1 c1, .int .u64 a2] W fun e W' => e = .returned (.bool true) ∧ Below W.heap.size W W' := by
  by_cases h : 200 < n0 ∨ 200 < n1
  · exact big W a0 n0 c0 a1 n1 c1 a2 h
  · obtain ⟨xs, hx⟩ := Row.of_isRow w0 (by omega)
    obtain ⟨ys, hy⟩ := Row.of_isRow w1 (by omega)
    by_cases hnm : n0 = n1
    · subst hnm
      exact same W a0 n0 c0 a1 c1 a2 w2.1 w2.2 xs ys hx hy (by omega)
    · exact other W a0 n0 c0 a1 n1 c1 a2 w2.1 w2.2 xs ys hx hy (by omega) (by omega) hnm
end vecTells
end Go.Proofs.Yteimfmenbeicfaa
