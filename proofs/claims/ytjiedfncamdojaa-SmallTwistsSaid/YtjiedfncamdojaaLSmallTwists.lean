/- SmallTwists: each number times its power; twice is once. -/
import Derived.Test.YtjiedfncamdojaaSmall3
namespace Go.Proofs.Ytjiedfncamdojaa
open Go.ChangeShapes Go.WideShapes Go.ChangeAt Go.RowKit
set_option linter.unusedVariables false
namespace smallTwists
set_option maxRecDepth 100000 in
theorem far (W : World) (a0 : Option Addr) (n c0 : Nat) (u v : Int) (h : 60 < n) :
    Calls Try.prog 10 #[.slice a0 n c0, .int .u64 u, .int .u64 v] W fun e W' => e = .returned (.bool true) ∧ Below W.heap.size W W' := by
  have g1 : decide (60 < (n : Int)) = true := decide_eq_true (by omega)
  go_enter Try.func10, Try.ntmps10
  go_wp2_with fail
  refine (live10 _).mono ?_
  rintro e w1 ⟨rfl, b1⟩
  go_wp2_with fail
  go_ret
  exact ⟨rfl, b1⟩
set_option maxRecDepth 100000 in
theorem main (W : World) (a0 : Option Addr) (n c0 : Nat) (u v : Int) (xs : List Int) (hx : Row W a0 n xs) (hn : n ≤ 60) (u0 : 0 ≤ u) (u1 : u ≤ 18446744073709551615) (v0 : 0 ≤ v) (v1 : v ≤ 18446744073709551615) :
    Calls Try.prog 10 #[.slice a0 n c0, .int .u64 u, .int .u64 v] W fun e W' => e = .returned (.bool true) ∧ Below W.heap.size W W' := by
  have g1 : decide (60 < (n : Int)) = false := decide_eq_false (by omega)
  have HX := Lib.hid hx
  have hB : Below W.heap.size W W := Below.refl _ _
  have E := Lib.hid (twl_twice xs u v)
  clear hx
  go_enter Try.func10, Try.ntmps10
  go_wp2_with fail
  refine (small_twist _ _ _ _ u _ HX.out (by omega) u0 u1).mono ?_
  rintro e w1 ⟨p1, d1, rfl, hr, b1⟩
  have RP := Lib.hid hr; clear hr; have HX := Lib.hid (HX.out.below b1); have hB := hB.trans (b1.mono hB.size); clear b1
  go_wp2_with fail
  refine (r10_twist u u0 u1 _ _ _ _ _ HX.out (by omega)).mono ?_
  rintro e w1 ⟨p2, d2, rfl, hr, b1⟩
  have RQ := Lib.hid hr; clear hr; have HX := Lib.hid (HX.out.below b1); have RP := Lib.hid (RP.out.below b1); have hB := hB.trans (b1.mono hB.size); clear b1
  go_wp2_with fail
  refine (c_same RP.out RQ.out).mono ?_
  rintro e w1 ⟨rfl, b1⟩
  clear RQ; have HX := Lib.hid (HX.out.below b1); have RP := Lib.hid (RP.out.below b1); have hB := hB.trans (b1.mono hB.size); clear b1
  go_wp2_with fail
  refine (small_twist _ _ _ _ v _ RP.out (by omega) v0 v1).mono ?_
  rintro e w1 ⟨p3, d3, rfl, hr, b1⟩
  rw [E.out] at hr
  have RS := Lib.hid hr; clear hr; have HX := Lib.hid (HX.out.below b1); have hB := hB.trans (b1.mono hB.size); clear b1
  go_wp2_with fail
  refine (r2_red u _ u0 u1).mono ?_
  rintro e w1 ⟨rfl, rfl⟩
  go_wp2_with fail
  refine (r2_red v _ v0 v1).mono ?_
  rintro e w1 ⟨rfl, rfl⟩
  go_wp2_with fail
  refine (r2_mulf u v _).mono ?_
  rintro e w1 ⟨rfl, rfl⟩
  go_wp2_with fail
  refine (r10_twist (fm (u * v)) (fm_lo _) (fm_hi' _) _ _ _ _ _ HX.out (by omega)).mono ?_
  rintro e w1 ⟨p4, d4, rfl, hr, b1⟩
  have RT := Lib.hid hr; clear hr; have RS := Lib.hid (RS.out.below b1); have hB := hB.trans (b1.mono hB.size); clear b1
  go_wp2_with fail
  refine (c_same RS.out RT.out).mono ?_
  rintro e w1 ⟨rfl, b1⟩
  have hB := hB.trans (b1.mono hB.size); clear b1
  go_wp2_with fail
  refine (live10 _).mono ?_
  rintro e w1 ⟨rfl, b1⟩
  have hB := hB.trans (b1.mono hB.size); clear b1
  go_wp2_with fail
  go_ret
  exact ⟨rfl, hB⟩
theorem walk (W : World) (a0 : Option Addr) (n0 c0 : Nat) (w0 : IsRow .u64 W a0 n0 c0) (a1 : Int) (w1 : 0 ≤ a1 ∧ a1 ≤ 18446744073709551615) (a2 : Int) (w2 : 0 ≤ a2 ∧ a2 ≤ 18446744073709551615) :
    Calls Try.prog 10 #[.slice a0 n0 c0, .int .u64 a1, .int .u64 a2] W fun e W' => e = .returned (.bool true) ∧ Below W.heap.size W W' := by
  by_cases h : 60 < n0
  · exact far W a0 n0 c0 a1 a2 h
  · obtain ⟨xs, hx⟩ := Row.of_isRow w0 (by omega)
    exact main W a0 n0 c0 a1 a2 xs hx (by omega) w1.1 w1.2 w2.1 w2.2
end smallTwists
end Go.Proofs.Ytjiedfncamdojaa
