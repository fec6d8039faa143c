/- VecTurns: rows backwards, and turned. -/
import Derived.Test.YteimfmenbeicfaaRturn
import Derived.Test.YteimfmenbeicfaaLive5
namespace Go.Proofs.Yteimfmenbeicfaa
open Go.ChangeShapes Go.WideShapes Go.ChangeAt Go.RowKit
set_option linter.unusedVariables false
namespace vecTurns
theorem turn_sum (xs : List Int) (n : Nat) (k m : Int) (hn : xs.length = n) : turnl (turnl xs (tpos k n)) (tpos m n) = turnl xs (tpos (k + m) n) := by
  by_cases h0 : n = 0
  · subst h0
    have hx : xs = [] := List.length_eq_zero_iff.1 hn
    subst hx
    rfl
  · exact turn_turn xs _ _ _ (by rw [hn]; exact tpos_add k m n (by omega))

set_option maxRecDepth 100000 in
theorem odd (W : World) (a0 : Option Addr) (n0 c0 : Nat) (k m : Int) (h : 200 < n0 ∨ k < -1099511627776 ∨ 1099511627776 < k ∨ m < -1099511627776 ∨ 1099511627776 < m) :
    Calls Try.prog 9 #[.slice a0 n0 c0, .int .i64 k, .int .i64 m] W fun e W' => e = .returned (.bool true) ∧ Below W.heap.size W W' := by
  by_cases h0 : 200 < (n0 : Int)
  · have g0 : decide (200 < (n0 : Int)) = true := decide_eq_true h0
    go_enter Try.func9, Try.ntmps9
    go_wp2_with fail
    refine (live5 _).mono ?_
    rintro e w2 ⟨rfl, hb2⟩
    go_wp2_with fail
    go_ret
    exact ⟨rfl, hb2⟩
  have g0 : decide (200 < (n0 : Int)) = false := decide_eq_false h0
  by_cases h1 : k < -1099511627776
  · have g1 : decide (k < -1099511627776) = true := decide_eq_true h1
    go_enter Try.func9, Try.ntmps9
    go_wp2_with fail
    refine (live5 _).mono ?_
    rintro e w2 ⟨rfl, hb2⟩
    go_wp2_with fail
    go_ret
    exact ⟨rfl, hb2⟩
  have g1 : decide (k < -1099511627776) = false := decide_eq_false h1
  by_cases h2 : 1099511627776 < k
  · have g2 : decide (1099511627776 < k) = true := decide_eq_true h2
    go_enter Try.func9, Try.ntmps9
    go_wp2_with fail
    refine (live5 _).mono ?_
    rintro e w2 ⟨rfl, hb2⟩
    go_wp2_with fail
    go_ret
    exact ⟨rfl, hb2⟩
  have g2 : decide (1099511627776 < k) = false := decide_eq_false h2
  by_cases h3 : m < -1099511627776
  · have g3 : decide (m < -1099511627776) = true := decide_eq_true h3
    go_enter Try.func9, Try.ntmps9
    go_wp2_with fail
    refine (live5 _).mono ?_
    rintro e w2 ⟨rfl, hb2⟩
    go_wp2_with fail
    go_ret
    exact ⟨rfl, hb2⟩
  have g3 : decide (m < -1099511627776) = false := decide_eq_false h3
  have g4 : decide (1099511627776 < m) = true := decide_eq_true (by omega)
  go_enter Try.func9, Try.ntmps9
  go_wp2_with fail
  refine (live5 _).mono ?_
  rintro e w2 ⟨rfl, hb2⟩
  go_wp2_with fail
  go_ret
  exact ⟨rfl, hb2⟩

set_option maxRecDepth 100000 in
theorem main (W : World) (a0 : Option Addr) (n0 c0 : Nat) (xs : List Int) (hx : Row W a0 n0 xs) (hc0 : n0 ≤ c0) (hn0 : n0 ≤ 200) (k m : Int) (k0 : -1099511627776 ≤ k) (k1 : k ≤ 1099511627776) (m0 : -1099511627776 ≤ m) (m1 : m ≤ 1099511627776) :
    Calls Try.prog 9 #[.slice a0 n0 c0, .int .i64 k, .int .i64 m] W fun e W' => e = .returned (.bool true) ∧ Below W.heap.size W W' := by
  have g0 : decide (200 < (n0 : Int)) = false := decide_eq_false (by omega)
  have g1 : decide (k < -1099511627776) = false := decide_eq_false (by omega)
  have g2 : decide (1099511627776 < k) = false := decide_eq_false (by omega)
  have g3 : decide (m < -1099511627776) = false := decide_eq_false (by omega)
  have g4 : decide (1099511627776 < m) = false := decide_eq_false (by omega)
  have HX := Lib.hid hx
  have HSUM := Lib.hid (turn_sum xs n0 k m hx.len)
  have HREV := Lib.hid (revrev xs)
  have hB : Below W.heap.size W W := Below.refl _ _
  clear hx
  go_enter Try.func9, Try.ntmps9
  go_wp2_with fail
  refine (c_turn HX.out (by omega) (by omega)).mono ?_
  rintro e w1 ⟨p1, d1, rfl, r, b1⟩
  have R1 := Lib.hid r; clear r; have HX := Lib.hid (HX.out.below b1); have hB := hB.trans (b1.mono hB.size); clear b1
  go_wp2_with fail
  refine (c_rev HX.out).mono ?_
  rintro e w1 ⟨p2, d2, rfl, r, b1⟩
  have R2 := Lib.hid r; clear r; have HX := Lib.hid (HX.out.below b1); have R1 := Lib.hid (R1.out.below b1); have hB := hB.trans (b1.mono hB.size); clear b1
  go_wp2_with fail
  refine (c_rrev HX.out).mono ?_
  rintro e w1 ⟨p3, d3, rfl, r, b1⟩
  have R3 := Lib.hid r; clear r; have HX := Lib.hid (HX.out.below b1); have R1 := Lib.hid (R1.out.below b1); have R2 := Lib.hid (R2.out.below b1); have hB := hB.trans (b1.mono hB.size); clear b1
  go_wp2_with fail
  refine (c_same R2.out R3.out).mono ?_
  rintro e w1 ⟨rfl, b1⟩
  clear R2 R3; have HX := Lib.hid (HX.out.below b1); have R1 := Lib.hid (R1.out.below b1); have hB := hB.trans (b1.mono hB.size); clear b1
  go_wp2_with fail
  refine (c_rturn HX.out hc0 (by omega) (by omega)).mono ?_
  rintro e w1 ⟨p2, d2, rfl, r, b1⟩
  have R2 := Lib.hid r; clear r; have HX := Lib.hid (HX.out.below b1); have R1 := Lib.hid (R1.out.below b1); have hB := hB.trans (b1.mono hB.size); clear b1
  go_wp2_with fail
  refine (c_same R1.out R2.out).mono ?_
  rintro e w1 ⟨rfl, b1⟩
  clear R2; have HX := Lib.hid (HX.out.below b1); have R1 := Lib.hid (R1.out.below b1); have hB := hB.trans (b1.mono hB.size); clear b1
  go_wp2_with fail
  refine (c_rev HX.out).mono ?_
  rintro e w1 ⟨p2, d2, rfl, r, b1⟩
  have R2 := Lib.hid r; clear r; have HX := Lib.hid (HX.out.below b1); have R1 := Lib.hid (R1.out.below b1); have hB := hB.trans (b1.mono hB.size); clear b1
  go_wp2_with fail
  refine (c_rev R2.out).mono ?_
  rintro e w1 ⟨p3, d3, rfl, r, b1⟩
  rw [HREV.out] at r
  have R3 := Lib.hid r; clear r; have HX := Lib.hid (HX.out.below b1); have R1 := Lib.hid (R1.out.below b1); have hB := hB.trans (b1.mono hB.size); clear b1
  clear R2
  go_wp2_with fail
  refine (c_rred HX.out).mono ?_
  rintro e w1 ⟨p2, d2, rfl, r, b1⟩
  have R2 := Lib.hid r; clear r; have HX := Lib.hid (HX.out.below b1); have R1 := Lib.hid (R1.out.below b1); have R3 := Lib.hid (R3.out.below b1); have hB := hB.trans (b1.mono hB.size); clear b1
  go_wp2_with fail
  refine (c_same R3.out R2.out).mono ?_
  rintro e w1 ⟨rfl, b1⟩
  clear R2 R3; have HX := Lib.hid (HX.out.below b1); have R1 := Lib.hid (R1.out.below b1); have hB := hB.trans (b1.mono hB.size); clear b1
  go_wp2_with fail
  refine (c_turn R1.out (by omega) (by omega)).mono ?_
  rintro e w1 ⟨p2, d2, rfl, r, b1⟩
  rw [HSUM.out] at r
  have R2 := Lib.hid r; clear r; have HX := Lib.hid (HX.out.below b1); have R1 := Lib.hid (R1.out.below b1); have hB := hB.trans (b1.mono hB.size); clear b1
  go_wp2_with fail
  refine (c_turn HX.out (by omega) (by omega)).mono ?_
  rintro e w1 ⟨p3, d3, rfl, r, b1⟩
  have R3 := Lib.hid r; clear r; have HX := Lib.hid (HX.out.below b1); have R2 := Lib.hid (R2.out.below b1); have hB := hB.trans (b1.mono hB.size); clear b1
  go_wp2_with fail
  refine (c_same R2.out R3.out).mono ?_
  rintro e w1 ⟨rfl, b1⟩
  clear R2 R3; have HX := Lib.hid (HX.out.below b1); have hB := hB.trans (b1.mono hB.size); clear b1
  go_wp2_with fail
  refine (live5 _).mono ?_
  rintro e w1 ⟨rfl, b1⟩
  have HX := Lib.hid (HX.out.below b1); have hB := hB.trans (b1.mono hB.size); clear b1
  go_wp2_with fail
  go_ret
  exact ⟨rfl, hB⟩

theorem walk (W : World) (a0 : Option Addr) (n0 c0 : Nat) (w0 : IsRow .u64 W a0 n0 c0) (k : Int) (w1 : -9223372036854775808 ≤ k ∧ k ≤ 9223372036854775807) (m : Int) (w2 : -9223372036854775808 ≤ m ∧ m ≤ 9223372036854775807) :
    Calls Try.prog 9 #[.slice a0 n0 c0, .int .i64 k, .int .i64 m] W fun e W' => e = .returned (.bool true) ∧ Below W.heap.size W W' := by
  by_cases h : 200 < n0 ∨ k < -1099511627776 ∨ 1099511627776 < k ∨ m < -1099511627776 ∨ 1099511627776 < m
  · exact odd W a0 n0 c0 k m h
  · obtain ⟨xs, hx⟩ := Row.of_isRow w0 (by omega)
    obtain ⟨_, _, hc, _⟩ := w0
    exact main W a0 n0 c0 xs hx hc (by omega) k m (by omega) (by omega) (by omega) (by omega)
end vecTurns
end Go.Proofs.Yteimfmenbeicfaa
