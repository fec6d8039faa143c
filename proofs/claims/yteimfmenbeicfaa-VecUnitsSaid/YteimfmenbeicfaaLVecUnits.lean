/- VecUnits: a row with a 1 at a place. -/
import Derived.Test.YteimfmenbeicfaaUnit
import Derived.Test.YteimfmenbeicfaaLive5
namespace Go.Proofs.Yteimfmenbeicfaa
open Go.ChangeShapes Go.WideShapes Go.ChangeAt Go.RowKit
set_option linter.unusedVariables false
namespace vecUnits
theorem c_unit (n k : Nat) (w : World) (hn : n ≤ 300) (hk : k < n) : Calls Try.prog 47 #[.int .i64 n, .int .i64 k] w (GivesOk w n (unitl n k)) :=
  (vec_unit n k w (by omega) hk).mono fun e w' ⟨he, hq, hb⟩ => ⟨_, _, he, Row.of_at hq (unitl_wf n k) (unitl_len n k) (by omega), hb⟩

set_option maxRecDepth 100000 in
theorem odd (W : World) (a0 : Option Addr) (n0 c0 : Nat) (n : Int) (k : Int) (h : n < 1 ∨ 300 < n ∨ k < 0 ∨ n ≤ k ∨ 300 < n0) :
    Calls Try.prog 10 #[.slice a0 n0 c0, .int .i64 n, .int .i64 k] W fun e W' => e = .returned (.bool true) ∧ Below W.heap.size W W' := by
  by_cases h1 : 300 < n ∧ n ≤ 16777216
  · have g1 : decide (300 < n) = true := decide_eq_true (by omega)
    have g2 : decide (n ≤ 16777216) = true := decide_eq_true (by omega)
    go_enter Try.func10, Try.ntmps10
    go_wp2_with fail
    refine (live5 _).mono ?_
    rintro e w2 ⟨rfl, hb2⟩
    go_wp2_with fail
    go_ret
    exact ⟨rfl, hb2⟩
  by_cases h2 : 300 < n0 ∧ 300 < n
  · have g1 : decide (300 < n) = true := decide_eq_true (by omega)
    have g2 : decide (n ≤ 16777216) = false := decide_eq_false (by omega)
    have g3 : decide (300 < (n0 : Int)) = true := decide_eq_true (by omega)
    go_enter Try.func10, Try.ntmps10
    go_wp2_with fail
    refine (live5 _).mono ?_
    rintro e w2 ⟨rfl, hb2⟩
    go_wp2_with fail
    go_ret
    exact ⟨rfl, hb2⟩
  by_cases h3 : 300 < n0
  · have g1 : decide (300 < n) = false := decide_eq_false (by omega)
    have g3 : decide (300 < (n0 : Int)) = true := decide_eq_true (by omega)
    go_enter Try.func10, Try.ntmps10
    go_wp2_with fail
    refine (live5 _).mono ?_
    rintro e w2 ⟨rfl, hb2⟩
    go_wp2_with fail
    go_ret
    exact ⟨rfl, hb2⟩
  have g3 : decide (300 < (n0 : Int)) = false := decide_eq_false (by omega)
  have N := Lib.hid (vec_unit_no n k W (by omega))
  by_cases h4 : n < 1
  · have g1 : decide (300 < n) = false := decide_eq_false (by omega)
    have g4 : decide (n < 1) = true := decide_eq_true (by omega)
    go_enter Try.func10, Try.ntmps10
    go_wp2_with fail
    refine N.out.mono ?_
    rintro e w1 ⟨rfl, rfl⟩
    go_wp2_with fail
    refine (live5 _).mono ?_
    rintro e w2 ⟨rfl, hb2⟩
    go_wp2_with fail
    go_ret
    exact ⟨rfl, hb2⟩
  have g4 : decide (n < 1) = false := decide_eq_false (by omega)
  by_cases h5 : 16777216 < n
  · have g1 : decide (300 < n) = true := decide_eq_true (by omega)
    have g2 : decide (n ≤ 16777216) = false := decide_eq_false (by omega)
    have g5 : decide (16777216 < n) = true := decide_eq_true (by omega)
    go_enter Try.func10, Try.ntmps10
    go_wp2_with fail
    refine N.out.mono ?_
    rintro e w1 ⟨rfl, rfl⟩
    go_wp2_with fail
    refine (live5 _).mono ?_
    rintro e w2 ⟨rfl, hb2⟩
    go_wp2_with fail
    go_ret
    exact ⟨rfl, hb2⟩
  have g5 : decide (16777216 < n) = false := decide_eq_false (by omega)
  have g1 : decide (300 < n) = false := decide_eq_false (by omega)
  by_cases h6 : k < 0
  · have g6 : decide (k < 0) = true := decide_eq_true (by omega)
    go_enter Try.func10, Try.ntmps10
    go_wp2_with fail
    refine N.out.mono ?_
    rintro e w1 ⟨rfl, rfl⟩
    go_wp2_with fail
    refine (live5 _).mono ?_
    rintro e w2 ⟨rfl, hb2⟩
    go_wp2_with fail
    go_ret
    exact ⟨rfl, hb2⟩
  have g6 : decide (k < 0) = false := decide_eq_false (by omega)
  have g7 : decide (n ≤ k) = true := decide_eq_true (by omega)
  go_enter Try.func10, Try.ntmps10
  go_wp2_with fail
  refine N.out.mono ?_
  rintro e w1 ⟨rfl, rfl⟩
  go_wp2_with fail
  refine (live5 _).mono ?_
  rintro e w2 ⟨rfl, hb2⟩
  go_wp2_with fail
  go_ret
  exact ⟨rfl, hb2⟩

set_option maxRecDepth 100000 in
theorem main (W : World) (a0 : Option Addr) (n0 c0 : Nat) (xs : List Int) (hx : Row W a0 n0 xs) (hn0 : n0 ≤ 300) (n k : Nat) (hn : n ≤ 300) (hk : k < n) :
    Calls Try.prog 10 #[.slice a0 n0 c0, .int .i64 n, .int .i64 k] W fun e W' => e = .returned (.bool true) ∧ Below W.heap.size W W' := by
  have g3 : decide (300 < (n0 : Int)) = false := decide_eq_false (by omega)
  have g4 : decide ((n : Int) < 1) = false := decide_eq_false (by omega)
  have g5 : decide (16777216 < (n : Int)) = false := decide_eq_false (by omega)
  have g1 : decide (300 < (n : Int)) = false := decide_eq_false (by omega)
  have g6 : decide ((k : Int) < 0) = false := decide_eq_false (by omega)
  have g7 : decide ((n : Int) ≤ (k : Int)) = false := decide_eq_false (by omega)
  have U := Lib.hid (c_unit n k W hn hk)
  have HX := Lib.hid hx
  clear hx
  have hB : Below W.heap.size W W := Below.refl _ _
  go_enter Try.func10, Try.ntmps10
  go_wp2_with fail
  refine U.out.mono ?_
  rintro e w1 ⟨p1, d1, rfl, r, b1⟩
  have R1 := Lib.hid r; clear r; have HX := Lib.hid (HX.out.below b1); have hB := hB.trans (b1.mono hB.size); clear b1
  have hq : ((n : Int) != (n : Int)) = false := by simp
  go_wp2_with fail
  go_loopw [9] (fun i wr => ∃ j : Nat, j ≤ n ∧ i = .int .i64 j ∧ Hid (Row wr a0 n0 xs) ∧ Hid (Row wr p1 n (unitl n k)) ∧ Below W.heap.size W wr) (fun i _ => n - (intOf i).toNat)
  case atStart => exact ⟨0, Nat.zero_le _, rfl, HX, R1, hB⟩
  case round =>
    clear HX R1 hB
    obtain ⟨j, hj, rfl, HX, R1, hB⟩ := hrel
    by_cases hlt : j < n
    · obtain ⟨b, off, rfl, hb, hc, _, _⟩ := R1.out.cell hlt
      rw [unitl_at n k j hlt] at hc
      by_cases hjk : j = k
      · rw [if_pos hjk] at hc
        have hq1 : ((j : Int) == (k : Int)) = true := by simp; omega
        clear hjk
        go_wp2_with fail
        go_roundw
        case rel => exact ⟨j + 1, by omega, by go_num, HX, R1, hB⟩
        case measure => (first | (simp [intOf]; done) | (simp [intOf]; omega) | (simp only [intOf]; omega))
      · rw [if_neg hjk] at hc
        have hq1 : ((j : Int) == (k : Int)) = false := by simp; omega
        clear hjk
        go_wp2_with fail
        go_roundw
        case rel => exact ⟨j + 1, by omega, by go_num, HX, R1, hB⟩
        case measure => (first | (simp [intOf]; done) | (simp [intOf]; omega) | (simp only [intOf]; omega))
    · obtain rfl : j = n := by omega
      by_cases he : n0 = j
      · subst he
        have hD := Lib.hid (c_dot (c := c0) (d := d1) HX.out R1.out)
        obtain ⟨b, off, rfl, hb, hc, x0, x1⟩ := HX.out.cell hk
        rw [dotp_unit xs _ k HX.out.len hk] at hD
        generalize xs.getD k 0 = x at *
        go_wp2_with fail
        refine hD.out.mono ?_
        rintro e w2 ⟨rfl, b1⟩
        have hc2 : w2.cell? ⟨b, off + k, none⟩ = some (.int .u64 x) := (b1.cell (p := ⟨b, off + k, none⟩) hb).trans hc
        have hB2 : Below W.heap.size W w2 := hB.trans (b1.mono hB.size)
        clear hc hB hD
        go_wp2_with (go_at_call 25; (with_reducible refine (r2_red _ _ x0 x1).mono ?_); rintro e w' ⟨rfl, rfl⟩)
        refine (live5 _).mono ?_
        rintro e w3 ⟨rfl, b3⟩
        go_wp2_with fail
        go_ret
        exact ⟨rfl, hB2.trans (b3.mono hB2.size)⟩
      · have hD := Lib.hid (vec_dot_no a0 p1 n0 j c0 d1 wr he)
        have hq1 : ((n0 : Int) != (j : Int)) = true := by simp; omega
        clear he
        go_wp2_with fail
        refine hD.out.mono ?_
        rintro e w2 ⟨rfl, rfl⟩
        go_wp2_with fail
        refine (live5 _).mono ?_
        rintro e w3 ⟨rfl, b3⟩
        go_wp2_with fail
        go_ret
        exact ⟨rfl, hB.trans (b3.mono hB.size)⟩

theorem walk (W : World) (a0 : Option Addr) (n0 c0 : Nat) (w0 : IsRow .u64 W a0 n0 c0) (n : Int) (w1 : -9223372036854775808 ≤ n ∧ n ≤ 9223372036854775807) (k : Int) (w2 : -9223372036854775808 ≤ k ∧ k ≤ 9223372036854775807) :
    Calls Try.prog 10 #[.slice a0 n0 c0, .int .i64 n, .int .i64 k] W fun e W' => e = .returned (.bool true) ∧ Below W.heap.size W W' := by
  by_cases h : n < 1 ∨ 300 < n ∨ k < 0 ∨ n ≤ k ∨ 300 < n0
  · exact odd W a0 n0 c0 n k h
  · obtain ⟨m, rfl⟩ : ∃ m : Nat, n = m := ⟨n.toNat, by omega⟩
    obtain ⟨j, rfl⟩ : ∃ j : Nat, k = j := ⟨k.toNat, by omega⟩
    obtain ⟨xs, hx⟩ := Row.of_isRow w0 (by omega)
    exact main W a0 n0 c0 xs hx (by omega) m j (by omega) (by omega)
end vecUnits
end Go.Proofs.Yteimfmenbeicfaa
