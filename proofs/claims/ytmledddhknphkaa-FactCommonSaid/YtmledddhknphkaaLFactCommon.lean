/- FactCommon: the greatest common divisor. -/
import Derived.Test.YtmledddhknphkaaFact
namespace Go.Proofs.Ytmledddhknphkaa
open Go.ChangeShapes Go.WideShapes Go.ChangeAt Go.RowKit
set_option linter.unusedVariables false
namespace factCommon
theorem gcdz_comm (a b : Int) : gcdz b a = gcdz a b := by
  unfold gcdz
  rw [Nat.gcd_comm]
  by_cases h : a < 0 ∨ b < 0
  · rw [if_pos h, if_pos (by omega)]
  · rw [if_neg h, if_neg (by omega)]
theorem gcdz_lo (a b : Int) : 0 ≤ gcdz a b := by
  unfold gcdz
  split <;> omega
theorem gcdz_dvd (a b : Int) (h : 0 < gcdz a b) : gcdz a b ∣ a ∧ gcdz a b ∣ b := by
  by_cases hn : a < 0 ∨ b < 0
  · rw [gcdz_neg a b hn] at h; omega
  · obtain ⟨x, rfl⟩ : ∃ x : Nat, a = x := ⟨a.toNat, by omega⟩
    obtain ⟨y, rfl⟩ : ∃ y : Nat, b = y := ⟨b.toNat, by omega⟩
    rw [gcdz_nat]
    exact ⟨Int.ofNat_dvd.2 (Nat.gcd_dvd_left x y), Int.ofNat_dvd.2 (Nat.gcd_dvd_right x y)⟩
theorem gcdz_hi (a b : Int) (ha : a ≤ 9223372036854775807) (hb : b ≤ 9223372036854775807) : gcdz a b ≤ 9223372036854775807 := by
  by_cases h : 0 < gcdz a b
  · obtain ⟨p, q⟩ := gcdz_dvd a b h
    by_cases hn : a < 0 ∨ b < 0
    · rw [gcdz_neg a b hn]; omega
    · by_cases a0 : a = 0
      · by_cases b0 : b = 0
        · subst a0 b0; exact absurd h (by decide)
        · have := Int.le_of_dvd (by omega) q; omega
      · have := Int.le_of_dvd (by omega) p; omega
  · omega

set_option maxRecDepth 100000 in
theorem walk (W : World) (a : Int) (w0 : -9223372036854775808 ≤ a ∧ a ≤ 9223372036854775807) (b : Int) (w1 : -9223372036854775808 ≤ b ∧ b ≤ 9223372036854775807) :
    Calls Try.prog 12 #[.int .i64 a, .int .i64 b] W fun e W' => e = .returned (.bool true) ∧ Below W.heap.size W W' := by
  obtain ⟨a0, a1⟩ := w0
  obtain ⟨b0, b1⟩ := w1
  have G1 := Lib.hid (fact_gcd a b W a1 b1)
  have G2 := Lib.hid (fun w => r3_gcd a b w a1 b1)
  have G3 := fun w => fact_gcd b a w b1 a1
  rw [gcdz_comm a b] at G3
  have G3 := Lib.hid G3
  have hlo := gcdz_lo a b
  have hhi := gcdz_hi a b a1 b1
  have hD := gcdz_dvd a b
  generalize gcdz a b = g at *
  by_cases hg : 0 < g
  · obtain ⟨da, db⟩ := hD hg
    have ea : (a % g == 0) = true := by simpa using Int.emod_eq_zero_of_dvd da
    have eb : (b % g == 0) = true := by simpa using Int.emod_eq_zero_of_dvd db
    have ta : (a.tmod g == 0) = true := by simpa using Int.tmod_eq_zero_of_dvd da
    have tb : (b.tmod g == 0) = true := by simpa using Int.tmod_eq_zero_of_dvd db
    have gz : (g == 0) = false := by simp; omega
    have gl : decide (g ≤ 0) = false := decide_eq_false (by omega)
    clear hD da db
    go_enter Try.func12, Try.ntmps12
    go_wp2_with fail
    refine G1.out.mono ?_
    rintro e w1 ⟨rfl, c1⟩
    go_wp2_with fail
    refine (G2.out _).mono ?_
    rintro e w2 ⟨rfl, c2⟩
    have hB2 := c1.trans (c2.mono c1.size)
    go_wp2_with fail
    refine (G3.out _).mono ?_
    rintro e w3 ⟨rfl, c3⟩
    have hB3 := hB2.trans (c3.mono hB2.size)
    go_wp2_with fail
    refine (live3 _).mono ?_
    rintro e w4 ⟨rfl, c4⟩
    go_wp2_with fail
    go_ret
    exact ⟨rfl, hB3.trans (c4.mono hB3.size)⟩
  · have gl : decide (g ≤ 0) = true := decide_eq_true (by omega)
    clear hD
    go_enter Try.func12, Try.ntmps12
    go_wp2_with fail
    refine G1.out.mono ?_
    rintro e w1 ⟨rfl, c1⟩
    go_wp2_with fail
    refine (G2.out _).mono ?_
    rintro e w2 ⟨rfl, c2⟩
    have hB2 := c1.trans (c2.mono c1.size)
    go_wp2_with fail
    refine (G3.out _).mono ?_
    rintro e w3 ⟨rfl, c3⟩
    have hB3 := hB2.trans (c3.mono hB2.size)
    go_wp2_with fail
    refine (live3 _).mono ?_
    rintro e w4 ⟨rfl, c4⟩
    go_wp2_with fail
    go_ret
    exact ⟨rfl, hB3.trans (c4.mono hB3.size)⟩
end factCommon
end Go.Proofs.Ytmledddhknphkaa
