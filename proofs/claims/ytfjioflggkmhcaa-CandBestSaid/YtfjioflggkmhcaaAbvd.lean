/- The least power of two that is not below a number: package fact's and reference 3's Above. -/
import Derived.Test.YtfjioflggkmhcaaD11
namespace Go.Proofs.Ytfjioflggkmhcaa
open Go.ChangeShapes Go.WideShapes Go.ChangeAt Go.RowKit
set_option linter.unusedVariables false
/-- The least power of two that is not below n. -/
def IsAbvb (n m : Nat) : Prop := ∃ j, m = 2 ^ j ∧ n ≤ 2 ^ j ∧ ∀ i, i < j → 2 ^ i < n
theorem isAbv_uniqb {n a b : Nat} (h : IsAbvb n a) (k : IsAbvb n b) : a = b := by
  obtain ⟨i, rfl, h1, h2⟩ := h
  obtain ⟨j, rfl, k1, k2⟩ := k
  rcases Nat.lt_trichotomy i j with h | h | h
  · have := k2 i h; omega
  · rw [h]
  · have := h2 j h; omega
theorem abv_nextb {n m : Nat} (h : ∃ j, m = 2 ^ j ∧ ∀ i, i < j → 2 ^ i < n) (hm : m < n) : ∃ j, 2 * m = 2 ^ j ∧ ∀ i, i < j → 2 ^ i < n := by
  obtain ⟨j, rfl, h⟩ := h
  refine ⟨j + 1, by rw [Nat.pow_succ]; omega, fun i hi => ?_⟩
  by_cases e : i = j
  · rw [e]; exact hm
  · exact h i (by omega)
theorem fact_aboveb (n : Nat) (W : World) (h1 : 1 ≤ n) (hn : n ≤ 16777216) :
    Calls Try.prog 96 #[.int .i64 n] W fun e w' => ∃ m : Nat, e = .returned (.tuple #[.int .i64 (m : Int), .int .i64 0]) ∧ IsAbvb n m ∧ W = w' := by
  have H := fun w => fact_withinb n w
  rw [decide_eq_true (by omega)] at H
  have H := Lib.hid H
  go_enter Try.func96, Try.ntmps96
  go_wp2_with fail
  refine (H.out _).mono ?_
  rintro e w1 ⟨rfl, rfl⟩
  go_wp2_with fail
  go_loopw [4] (fun v wr => ∃ m : Nat, 1 ≤ m ∧ m < 2 * n ∧ v = .int .i64 (m : Int) ∧ Hid (∃ j, m = 2 ^ j ∧ ∀ i, i < j → 2 ^ i < n) ∧ W = wr) (fun v _ => 2 * n - (intOf v).toNat)
  case atStart => refine ⟨1, by omega, by omega, rfl, Lib.hid ⟨0, rfl, fun i hi => by omega⟩, ?_⟩; first | rfl | trivial
  case round =>
    obtain ⟨m, m1, m2, rfl, HJ, rfl⟩ := hrel
    by_cases hlt : m < n
    · have HN := Lib.hid (abv_nextb HJ.out hlt)
      have hw1 : IntKind.i64.wrap ((m : Int) * 2) = ((2 * m : Nat) : Int) := by rw [IntWalk.i64_in _ (by omega)]; omega
      go_wp2_with fail
      go_roundw
      case rel => refine ⟨2 * m, by omega, by omega, by first | rfl | (rw [hw1]) | go_num, HN, ?_⟩; first | rfl | trivial
      case measure => (first | (simp [intOf]; done) | (simp [intOf]; omega) | (simp only [intOf]; omega))
    · go_wp2_with fail
      go_ret2
      obtain ⟨j, e, h⟩ := HJ.out
      exact ⟨m, rfl, ⟨j, e, by omega, h⟩, rfl⟩
theorem fact_abovenob (n : Int) (W : World) (h : ¬ (1 ≤ n ∧ n ≤ 16777216)) :
    Calls Try.prog 96 #[.int .i64 n] W fun e w' => e = .returned (.tuple #[.int .i64 0, .int .i64 3]) ∧ W = w' := by
  have H := fun w => fact_withinb n w
  rw [decide_eq_false h] at H
  have H := Lib.hid H
  go_enter Try.func96, Try.ntmps96
  go_wp2_with fail
  refine (H.out _).mono ?_
  rintro e w1 ⟨rfl, rfl⟩
  go_wp2_with fail
  go_ret2
  exact ⟨rfl, rfl⟩
theorem r3_aboveb (n : Nat) (W : World) (h1 : 1 ≤ n) (hn : n ≤ 16777216) :
    Calls Try.prog 81 #[.int .i64 n] W fun e w' => ∃ m : Nat, e = .returned (.int .i64 (m : Int)) ∧ IsAbvb n m ∧ W = w' := by
  go_enter Try.func81, Try.ntmps81
  go_wp2_with fail
  go_loopw [3] (fun v wr => ∃ m : Nat, 1 ≤ m ∧ m < 2 * n ∧ v = .int .i64 (m : Int) ∧ Hid (∃ j, m = 2 ^ j ∧ ∀ i, i < j → 2 ^ i < n) ∧ W = wr) (fun v _ => 2 * n - (intOf v).toNat)
  case atStart => refine ⟨1, by omega, by omega, rfl, Lib.hid ⟨0, rfl, fun i hi => by omega⟩, ?_⟩; first | rfl | trivial
  case round =>
    obtain ⟨m, m1, m2, rfl, HJ, rfl⟩ := hrel
    by_cases hlt : m < n
    · have HN := Lib.hid (abv_nextb HJ.out hlt)
      have hw1 : IntKind.i64.wrap (2 * (m : Int)) = ((2 * m : Nat) : Int) := by rw [IntWalk.i64_in _ (by omega)]; omega
      go_wp2_with fail
      go_roundw
      case rel => refine ⟨2 * m, by omega, by omega, by first | rfl | (rw [hw1]) | go_num, HN, ?_⟩; first | rfl | trivial
      case measure => (first | (simp [intOf]; done) | (simp [intOf]; omega) | (simp only [intOf]; omega))
    · go_wp2_with fail
      go_ret
      obtain ⟨j, e, h⟩ := HJ.out
      exact ⟨m, rfl, ⟨j, e, by omega, h⟩, rfl⟩
end Go.Proofs.Ytfjioflggkmhcaa
