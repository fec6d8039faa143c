/- BoundTells: turns and rounds. -/
import Derived.Test.YtlbkmheggdgfoaaBase
namespace Go.Proofs.Ytlbkmheggdgfoaa
open Go.ChangeShapes Go.WideShapes Go.ChangeAt Go.RowKit
set_option linter.unusedVariables false
namespace boundTells
theorem live41 (w : World) : Calls Try.prog 28 #[] w fun e w' => e = .returned (.bool true) ∧ Below w.heap.size w w' := by
  go_enter Try.func28, Try.ntmps28
  go_wp2
  go_ret
  exact ⟨rfl, Below.refl _ _⟩

theorem turns_no (s : Int) (w : World) (h : s < 1 ∨ 16 < s) : Calls Try.prog 25 #[.int .i64 s] w fun e w' => e = .returned (.tuple #[.int .i64 0, .int .i64 2]) ∧ w = w' := by
  rcases h with h | h
  all_goals
    go_enter Try.func25, Try.ntmps25
    go_wp2
    all_goals go_ret2
    all_goals exact ⟨rfl, rfl⟩
theorem turns_yes (s : Int) (w : World) (h : 1 ≤ s) (h1 : s ≤ 16) : Calls Try.prog 25 #[.int .i64 s] w fun e w' => e = .returned (.tuple #[.int .i64 (1200 + 4 * s), .int .i64 0]) ∧ w = w' := by
  go_enter Try.func25, Try.ntmps25
  go_wp2
  all_goals go_ret2
  all_goals exact ⟨rfl, rfl⟩
theorem is_no (s : Int) (w : World) (h : s < 1 ∨ 16 < s) : Calls Try.prog 27 #[.int .i64 s] w fun e w' => e = .returned (.bool false) ∧ w = w' := by
  rcases h with h | h
  all_goals
    go_enter Try.func27, Try.ntmps27
    go_wp2
    all_goals go_ret
    all_goals first | exact ⟨rfl, rfl⟩ | exact ⟨ret_bool (decide_eq_false (by omega)), rfl⟩ | exact ⟨ret_bool (decide_eq_true (by omega)), rfl⟩
theorem is_yes (s : Int) (w : World) (h : 1 ≤ s) (h1 : s ≤ 16) : Calls Try.prog 27 #[.int .i64 s] w fun e w' => e = .returned (.bool true) ∧ w = w' := by
  go_enter Try.func27, Try.ntmps27
  go_wp2
  all_goals go_ret
  all_goals first | exact ⟨rfl, rfl⟩ | exact ⟨ret_bool (decide_eq_false (by omega)), rfl⟩ | exact ⟨ret_bool (decide_eq_true (by omega)), rfl⟩
theorem rturns (s : Int) (w : World) (h : 1 ≤ s) (h1 : s ≤ 16) : Calls Try.prog 29 #[.int .i64 s] w fun e w' => e = .returned (.int .i64 (1200 + 4 * s)) ∧ w = w' := by
  go_enter Try.func29, Try.ntmps29
  go_wp2
  all_goals go_ret
  exact ⟨ret_i64 (by omega), rfl⟩
theorem rounds_no1 (p s c : Int) (w : World) (h : s < 1 ∨ 16 < s) : Calls Try.prog 26 #[.int .i64 p, .int .i64 s, .int .i64 c] w fun e w' => e = .returned (.tuple #[.int .i64 0, .int .i64 2]) ∧ w = w' := by
  have H := Lib.hid h
  clear h
  go_enter Try.func26, Try.ntmps26
  go_wp2_with (go_at_call 25; (with_reducible refine (turns_no _ _ H.out).mono ?_); rintro e w' ⟨rfl, rfl⟩)
  all_goals go_ret2
  all_goals exact ⟨rfl, rfl⟩
theorem rounds_no2 (p s c : Int) (w : World) (h : 1 ≤ s) (h1 : s ≤ 16) (k : p < 0 ∨ 8 < p ∨ c < 0 ∨ 8 < c) : Calls Try.prog 26 #[.int .i64 p, .int .i64 s, .int .i64 c] w fun e w' => e = .returned (.tuple #[.int .i64 0, .int .i64 2]) ∧ w = w' := by
  have c1 : p < 0 ∨ (0 ≤ p ∧ 8 < p) ∨ (0 ≤ p ∧ p ≤ 8 ∧ c < 0) ∨ (0 ≤ p ∧ p ≤ 8 ∧ 0 ≤ c ∧ 8 < c) := by omega
  clear k
  rcases c1 with a | ⟨a, a2⟩ | ⟨a, a2, a3⟩ | ⟨a, a2, a3, a4⟩
  all_goals
    go_enter Try.func26, Try.ntmps26
    go_wp2_with (go_at_call 25; (with_reducible refine (turns_yes _ _ h h1).mono ?_); rintro e w' ⟨rfl, rfl⟩)
    all_goals go_ret2
    all_goals exact ⟨rfl, rfl⟩
theorem rounds_yes (p s c : Int) (w : World) (h : 1 ≤ s) (h1 : s ≤ 16) (a : 0 ≤ p) (a2 : p ≤ 8) (a3 : 0 ≤ c) (a4 : c ≤ 8) : Calls Try.prog 26 #[.int .i64 p, .int .i64 s, .int .i64 c] w fun e w' => e = .returned (.tuple #[.int .i64 (wrap64 (wrap64 (p * (1200 + 4 * s)) + c)), .int .i64 0]) ∧ w = w' := by
  go_enter Try.func26, Try.ntmps26
  go_wp2_with (go_at_call 25; (with_reducible refine (turns_yes _ _ h h1).mono ?_); rintro e w' ⟨rfl, rfl⟩)
  all_goals go_ret2
  all_goals exact ⟨rfl, rfl⟩

theorem walk (W : World) (p : Int) (w0 : -9223372036854775808 ≤ p ∧ p ≤ 9223372036854775807) (s : Int) (w1 : -9223372036854775808 ≤ s ∧ s ≤ 9223372036854775807) (c : Int) (w2 : -9223372036854775808 ≤ c ∧ c ≤ 9223372036854775807) :
    Calls Try.prog 7 #[.int .i64 p, .int .i64 s, .int .i64 c] W fun e W' => e = .returned (.bool true) ∧ Below W.heap.size W W' := by
  clear w0 w1 w2
  have hB := Below.refl W.heap.size W
  by_cases hs : s < 1 ∨ 16 < s
  · have H := Lib.hid hs
    clear hs
    go_enter Try.func7, Try.ntmps7
    go_wp2_with (first | (go_at_call 25; (with_reducible refine (turns_no _ _ H.out).mono ?_); rintro e w' ⟨rfl, rfl⟩) | (go_at_call 26; (with_reducible refine (rounds_no1 _ _ _ _ H.out).mono ?_); rintro e w' ⟨rfl, rfl⟩) | (go_at_call 27; (with_reducible refine (is_no _ _ H.out).mono ?_); rintro e w' ⟨rfl, rfl⟩) | (go_at_call 28; (with_reducible refine (live41 _).mono ?_); rintro e w' ⟨rfl, hb⟩; replace hB := hB.trans (hb.mono hB.size); clear hb))
    go_ret
    exact ⟨rfl, hB⟩
  · have h : 1 ≤ s := by omega
    have h1 : s ≤ 16 := by omega
    clear hs
    by_cases hk : p < 0 ∨ 8 < p ∨ c < 0 ∨ 8 < c
    · have K := Lib.hid hk
      have c1 : p < 0 ∨ (0 ≤ p ∧ 8 < p) ∨ (0 ≤ p ∧ p ≤ 8 ∧ c < 0) ∨ (0 ≤ p ∧ p ≤ 8 ∧ 0 ≤ c ∧ 8 < c) := by omega
      clear hk
      rcases c1 with a | ⟨a, a2⟩ | ⟨a, a2, a3⟩ | ⟨a, a2, a3, a4⟩
      all_goals
        go_enter Try.func7, Try.ntmps7
        go_wp2_with (first | (go_at_call 25; (with_reducible refine (turns_yes _ _ h h1).mono ?_); rintro e w' ⟨rfl, rfl⟩) | (go_at_call 26; (with_reducible refine (rounds_no2 _ _ _ _ h h1 K.out).mono ?_); rintro e w' ⟨rfl, rfl⟩) | (go_at_call 27; (with_reducible refine (is_yes _ _ h h1).mono ?_); rintro e w' ⟨rfl, rfl⟩) | (go_at_call 29; (with_reducible refine (rturns _ _ h h1).mono ?_); rintro e w' ⟨rfl, rfl⟩) | (go_at_call 28; (with_reducible refine (live41 _).mono ?_); rintro e w' ⟨rfl, hb⟩; replace hB := hB.trans (hb.mono hB.size); clear hb))
        go_ret
        exact ⟨rfl, hB⟩
    · have a : 0 ≤ p := by omega
      have a2 : p ≤ 8 := by omega
      have a3 : 0 ≤ c := by omega
      have a4 : c ≤ 8 := by omega
      clear hk
      go_enter Try.func7, Try.ntmps7
      go_wp2_with (first | (go_at_call 25; (with_reducible refine (turns_yes _ _ h h1).mono ?_); rintro e w' ⟨rfl, rfl⟩) | (go_at_call 26; (with_reducible refine (rounds_yes _ _ _ _ h h1 a a2 a3 a4).mono ?_); rintro e w' ⟨rfl, rfl⟩) | (go_at_call 27; (with_reducible refine (is_yes _ _ h h1).mono ?_); rintro e w' ⟨rfl, rfl⟩) | (go_at_call 29; (with_reducible refine (rturns _ _ h h1).mono ?_); rintro e w' ⟨rfl, rfl⟩) | (go_at_call 28; (with_reducible refine (live41 _).mono ?_); rintro e w' ⟨rfl, hb⟩; replace hB := hB.trans (hb.mono hB.size); clear hb))
      go_ret
      exact ⟨rfl, hB⟩
end boundTells
end Go.Proofs.Ytlbkmheggdgfoaa
