/- What may be transformed: package dft's check, and the reference's. -/
import Derived.Test.YtkijiljipacfjaaDft
namespace Go.Proofs.Ytkijiljipacfjaa
open Go.ChangeShapes Go.WideShapes Go.ChangeAt Go.RowKit
set_option linter.unusedVariables false
/-- The error of what may not be transformed. -/
def chk (n dir : Int) : Int := if dir = 0 ∨ dir = 1 then (if hasb n = false then 4 else if 4096 < n then 12 else 0) else 2
theorem chk_dir (n dir : Int) (h : dir = 0 ∨ dir = 1) : chk n dir = if hasb n = false then 4 else if 4096 < n then 12 else 0 := if_pos h
theorem chk_no (n dir : Int) (h : ¬ (dir = 0 ∨ dir = 1)) : chk n dir = 2 := if_neg h
theorem dft_chk (n dir : Int) (w : World) (h0 : -9223372036854775808 ≤ n) (h1 : n ≤ 9223372036854775807) :
    Calls Try.prog 90 #[.int .i64 n, .int .i64 dir] w fun e w' => e = .returned (.int .i64 (chk n dir)) ∧ w = w' := by
  have R := root_has n w h0 h1
  by_cases d0 : dir = 0 ∨ dir = 1
  · have HC := Lib.hid (chk_dir n dir d0)
    have HD : (dir != 0 && dir != 1) = false := by rcases d0 with rfl | rfl <;> rfl
    cases hh : hasb n with
    | false =>
      rw [hh] at R HC
      have R := Lib.hid R
      rw [HC.out]
      clear hh
      rcases d0 with rfl | rfl
      all_goals
        go_enter Try.func90, Try.ntmps90
        go_wp2_with fail
        refine R.out.mono ?_
        rintro e w1 ⟨rfl, rfl⟩
        go_wp2_with fail
        go_ret
        exact ⟨rfl, rfl⟩
    | true =>
      rw [hh] at R HC
      have R := Lib.hid R
      rw [HC.out]
      clear hh
      by_cases g : 4096 < n
      · have hd : decide (4096 < n) = true := decide_eq_true g
        rw [if_neg (by decide), if_pos g]
        rcases d0 with rfl | rfl
        all_goals
          go_enter Try.func90, Try.ntmps90
          go_wp2_with fail
          refine R.out.mono ?_
          rintro e w1 ⟨rfl, rfl⟩
          go_wp2_with fail
          go_ret
          exact ⟨rfl, rfl⟩
      · have hd : decide (4096 < n) = false := decide_eq_false g
        rw [if_neg (by decide), if_neg g]
        rcases d0 with rfl | rfl
        all_goals
          go_enter Try.func90, Try.ntmps90
          go_wp2_with fail
          refine R.out.mono ?_
          rintro e w1 ⟨rfl, rfl⟩
          go_wp2_with fail
          go_ret
          exact ⟨rfl, rfl⟩
  · have e0 : (dir != 0) = true := by simp; omega
    have e1 : (dir != 1) = true := by simp; omega
    rw [chk_no n dir d0]
    clear d0 R
    go_enter Try.func90, Try.ntmps90
    go_wp2_with fail
    go_ret
    exact ⟨rfl, rfl⟩
end Go.Proofs.Ytkijiljipacfjaa
