/- Package small: Do. -/
import Derived.Test.YtjiedfncamdojaaSmall7
namespace Go.Proofs.Ytjiedfncamdojaa
open Go.ChangeShapes Go.WideShapes Go.ChangeAt Go.RowKit
set_option linter.unusedVariables false
theorem r10_has (n : Int) (w : World) : Calls Try.prog 42 #[.int .i64 n] w fun e w' => e = .returned (.bool (few n)) ∧ w = w' := by
  by_cases h1 : 1 ≤ n
  · by_cases h2 : n ≤ 5
    · have HD := Lib.hid (show few n = true from decide_eq_true ⟨h1, h2⟩)
      have d1 : decide (1 ≤ n) = true := decide_eq_true h1
      have d2 : decide (n ≤ 5) = true := decide_eq_true h2
      go_enter Try.func42, Try.ntmps42
      go_wp2_with fail
      go_ret
      exact ⟨ret_bool HD.out.symm, rfl⟩
    · have HD := Lib.hid (show few n = false from decide_eq_false (by omega))
      have d1 : decide (1 ≤ n) = true := decide_eq_true h1
      have d2 : decide (n ≤ 5) = false := decide_eq_false h2
      go_enter Try.func42, Try.ntmps42
      go_wp2_with fail
      go_ret
      exact ⟨ret_bool HD.out.symm, rfl⟩
  · have HD := Lib.hid (show few n = false from decide_eq_false (by omega))
    have d1 : decide (1 ≤ n) = false := decide_eq_false h1
    go_enter Try.func42, Try.ntmps42
    go_wp2_with fail
    go_ret
    exact ⟨ret_bool HD.out.symm, rfl⟩
theorem few_ok {n : Nat} (h : few n = true) : 1 ≤ n ∧ n ≤ 5 := by
  have := of_decide_eq_true h
  omega
set_option maxRecDepth 100000 in
theorem small_do (n : Nat) (p : Option Addr) (c : Nat) (dir : Int) (xs : List Int) (W : World) (hr : Row W p n xs) (hf : few n = true) (hd : dir = 0 ∨ dir = 1) :
    Calls Try.prog 40 #[.slice p n c, .int .i64 dir] W (GivesOk W n (horl (rdir n dir) xs n)) := by
  obtain ⟨h1, h5⟩ := few_ok hf
  have RD := Lib.hid (c_redown p n c xs W hr)
  have T := Lib.hid (fun (w : World) (B : Nat) (h : RowAt w B 24 (redl xs)) => small_tr n B n dir xs w hr.len h1 h5 hd h)
  have H2 := fun w => small_has n w
  rw [hf] at H2
  have H2 := Lib.hid H2
  have HW := Lib.hid (horl_wf (rdir n dir) xs n)
  have HL := Lib.hid (horl_len (rdir n dir) xs n)
  generalize horl (rdir n dir) xs n = ys at *
  clear hr hf
  rcases hd with rfl | rfl
  all_goals
    go_enter Try.func40, Try.ntmps40
    go_wp2_with fail
    refine (H2.out _).mono ?_
    rintro e w1 ⟨rfl, rfl⟩
    go_wp2_with fail
    refine RD.out.mono ?_
    rintro e w1 ⟨rfl, hq, b1⟩
    have HQ := Lib.hid hq
    have HB := Lib.hid b1
    clear hq b1
    go_wp2_with fail
    refine (T.out _ _ HQ.out).mono ?_
    rintro e w2 ⟨rfl, i2⟩
    have HI := Lib.hid i2
    clear i2
    go_wp2_with fail
    go_ret2
    exact ⟨_, _, rfl, Row.of_at HI.out.r HW.out HL.out (by omega), HB.out.trans (HI.out.b.b _ (Nat.le_refl _) HB.out.size)⟩
theorem sdo_no1 (p : Option Addr) (n c : Nat) (dir : Int) (W : World) (hn : n ≤ 20) (hd : ¬ (dir = 0 ∨ dir = 1)) : Calls Try.prog 40 #[.slice p n c, .int .i64 dir] W fun e w' => e = .returned (.tuple #[.slice none 0 0, .int .i64 2]) ∧ W = w' := by
  have d0 : (dir != 0) = true := by simp; omega
  have d1 : (dir != 1) = true := by simp; omega
  go_enter Try.func40, Try.ntmps40
  go_wp2_with fail
  go_ret2
  exact ⟨rfl, rfl⟩
theorem sdo_no2 (p : Option Addr) (n c : Nat) (dir : Int) (W : World) (hn : n ≤ 20) (hd : dir = 0 ∨ dir = 1) (h : few n = false) : Calls Try.prog 40 #[.slice p n c, .int .i64 dir] W fun e w' => e = .returned (.tuple #[.slice none 0 0, .int .i64 5]) ∧ W = w' := by
  have H := fun w => small_has (n : Int) w
  rw [h] at H
  have H := Lib.hid H
  clear h
  rcases hd with rfl | rfl
  all_goals
    go_enter Try.func40, Try.ntmps40
    go_wp2_with fail
    refine (H.out _).mono ?_
    rintro e w1 ⟨rfl, rfl⟩
    go_wp2_with fail
    go_ret2
    exact ⟨rfl, rfl⟩
end Go.Proofs.Ytjiedfncamdojaa
