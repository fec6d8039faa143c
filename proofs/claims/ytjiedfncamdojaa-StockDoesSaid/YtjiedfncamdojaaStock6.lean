/- Package stock: Do; Stockham's way is the transform. -/
import Derived.Test.YtjiedfncamdojaaStock5
import Derived.Test.YtjiedfncamdojaaLStockWith
import Derived.Test.YtjiedfncamdojaaFft
import Derived.Test.YtjiedfncamdojaaDft3
import Derived.Test.YtjiedfncamdojaaLDftBack
namespace Go.Proofs.Ytjiedfncamdojaa
open Go.ChangeShapes Go.WideShapes Go.ChangeAt Go.RowKit
set_option linter.unusedVariables false
theorem hasb_pow {n a : Nat} (h : n = 2 ^ a) (hn : n ≤ 130) : hasb n = true := by
  have h8 : a < 8 := Nat.lt_of_not_le fun h8 => by
    have := Nat.pow_le_pow_right (show 0 < 2 by omega) h8
    omega
  have : a = 0 ∨ a = 1 ∨ a = 2 ∨ a = 3 ∨ a = 4 ∨ a = 5 ∨ a = 6 ∨ a = 7 := by omega
  subst h
  rcases this with rfl | rfl | rfl | rfl | rfl | rfl | rfl | rfl <;> decide +kernel
theorem chk_pow {n a : Nat} {dir : Int} (h : n = 2 ^ a) (hn : n ≤ 130) (hd : dir = 0 ∨ dir = 1) : chk n dir = 0 := by
  rw [chk_dir _ _ hd, if_neg (by rw [hasb_pow h hn]; decide), if_neg (by omega)]
theorem stock_horl {n a : Nat} {dir : Int} (xs : List Int) (hl : xs.length = n) (h : n = 2 ^ a) (hn : n ≤ 130) (hd : dir = 0 ∨ dir = 1) : passes xs (powl (rdir n dir) n) n a = horl (rdir n dir) xs n := by
  have I := dftBack.inv2_dir n dir (chk_pow h hn hd)
  have hp := Nat.pow_pos (n := a) (show 0 < 2 by omega)
  refine stockham xs hl h I.rn fun ha => half_root I.rn I.ro ?_ (by omega)
  obtain ⟨b, rfl⟩ : ∃ b, a = b + 1 := ⟨a - 1, by omega⟩
  rw [h, Nat.pow_succ]
  omega
set_option maxRecDepth 100000 in
theorem stock_do (n a : Nat) (p : Option Addr) (c : Nat) (dir : Int) (xs : List Int) (W : World) (hr : Row W p n xs) (h : n = 2 ^ a) (hn : n ≤ 130) (hd : dir = 0 ∨ dir = 1) :
    Calls Try.prog 56 #[.slice p n c, .int .i64 dir] W (GivesOk W n (horl (rdir n dir) xs n)) := by
  have pn : hasp n = true := by unfold hasp; rw [decide_eq_true (by omega : (n : Int) ≤ 16777216), Bool.true_and]; exact pwb_yes (by have := Nat.pow_pos (n := a) (show 0 < 2 by omega); omega) ⟨a, by rw [Int.toNat_natCast, h]⟩
  have H := fun w => stock_has (n : Int) w
  rw [pn] at H
  have H := Lib.hid H
  have r0 := rdir_lo n dir
  have r1 := rdir_hi n dir
  have PW := Lib.hid (fun w => root_powers (rdir n dir) n w r0 (by omega) (by omega))
  have WI := Lib.hid (fun (q : Option Addr) (d : Nat) (w : World) (h1 : Row w p n xs) (h2 : Row w q n (powl (rdir n dir) n)) => stock_with a n p q c d xs (powl (rdir n dir) n) w h (by omega) h1 h2)
  have E := stock_horl xs hr.len h hn hd
  have HP := Lib.hid (powl_wf (rdir n dir) n)
  have HL := Lib.hid (powl_len (rdir n dir) n)
  rw [← E]
  have HX := Lib.hid hr
  have hB : Below W.heap.size W W := Below.refl _ _
  rcases hd with rfl | rfl
  · have R := Lib.hid (show ∀ w, Calls Try.prog 75 #[.int .i64 n] w fun e w' => e = .returned (.tuple #[.int .u64 (rdir n 0), .int .i64 0]) ∧ Below w.heap.size w w' from fun w => root_root n w (by omega) (by omega) (hasb_pow h hn))
    clear hr h pn E
    generalize powl (rdir n 0) n = ws at *
    generalize passes xs ws n a = ys at *
    generalize rdir n 0 = r at *
    go_enter Try.func56, Try.ntmps56
    go_wp2_with fail
    refine (H.out _).mono ?_
    rintro e w1 ⟨rfl, rfl⟩
    go_wp2_with fail
    refine (R.out _).mono ?_
    rintro e w1 ⟨rfl, b1⟩
    have HX := Lib.hid (HX.out.below b1); have hB := hB.trans (b1.mono hB.size); clear b1
    go_wp2_with fail
    refine (PW.out _).mono ?_
    rintro e w1 ⟨rfl, hq, b1⟩
    have HQ := Lib.hid (Row.of_at hq HP.out HL.out (by omega))
    clear hq
    have HX := Lib.hid (HX.out.below b1); have hB := hB.trans (b1.mono hB.size); clear b1
    go_wp2_with fail
    refine (WI.out _ _ _ HX.out HQ.out).mono ?_
    rintro e w1 ⟨q, d, rfl, hr, b1⟩
    have hr := Lib.hid hr
    have hB := hB.trans (b1.mono hB.size); clear b1
    go_wp2_with fail
    go_ret2
    exact ⟨_, _, rfl, hr.out, hB⟩
  · have R := Lib.hid (fun w => root_root n w (by omega) (by omega) (hasb_pow h hn))
    have V := Lib.hid (show ∀ w, Calls Try.prog 62 #[.int .u64 (rt n)] w fun e w' => e = .returned (.int .u64 (rdir n 1)) ∧ Below w.heap.size w w' from fun w => gold_inv (rt n) w (rt_lo n) (by have := rt_hi n; omega))
    clear hr h pn E
    generalize powl (rdir n 1) n = ws at *
    generalize passes xs ws n a = ys at *
    generalize rdir n 1 = r at *
    generalize rt n = rr at *
    go_enter Try.func56, Try.ntmps56
    go_wp2_with fail
    refine (H.out _).mono ?_
    rintro e w1 ⟨rfl, rfl⟩
    go_wp2_with fail
    refine (R.out _).mono ?_
    rintro e w1 ⟨rfl, b1⟩
    have HX := Lib.hid (HX.out.below b1); have hB := hB.trans (b1.mono hB.size); clear b1
    go_wp2_with fail
    refine (V.out _).mono ?_
    rintro e w1 ⟨rfl, b1⟩
    have HX := Lib.hid (HX.out.below b1); have hB := hB.trans (b1.mono hB.size); clear b1
    go_wp2_with fail
    refine (PW.out _).mono ?_
    rintro e w1 ⟨rfl, hq, b1⟩
    have HQ := Lib.hid (Row.of_at hq HP.out HL.out (by omega))
    clear hq
    have HX := Lib.hid (HX.out.below b1); have hB := hB.trans (b1.mono hB.size); clear b1
    go_wp2_with fail
    refine (WI.out _ _ _ HX.out HQ.out).mono ?_
    rintro e w1 ⟨q, d, rfl, hr, b1⟩
    have hr := Lib.hid hr
    have hB := hB.trans (b1.mono hB.size); clear b1
    go_wp2_with fail
    go_ret2
    exact ⟨_, _, rfl, hr.out, hB⟩
theorem do_no1 (p : Option Addr) (n c : Nat) (dir : Int) (W : World) (hn : n ≤ 130) (hd : ¬ (dir = 0 ∨ dir = 1)) : Calls Try.prog 56 #[.slice p n c, .int .i64 dir] W fun e w' => e = .returned (.tuple #[.slice none 0 0, .int .i64 2]) ∧ W = w' := by
  have d0 : (dir != 0) = true := by simp; omega
  have d1 : (dir != 1) = true := by simp; omega
  go_enter Try.func56, Try.ntmps56
  go_wp2_with fail
  go_ret2
  exact ⟨rfl, rfl⟩
theorem do_no2 (p : Option Addr) (n c : Nat) (dir : Int) (W : World) (hn : n ≤ 130) (hd : dir = 0 ∨ dir = 1) (h : hasp n = false) : Calls Try.prog 56 #[.slice p n c, .int .i64 dir] W fun e w' => e = .returned (.tuple #[.slice none 0 0, .int .i64 4]) ∧ W = w' := by
  have H := fun w => stock_has (n : Int) w
  rw [h] at H
  have H := Lib.hid H
  clear h
  rcases hd with rfl | rfl
  all_goals
    go_enter Try.func56, Try.ntmps56
    go_wp2_with fail
    refine (H.out _).mono ?_
    rintro e w1 ⟨rfl, rfl⟩
    go_wp2_with fail
    go_ret2
    exact ⟨rfl, rfl⟩
theorem r10_dir (dir : Int) (w : World) : Calls Try.prog 43 #[.int .i64 dir] w fun e w' => e = .returned (.bool (decide (dir = 0 ∨ dir = 1))) ∧ w = w' := by
  by_cases h0 : dir = 0
  · subst h0
    go_enter Try.func43, Try.ntmps43
    go_wp2_with fail
    go_ret
    exact ⟨rfl, rfl⟩
  · by_cases h1 : dir = 1
    · subst h1
      go_enter Try.func43, Try.ntmps43
      go_wp2_with fail
      go_ret
      exact ⟨rfl, rfl⟩
    · have HD := Lib.hid (show decide (dir = 0 ∨ dir = 1) = false by simp; omega)
      have d0 : (dir == 0) = false := by simp; omega
      have d1 : (dir == 1) = false := by simp; omega
      go_enter Try.func43, Try.ntmps43
      go_wp2_with fail
      go_ret
      exact ⟨ret_bool HD.out.symm, rfl⟩
end Go.Proofs.Ytjiedfncamdojaa
