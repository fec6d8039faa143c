/- SmallDoes: it is the transform. -/
import Derived.Test.YtjiedfncamdojaaSmall8
namespace Go.Proofs.Ytjiedfncamdojaa
open Go.ChangeShapes Go.WideShapes Go.ChangeAt Go.RowKit
set_option linter.unusedVariables false
namespace smallDoes
set_option maxRecDepth 100000 in
theorem odd (W : World) (a0 : Option Addr) (n c0 : Nat) (d : Int) (h : 20 < n ∨ (n ≤ 20 ∧ ¬ (d = 0 ∨ d = 1)) ∨ (n ≤ 20 ∧ (d = 0 ∨ d = 1) ∧ few n = false)) :
    Calls Try.prog 9 #[.slice a0 n c0, .int .i64 d] W fun e W' => e = .returned (.bool true) ∧ Below W.heap.size W W' := by
  rcases h with h | ⟨h, h'⟩ | ⟨h, h', hh⟩
  · have g1 : decide (20 < (n : Int)) = true := decide_eq_true (by omega)
    go_enter Try.func9, Try.ntmps9
    go_wp2_with fail
    refine (live10 _).mono ?_
    rintro e w1 ⟨rfl, b1⟩
    go_wp2_with fail
    go_ret
    exact ⟨rfl, b1⟩
  · have g1 : decide (20 < (n : Int)) = false := decide_eq_false (by omega)
    have P := Lib.hid (fun w => sdo_no1 a0 n c0 d w h h')
    have D := fun w => r10_dirs d w
    rw [decide_eq_false h'] at D
    have D := Lib.hid D
    have H := fun w => small_has n w
    have K := fun w => r10_has n w
    clear h'
    generalize few n = b at *
    have H := Lib.hid H
    have K := Lib.hid K
    cases b
    all_goals
      go_enter Try.func9, Try.ntmps9
      go_wp2_with fail
      refine (P.out _).mono ?_
      rintro e w1 ⟨rfl, rfl⟩
      go_wp2_with fail
      refine (H.out _).mono ?_
      rintro e w1 ⟨rfl, rfl⟩
      go_wp2_with fail
      refine (K.out _).mono ?_
      rintro e w1 ⟨rfl, rfl⟩
      go_wp2_with fail
      refine (D.out _).mono ?_
      rintro e w1 ⟨rfl, rfl⟩
      go_wp2_with fail
      refine (live10 _).mono ?_
      rintro e w1 ⟨rfl, b1⟩
      go_wp2_with fail
      go_ret
      exact ⟨rfl, b1⟩
  · have g1 : decide (20 < (n : Int)) = false := decide_eq_false (by omega)
    have P := Lib.hid (fun w => sdo_no2 a0 n c0 d w h h' hh)
    have D := fun w => r10_dirs d w
    rw [decide_eq_true h'] at D
    have D := Lib.hid D
    have H := fun w => small_has n w
    have K := fun w => r10_has n w
    rw [hh] at H K
    have H := Lib.hid H
    have K := Lib.hid K
    clear h' hh
    go_enter Try.func9, Try.ntmps9
    go_wp2_with fail
    refine (P.out _).mono ?_
    rintro e w1 ⟨rfl, rfl⟩
    go_wp2_with fail
    refine (H.out _).mono ?_
    rintro e w1 ⟨rfl, rfl⟩
    go_wp2_with fail
    refine (K.out _).mono ?_
    rintro e w1 ⟨rfl, rfl⟩
    go_wp2_with fail
    refine (D.out _).mono ?_
    rintro e w1 ⟨rfl, rfl⟩
    go_wp2_with fail
    refine (K.out _).mono ?_
    rintro e w1 ⟨rfl, rfl⟩
    go_wp2_with fail
    refine (live10 _).mono ?_
    rintro e w1 ⟨rfl, b1⟩
    go_wp2_with fail
    go_ret
    exact ⟨rfl, b1⟩
set_option maxRecDepth 100000 in
theorem main (W : World) (a0 : Option Addr) (n c0 : Nat) (d : Int) (xs : List Int) (hx : Row W a0 n xs) (hn : n ≤ 20) (hf : few n = true) (hd : d = 0 ∨ d = 1) :
    Calls Try.prog 9 #[.slice a0 n c0, .int .i64 d] W fun e W' => e = .returned (.bool true) ∧ Below W.heap.size W W' := by
  have g1 : decide (20 < (n : Int)) = false := decide_eq_false (by omega)
  obtain ⟨f1, f5⟩ := few_ok hf
  have P := Lib.hid (fun w h => small_do n a0 c0 d xs w h hf hd)
  have Q := Lib.hid (fun w h => r6_dft a0 n c0 d xs w h (chk_five f1 f5 hd))
  have D := fun w => r10_dirs d w
  rw [decide_eq_true hd] at D
  have D := Lib.hid D
  have H := fun w => small_has n w
  have K := fun w => r10_has n w
  rw [hf] at H K
  have H := Lib.hid H
  have K := Lib.hid K
  have HX := Lib.hid hx
  have hB : Below W.heap.size W W := Below.refl _ _
  clear hx hf hd
  generalize horl (rdir n d) xs n = ys at *
  go_enter Try.func9, Try.ntmps9
  go_wp2_with fail
  refine (P.out _ HX.out).mono ?_
  rintro e w1 ⟨p1, d1, rfl, hr, b1⟩
  have RP := Lib.hid hr; clear hr; have HX := Lib.hid (HX.out.below b1); have hB := hB.trans (b1.mono hB.size); clear b1
  go_wp2_with fail
  refine (H.out _).mono ?_
  rintro e w1 ⟨rfl, rfl⟩
  go_wp2_with fail
  refine (K.out _).mono ?_
  rintro e w1 ⟨rfl, rfl⟩
  go_wp2_with fail
  refine (D.out _).mono ?_
  rintro e w1 ⟨rfl, rfl⟩
  go_wp2_with fail
  refine (K.out _).mono ?_
  rintro e w1 ⟨rfl, rfl⟩
  go_wp2_with fail
  refine (Q.out _ HX.out).mono ?_
  rintro e w1 ⟨p2, d2, rfl, hr, b1⟩
  have RZ := Lib.hid hr; clear hr; have RP := Lib.hid (RP.out.below b1); have hB := hB.trans (b1.mono hB.size); clear b1
  go_wp2_with fail
  refine (c_same RP.out RZ.out).mono ?_
  rintro e w2 ⟨rfl, b1⟩
  have hB := hB.trans (b1.mono hB.size); clear b1
  go_wp2_with fail
  refine (live10 _).mono ?_
  rintro e w2 ⟨rfl, b1⟩
  have hB := hB.trans (b1.mono hB.size); clear b1
  go_wp2_with fail
  go_ret
  exact ⟨rfl, hB⟩
theorem walk (W : World) (a0 : Option Addr) (n0 c0 : Nat) (w0 : IsRow .u64 W a0 n0 c0) (a1 : Int) (w1 : -9223372036854775808 ≤ a1 ∧ a1 ≤ 9223372036854775807) :
    Calls Try.prog 9 #[.slice a0 n0 c0, .int .i64 a1] W fun e W' => e = .returned (.bool true) ∧ Below W.heap.size W W' := by
  by_cases h : 20 < n0 ∨ (n0 ≤ 20 ∧ ¬ (a1 = 0 ∨ a1 = 1)) ∨ (n0 ≤ 20 ∧ (a1 = 0 ∨ a1 = 1) ∧ few n0 = false)
  · exact odd W a0 n0 c0 a1 h
  · have hn0 : n0 ≤ 20 := by omega
    have hd : a1 = 0 ∨ a1 = 1 := by
      by_cases e : a1 = 0 ∨ a1 = 1
      · exact e
      · exact absurd (.inr (.inl ⟨hn0, e⟩)) h
    have hh : few n0 = true := by
      cases hb : few n0
      · exact absurd (.inr (.inr ⟨hn0, hd, hb⟩)) h
      · rfl
    obtain ⟨xs, hx⟩ := Row.of_isRow w0 (by omega)
    exact main W a0 n0 c0 a1 xs hx hn0 hh hd
end smallDoes
end Go.Proofs.Ytjiedfncamdojaa
