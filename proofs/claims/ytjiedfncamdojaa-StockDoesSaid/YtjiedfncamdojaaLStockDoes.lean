/- StockDoes: it is the transform. -/
import Derived.Test.YtjiedfncamdojaaStock6
namespace Go.Proofs.Ytjiedfncamdojaa
open Go.ChangeShapes Go.WideShapes Go.ChangeAt Go.RowKit
set_option linter.unusedVariables false
namespace stockDoes
open stockPasses
set_option maxRecDepth 100000 in
theorem odd (W : World) (a0 : Option Addr) (n c0 : Nat) (d : Int) (h : 130 < n ∨ (n ≤ 130 ∧ ¬ (d = 0 ∨ d = 1)) ∨ (n ≤ 130 ∧ (d = 0 ∨ d = 1) ∧ hasp n = false)) :
    Calls Try.prog 14 #[.slice a0 n c0, .int .i64 d] W fun e W' => e = .returned (.bool true) ∧ Below W.heap.size W W' := by
  rcases h with h | ⟨h, h'⟩ | ⟨h, h', hh⟩
  · have g1 : decide (130 < (n : Int)) = true := decide_eq_true (by omega)
    go_enter Try.func14, Try.ntmps14
    go_wp2_with fail
    refine (live11 _).mono ?_
    rintro e w1 ⟨rfl, b1⟩
    go_wp2_with fail
    go_ret
    exact ⟨rfl, b1⟩
  · have g1 : decide (130 < (n : Int)) = false := decide_eq_false (by omega)
    have P := Lib.hid (fun w => do_no1 a0 n c0 d w h h')
    have D := fun w => r10_dir d w
    rw [decide_eq_false h'] at D
    have D := Lib.hid D
    clear h'
    go_enter Try.func14, Try.ntmps14
    go_wp2_with fail
    refine (P.out _).mono ?_
    rintro e w1 ⟨rfl, rfl⟩
    go_wp2_with fail
    refine (D.out _).mono ?_
    rintro e w1 ⟨rfl, rfl⟩
    go_wp2_with fail
    refine (live11 _).mono ?_
    rintro e w1 ⟨rfl, b1⟩
    go_wp2_with fail
    go_ret
    exact ⟨rfl, b1⟩
  · have g1 : decide (130 < (n : Int)) = false := decide_eq_false (by omega)
    have P := Lib.hid (fun w => do_no2 a0 n c0 d w h h' hh)
    have D := fun w => r10_dir d w
    rw [decide_eq_true h'] at D
    have D := Lib.hid D
    have H := fun w => r11_has (n : Int) w (by omega)
    rw [hh] at H
    have H := Lib.hid H
    clear h' hh
    go_enter Try.func14, Try.ntmps14
    go_wp2_with fail
    refine (P.out _).mono ?_
    rintro e w1 ⟨rfl, rfl⟩
    go_wp2_with fail
    refine (D.out _).mono ?_
    rintro e w1 ⟨rfl, rfl⟩
    go_wp2_with fail
    refine (H.out _).mono ?_
    rintro e w1 ⟨rfl, rfl⟩
    go_wp2_with fail
    refine (live11 _).mono ?_
    rintro e w1 ⟨rfl, b1⟩
    go_wp2_with fail
    go_ret
    exact ⟨rfl, b1⟩
set_option maxRecDepth 100000 in
theorem main (W : World) (a0 : Option Addr) (n c0 a : Nat) (d : Int) (xs : List Int) (hx : Row W a0 n xs) (hn : n ≤ 130) (ha : n = 2 ^ a) (pn : hasp n = true) (hd : d = 0 ∨ d = 1) :
    Calls Try.prog 14 #[.slice a0 n c0, .int .i64 d] W fun e W' => e = .returned (.bool true) ∧ Below W.heap.size W W' := by
  have g1 : decide (130 < (n : Int)) = false := decide_eq_false (by omega)
  have P := Lib.hid (fun w h => stock_do n a a0 c0 d xs w h ha hn hd)
  have Q := Lib.hid (fun w h => r6_dft a0 n c0 d xs w h (chk_pow ha hn hd))
  have D := fun w => r10_dir d w
  rw [decide_eq_true hd] at D
  have D := Lib.hid D
  have H := fun w => r11_has (n : Int) w (by omega)
  rw [pn] at H
  have H := Lib.hid H
  have HX := Lib.hid hx
  have hB : Below W.heap.size W W := Below.refl _ _
  clear hx pn ha hd
  generalize horl (rdir n d) xs n = ys at *
  go_enter Try.func14, Try.ntmps14
  go_wp2_with fail
  refine (P.out _ HX.out).mono ?_
  rintro e w1 ⟨p1, d1, rfl, hr, b1⟩
  have RP := Lib.hid hr; clear hr; have HX := Lib.hid (HX.out.below b1); have hB := hB.trans (b1.mono hB.size); clear b1
  go_wp2_with fail
  refine (D.out _).mono ?_
  rintro e w1 ⟨rfl, rfl⟩
  go_wp2_with fail
  refine (H.out _).mono ?_
  rintro e w1 ⟨rfl, rfl⟩
  go_wp2_with fail
  refine (Q.out _ HX.out).mono ?_
  rintro e w1 ⟨p2, d2, rfl, hr, b1⟩
  have RZ := Lib.hid hr; clear hr; have RP := Lib.hid (RP.out.below b1); have hB := hB.trans (b1.mono hB.size); clear b1
  go_wp2_with fail
  refine (c_same RP.out RZ.out).mono ?_
  rintro e w2 ⟨rfl, b1⟩
  have hB := hB.trans (b1.mono hB.size); clear b1
  go_wp2_with fail
  refine (live11 _).mono ?_
  rintro e w2 ⟨rfl, b1⟩
  have hB := hB.trans (b1.mono hB.size); clear b1
  go_wp2_with fail
  go_ret
  exact ⟨rfl, hB⟩
theorem walk (W : World) (a0 : Option Addr) (n0 c0 : Nat) (w0 : IsRow .u64 W a0 n0 c0) (a1 : Int) (w1 : -9223372036854775808 ≤ a1 ∧ a1 ≤ 9223372036854775807) :
    Calls Try.prog 14 #[.slice a0 n0 c0, .int .i64 a1] W fun e W' => e = .returned (.bool true) ∧ Below W.heap.size W W' := by
  by_cases h : 130 < n0 ∨ (n0 ≤ 130 ∧ ¬ (a1 = 0 ∨ a1 = 1)) ∨ (n0 ≤ 130 ∧ (a1 = 0 ∨ a1 = 1) ∧ hasp n0 = false)
  · exact odd W a0 n0 c0 a1 h
  · have hn0 : n0 ≤ 130 := by omega
    have hd : a1 = 0 ∨ a1 = 1 := by
      by_cases e : a1 = 0 ∨ a1 = 1
      · exact e
      · exact absurd (.inr (.inl ⟨hn0, e⟩)) h
    have hh : hasp n0 = true := by
      cases hb : hasp n0
      · exact absurd (.inr (.inr ⟨hn0, hd, hb⟩)) h
      · rfl
    obtain ⟨xs, hx⟩ := Row.of_isRow w0 (by omega)
    obtain ⟨a, ha, _⟩ := stockWith.hasp_pow hh
    exact main W a0 n0 c0 a a1 xs hx hn0 ha hh hd
end stockDoes
end Go.Proofs.Ytjiedfncamdojaa
