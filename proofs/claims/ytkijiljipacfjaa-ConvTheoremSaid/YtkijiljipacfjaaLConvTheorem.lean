/- ConvTheorem: for every two rows of words: the transform of their product around is the product of their transforms, one by one. -/
import Derived.Test.YtkijiljipacfjaaLive7
import Derived.Test.YtkijiljipacfjaaDft3
namespace Go.Proofs.Ytkijiljipacfjaa
open Go.ChangeShapes Go.WideShapes Go.ChangeAt Go.RowKit
set_option linter.unusedVariables false
namespace convTheorem
open rootTells
set_option maxRecDepth 100000 in
theorem main (W : World) (a0 a1 : Option Addr) (n c0 c1 : Nat) (xs ys : List Int) (hx : Row W a0 n xs) (hy : Row W a1 n ys) (hn : n ≤ 60) (hh : hasb n = true) :
    Calls Try.prog 5 #[.slice a0 n c0, .slice a1 n c1] W fun e W' => e = .returned (.bool true) ∧ Below W.heap.size W W' := by
  have g0 : ((n : Int) != (n : Int)) = false := by simp
  have g1 : decide (60 < (n : Int)) = false := decide_eq_false (by omega)
  have hc : chk n 0 = 0 := by rw [chk_dir _ _ (.inl rfl), if_neg (by rw [hh]; simp), if_neg (by omega)]
  have HH := fun w => r4_has (n : Int) w (by omega) (by omega)
  rw [hh] at HH
  have HH := Lib.hid HH
  have DD : ∀ (p : Option Addr) (c : Nat) (ys : List Int) (w : World), Row w p n ys → Calls Try.prog 26 #[.slice p n c, .int .i64 0] w (GivesOk w n (horl (rt n) ys n)) := fun p c ys w h => dft_dft2 p n c 0 ys w h hc
  have DD := Lib.hid DD
  have CY := Lib.hid (fun w h1 h2 => conv_cyclic a0 a1 n c0 c1 xs ys w h1 h2 (by omega))
  have TH := Lib.hid (show horl (rt n) (cycl xs ys) n = zmul (horl (rt n) xs n) (horl (rt n) ys n) from horl_cyc (by have := rt_one_pow hh; rwa [Int.toNat_natCast] at this) xs ys hx.len hy.len)
  have HX := Lib.hid hx
  have HY := Lib.hid hy
  have hB : Below W.heap.size W W := Below.refl _ _
  clear hx hy hc hh
  generalize rt n = r at *
  go_enter Try.func5, Try.ntmps5
  go_wp2_with fail
  refine (HH.out _).mono ?_
  rintro e w1 ⟨rfl, rfl⟩
  go_wp2_with fail
  refine (CY.out _ HX.out HY.out).mono ?_
  rintro e w1 ⟨p1, d1, rfl, hr, b1⟩
  have RC := Lib.hid hr; clear hr; have HX := Lib.hid (HX.out.below b1); have HY := Lib.hid (HY.out.below b1); have hB := hB.trans (b1.mono hB.size); clear b1
  go_wp2_with fail
  refine (DD.out _ _ _ _ HX.out).mono ?_
  rintro e w1 ⟨p2, d2, rfl, hr, b1⟩
  have RA := Lib.hid hr; clear hr; have HY := Lib.hid (HY.out.below b1); have RC := Lib.hid (RC.out.below b1); have hB := hB.trans (b1.mono hB.size); clear b1
  go_wp2_with fail
  refine (DD.out _ _ _ _ HY.out).mono ?_
  rintro e w1 ⟨p3, d3, rfl, hr, b1⟩
  have RB := Lib.hid hr; clear hr; have RA := Lib.hid (RA.out.below b1); have RC := Lib.hid (RC.out.below b1); have hB := hB.trans (b1.mono hB.size); clear b1
  go_wp2_with fail
  refine (DD.out _ _ _ _ RC.out).mono ?_
  rintro e w1 ⟨p4, d4, rfl, hr, b1⟩
  rw [TH.out] at hr
  have RD := Lib.hid hr; clear hr; clear RC; have RA := Lib.hid (RA.out.below b1); have RB := Lib.hid (RB.out.below b1); have hB := hB.trans (b1.mono hB.size); clear b1
  have g2 : ((n : Int) == (n : Int)) = true := by simp
  go_wp2_with fail
  refine (c_rmul RA.out RB.out).mono ?_
  rintro e w1 ⟨p5, d5, rfl, hr, b1⟩
  have RM := Lib.hid hr; clear hr; have RD := Lib.hid (RD.out.below b1); have hB := hB.trans (b1.mono hB.size); clear b1
  go_wp2_with fail
  refine (c_same RD.out RM.out).mono ?_
  rintro e w1 ⟨rfl, b1⟩
  have hB := hB.trans (b1.mono hB.size); clear b1
  go_wp2_with fail
  refine (live7 _).mono ?_
  rintro e w1 ⟨rfl, b1⟩
  have hB := hB.trans (b1.mono hB.size); clear b1
  go_wp2_with fail
  go_ret
  exact ⟨rfl, hB⟩
theorem odd (W : World) (a0 a1 : Option Addr) (n m c0 c1 : Nat) (hs : n ≤ 9223372036854775807) (h : n ≠ m ∨ 60 < n ∨ hasb n = false) :
    Calls Try.prog 5 #[.slice a0 n c0, .slice a1 m c1] W fun e W' => e = .returned (.bool true) ∧ Below W.heap.size W W' := by
  by_cases h1 : n ≠ m
  · have g0 : ((n : Int) != (m : Int)) = true := by simp; omega
    go_enter Try.func5, Try.ntmps5
    go_wp2_with fail
    refine (live7 _).mono ?_
    rintro e w1 ⟨rfl, b1⟩
    go_wp2_with fail
    go_ret
    exact ⟨rfl, b1⟩
  · have e : n = m := by omega
    subst e
    have g0 : ((n : Int) != (n : Int)) = false := by simp
    by_cases h2 : 60 < n
    · have g1 : decide (60 < (n : Int)) = true := decide_eq_true (by omega)
      go_enter Try.func5, Try.ntmps5
      go_wp2_with fail
      refine (live7 _).mono ?_
      rintro e w1 ⟨rfl, b1⟩
      go_wp2_with fail
      go_ret
      exact ⟨rfl, b1⟩
    · have g1 : decide (60 < (n : Int)) = false := decide_eq_false (by omega)
      have hh : hasb n = false := by
        rcases h with h | h | h
        · exact absurd h h1
        · exact absurd h h2
        · exact h
      have HH := fun w => r4_has (n : Int) w (by omega) (by omega)
      rw [hh] at HH
      have HH := Lib.hid HH
      go_enter Try.func5, Try.ntmps5
      go_wp2_with fail
      refine (HH.out _).mono ?_
      rintro e w1 ⟨rfl, rfl⟩
      go_wp2_with fail
      refine (live7 _).mono ?_
      rintro e w1 ⟨rfl, b1⟩
      go_wp2_with fail
      go_ret
      exact ⟨rfl, b1⟩
theorem walk (W : World) (a0 : Option Addr) (n0 c0 : Nat) (w0 : IsRow .u64 W a0 n0 c0) (a1 : Option Addr) (n1 c1 : Nat) (w1 : IsRow .u64 W a1 n1 c1) :
    Calls Try.prog 5 #[.slice a0 n0 c0, .slice a1 n1 c1] W fun e W' => e = .returned (.bool true) ∧ Below W.heap.size W W' := by
  by_cases h : n0 ≠ n1 ∨ 60 < n0 ∨ hasb n0 = false
  · obtain ⟨_, _, _, hs, _⟩ := w0
    exact odd W a0 a1 n0 n1 c0 c1 hs h
  · have e : n0 = n1 := by
      by_cases e : n0 = n1
      · exact e
      · exact absurd (.inl e) h
    subst e
    have hn : n0 ≤ 60 := by
      by_cases e : 60 < n0
      · exact absurd (.inr (.inl e)) h
      · omega
    have hh : hasb n0 = true := by
      cases e : hasb n0 with
      | true => rfl
      | false => exact absurd (.inr (.inr e)) h
    obtain ⟨xs, hx⟩ := Row.of_isRow w0 (by omega)
    obtain ⟨ys, hy⟩ := Row.of_isRow w1 (by omega)
    exact main W a0 a1 n0 c0 c1 xs ys hx hy hn hh
end convTheorem
end Go.Proofs.Ytkijiljipacfjaa
