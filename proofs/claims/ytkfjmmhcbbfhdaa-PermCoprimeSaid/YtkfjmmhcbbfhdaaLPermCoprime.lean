/- PermCoprime: for every two sides: the two orders of numbers without a common divisor, both orders, or why there are none. -/
import Derived.Test.YtkfjmmhcbbfhdaaPerm6
namespace Go.Proofs.Ytkfjmmhcbbfhdaa
open Go.ChangeShapes Go.WideShapes Go.ChangeAt Go.RowKit
set_option linter.unusedVariables false
namespace permCoprime
/-- No such sides, or sides with a common divisor. -/
theorem refuses (W : World) (a b z : Int) (a1 : a ≤ 9223372036854775807) (b1 : b ≤ 9223372036854775807) (hz : (sidesb a b = false ∧ z = 3) ∨ (sidesb a b = true ∧ gcdz a b ≠ 1 ∧ z = 2)) (hN : sidesb a b = true → a * b ≤ 400) :
    Calls Try.prog 11 #[.int .i64 a, .int .i64 b] W fun e W' => e = .returned (.bool true) ∧ Below W.heap.size W W' := by
  have H := fun w => r8_sides a b w
  have G := Lib.hid (fun w => perm_goodno a b z w a1 b1 hz)
  have C := Lib.hid (fun w => perm_crtno a b z w a1 b1 hz)
  have K := Lib.hid (fun w => r8_check a b z w a1 b1 (by rcases hz with h | h; exact .inl h; exact .inr (.inl h)))
  have hB : Below W.heap.size W W := Below.refl _ _
  have d1 : (z != z) = false := by simp
  have d2 : (z != 0) = true := by rcases hz with ⟨_, rfl⟩ | ⟨_, _, rfl⟩ <;> rfl
  cases hs : sidesb a b with
  | false =>
    rw [hs] at H
    have H := Lib.hid H
    clear hz hN hs
    go_enter Try.func11, Try.ntmps11
    go_wp2_with fail
    refine (H.out _).mono ?_
    rintro e w1 ⟨rfl, rfl⟩
    go_wp2_with fail
    refine (G.out _).mono ?_
    rintro e w1 ⟨rfl, b1⟩
    have hB := hB.trans (b1.mono hB.size); clear b1
    go_wp2_with fail
    refine (C.out _).mono ?_
    rintro e w1 ⟨rfl, b1⟩
    have hB := hB.trans (b1.mono hB.size); clear b1
    go_wp2_with fail
    refine (K.out _).mono ?_
    rintro e w1 ⟨rfl, b1⟩
    have hB := hB.trans (b1.mono hB.size); clear b1
    go_wp2_with fail
    refine (live8 _).mono ?_
    rintro e w1 ⟨rfl, b1⟩
    have hB := hB.trans (b1.mono hB.size); clear b1
    go_wp2_with fail
    go_ret
    exact ⟨rfl, hB⟩
  | true =>
    have hN := hN hs
    obtain ⟨m, n, rfl, rfl, _, _, _, _, _⟩ := sides_yes hs
    rw [mul_cast] at hN
    obtain ⟨N, hN2⟩ : ∃ N, m * n = N := ⟨_, rfl⟩
    rw [hN2] at hN
    have hw : IntKind.i64.wrap ((m : Int) * (n : Int)) = (N : Int) := by rw [mul_cast, hN2]; exact IntWalk.i64_in _ (by omega)
    have d : decide (400 < (N : Int)) = false := decide_eq_false (by omega)
    have d' : decide (400 < N) = false := decide_eq_false (by omega)
    rw [hs] at H
    have H := Lib.hid H
    clear hz hN2 hs
    go_enter Try.func11, Try.ntmps11
    go_wp2_with fail
    refine (H.out _).mono ?_
    rintro e w1 ⟨rfl, rfl⟩
    go_wp2_with fail
    refine (G.out _).mono ?_
    rintro e w1 ⟨rfl, b1⟩
    have hB := hB.trans (b1.mono hB.size); clear b1
    go_wp2_with fail
    refine (C.out _).mono ?_
    rintro e w1 ⟨rfl, b1⟩
    have hB := hB.trans (b1.mono hB.size); clear b1
    go_wp2_with fail
    refine (K.out _).mono ?_
    rintro e w1 ⟨rfl, b1⟩
    have hB := hB.trans (b1.mono hB.size); clear b1
    go_wp2_with fail
    refine (live8 _).mono ?_
    rintro e w1 ⟨rfl, b1⟩
    have hB := hB.trans (b1.mono hB.size); clear b1
    go_wp2_with fail
    go_ret
    exact ⟨rfl, hB⟩
theorem great (W : World) (a b : Nat) (hs : sidesb a b = true) (hN : 400 < a * b) (h : a * b ≤ 16777216) :
    Calls Try.prog 11 #[.int .i64 a, .int .i64 b] W fun e W' => e = .returned (.bool true) ∧ Below W.heap.size W W' := by
  have H := fun w => r8_sides a b w
  rw [hs] at H
  have H := Lib.hid H
  obtain ⟨N, hN2⟩ : ∃ N, a * b = N := ⟨_, rfl⟩
  rw [hN2] at hN h
  have hw : IntKind.i64.wrap ((a : Int) * (b : Int)) = (N : Int) := by rw [mul_cast, hN2]; exact IntWalk.i64_in _ (by omega)
  have d : decide (400 < (N : Int)) = true := decide_eq_true (by omega)
  have d' : decide (400 < N) = true := decide_eq_true (by omega)
  clear hN2 hs
  go_enter Try.func11, Try.ntmps11
  go_wp2_with fail
  refine (H.out _).mono ?_
  rintro e w1 ⟨rfl, rfl⟩
  go_wp2_with fail
  refine (live8 _).mono ?_
  rintro e w1 ⟨rfl, b1⟩
  go_wp2_with fail
  go_ret
  exact ⟨rfl, b1⟩
set_option maxRecDepth 100000 in
theorem main (W : World) (a b : Nat) (hs : sidesb a b = true) (ha : 1 ≤ a) (hb : 1 ≤ b) (hN : a * b ≤ 400) (hg : Nat.gcd a b = 1) :
    Calls Try.prog 11 #[.int .i64 a, .int .i64 b] W fun e W' => e = .returned (.bool true) ∧ Below W.heap.size W W' := by
  have h16 : a * b ≤ 16777216 := by omega
  have h0 : 0 < a * b := Nat.mul_pos ha hb
  have a2 : a ≤ a * b := Nat.le_mul_of_pos_right a (by omega)
  have b2 : b ≤ a * b := Nat.le_mul_of_pos_left b (by omega)
  have H := fun w => r8_sides a b w
  rw [hs] at H
  have H := Lib.hid H
  have GO := Lib.hid (fun w => perm_good a b w ha hb h16 hg)
  have RG := Lib.hid (fun w => r8_good a b w ha hb h16)
  have CR := Lib.hid (fun w => perm_crt a b w ha hb h16 hg)
  have RC := Lib.hid (fun u v w hu hv => r8_crt a b u v w ha hb h16 hg hu hv)
  have K := Lib.hid (fun w => r8_check a b 0 w (by omega) (by omega) (.inr (.inr ⟨hs, by rw [gcdz_nat, hg]; rfl, rfl⟩)))
  have RR := fun p c w h => r8_right p (a * b) c (gridl a b b a) w h
  rw [gridl_right h0 (fun i j hi hj e => good_inj hg hi hj e)] at RR
  have RR := Lib.hid RR
  have RQ := Lib.hid (fun u v (hu : b * u % a = 1 % a) (hv : a * v % b = 1 % b) p c w (h : RowI w p (a * b) (gridl a b (b * u) (a * v))) => (show Calls Try.prog 43 #[.slice p (a * b : Nat) c] w fun e w' => e = .returned (.bool true) ∧ w = w' from by
    have := r8_right p (a * b) c (gridl a b (b * u) (a * v)) w h
    rwa [gridl_right h0 (fun i j hi hj e => crt_inj hu hv hi hj e)] at this))
  have hB : Below W.heap.size W W := Below.refl _ _
  generalize gridl a b b a = xs at *
  obtain ⟨N, hN2⟩ : ∃ N, a * b = N := ⟨_, rfl⟩
  rw [hN2] at hN h16 GO RG CR RC RR RQ
  have hw : IntKind.i64.wrap ((a : Int) * (b : Int)) = (N : Int) := by rw [mul_cast, hN2]; exact IntWalk.i64_in _ (by omega)
  have d : decide (400 < (N : Int)) = false := decide_eq_false (by omega)
  have d' : decide (400 < N) = false := decide_eq_false (by omega)
  clear hN2 hs ha hb hg h0 a2 b2
  go_enter Try.func11, Try.ntmps11
  go_wp2_with fail
  refine (H.out _).mono ?_
  rintro e w1 ⟨rfl, rfl⟩
  go_wp2_with fail
  refine (GO.out _).mono ?_
  rintro e w1 ⟨p1, k1, rfl, h, b1⟩
  have R1 := Lib.hid h; clear h; have hB := hB.trans (b1.mono hB.size); clear b1
  go_wp2_with fail
  refine (CR.out _).mono ?_
  rintro e w1 ⟨u, v, _, hu, _, hv, p2, k2, rfl, h, b1⟩
  have RC1 := Lib.hid (fun w => RC.out u v w hu hv)
  have RQ1 := Lib.hid (fun p c w h => RQ.out u v hu hv p c w h)
  have R2 := Lib.hid h; clear h hu hv; have R1 := Lib.hid (R1.out.below b1); have hB := hB.trans (b1.mono hB.size); clear b1
  generalize gridl a b (b * u) (a * v) = ys at *
  go_wp2_with fail
  refine (K.out _).mono ?_
  rintro e w1 ⟨rfl, b1⟩
  have R1 := Lib.hid (R1.out.below b1); have R2 := Lib.hid (R2.out.below b1); have hB := hB.trans (b1.mono hB.size); clear b1
  go_wp2_with fail
  refine (RG.out _).mono ?_
  rintro e w1 ⟨p3, k3, rfl, h, b1⟩
  have R3 := Lib.hid h; clear h; have R1 := Lib.hid (R1.out.below b1); have R2 := Lib.hid (R2.out.below b1); have hB := hB.trans (b1.mono hB.size); clear b1
  go_wp2_with fail
  refine (c_samei R1.out R3.out).mono ?_
  rintro e w1 ⟨rfl, b1⟩
  have R1 := Lib.hid (R1.out.below b1); have R2 := Lib.hid (R2.out.below b1); have hB := hB.trans (b1.mono hB.size); clear b1
  go_wp2_with fail
  refine (RC1.out _).mono ?_
  rintro e w1 ⟨p4, k4, rfl, h, b1⟩
  have R4 := Lib.hid h; clear h; have R1 := Lib.hid (R1.out.below b1); have R2 := Lib.hid (R2.out.below b1); have hB := hB.trans (b1.mono hB.size); clear b1
  go_wp2_with fail
  refine (c_samei R2.out R4.out).mono ?_
  rintro e w1 ⟨rfl, b1⟩
  have R1 := Lib.hid (R1.out.below b1); have R2 := Lib.hid (R2.out.below b1); have hB := hB.trans (b1.mono hB.size); clear b1
  go_wp2_with fail
  refine (RR.out _ _ _ R1.out).mono ?_
  rintro e w1 ⟨rfl, rfl⟩
  go_wp2_with fail
  refine (RQ1.out _ _ _ R2.out).mono ?_
  rintro e w1 ⟨rfl, rfl⟩
  go_wp2_with fail
  refine (live8 _).mono ?_
  rintro e w1 ⟨rfl, b1⟩
  have hB := hB.trans (b1.mono hB.size); clear b1
  go_wp2_with fail
  go_ret
  exact ⟨rfl, hB⟩
theorem walk (W : World) (a0 : Int) (w0 : -9223372036854775808 ≤ a0 ∧ a0 ≤ 9223372036854775807) (a1 : Int) (w1 : -9223372036854775808 ≤ a1 ∧ a1 ≤ 9223372036854775807) :
    Calls Try.prog 11 #[.int .i64 a0, .int .i64 a1] W fun e W' => e = .returned (.bool true) ∧ Below W.heap.size W W' := by
  cases hs : sidesb a0 a1 with
  | false => exact refuses W a0 a1 3 w0.2 w1.2 (.inl ⟨hs, rfl⟩) (fun h => by rw [hs] at h; cases h)
  | true =>
    obtain ⟨m, n, rfl, rfl, h1, _, h2, _, h3⟩ := sides_yes hs
    by_cases h : 400 < m * n
    · exact great W m n hs h h3
    · by_cases hg : gcdz m n = 1
      · refine main W m n hs h1 h2 (by omega) ?_
        rw [gcdz_nat] at hg
        omega
      · exact refuses W m n 2 w0.2 w1.2 (.inr ⟨hs, hg, rfl⟩) (fun _ => by rw [mul_cast]; omega)
end permCoprime
end Go.Proofs.Ytkfjmmhcbbfhdaa
