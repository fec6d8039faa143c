/- GenOrders: any number's order modulo any prime up to 2^17, which divides one less than the prime; or why there is none. -/
import Derived.Test.YtmeaakchnellfaaGenr
namespace Go.Proofs.Ytmeaakchnellfaa
open Go.ChangeShapes Go.WideShapes Go.ChangeAt Go.RowKit
set_option linter.unusedVariables false
namespace genOrders
set_option maxRecDepth 100000 in
theorem main (W : World) (q a : Nat) (hq : isP q) (hq2 : q ≤ 131072) (h1 : 1 ≤ a) (ha : a < q) :
    Calls Try.prog 7 #[.int .i64 (q : Int), .int .i64 (a : Int)] W fun e W' => e = .returned (.bool true) ∧ Below W.heap.size W W' := by
  have q0 := hq.1
  have GO := Lib.hid (fun w => gen_Order q a w hq hq2 h1 ha)
  have RO := Lib.hid (fun w => r9_order q a w hq hq2 h1 ha)
  have RI := fun w => r9_is (q : Int) w (by omega)
  rw [qrb_of hq hq2] at RI
  have RI := Lib.hid RI
  have d1 : decide ((a : Int) < 1) = false := decide_eq_false (by omega)
  have d2 : decide ((q : Int) ≤ (a : Int)) = false := decide_eq_false (by omega)
  have hB : Below W.heap.size W W := Below.refl _ _
  obtain ⟨n, hn⟩ : ∃ n, q - 1 = n := ⟨_, rfl⟩
  have hni : (q : Int) - 1 = (n : Int) := by omega
  go_enter Try.func7, Try.ntmps7
  go_wp2_with fail
  refine (GO.out _).mono ?_
  rintro e w1 ⟨k, rfl, h3, h4, b1⟩
  have hB := hB.trans (b1.mono hB.size); clear b1
  have H3 := Lib.hid h3
  have hk1 := h3.one
  rw [hn] at h4
  have hr : n % k = 0 := Nat.mod_eq_zero_of_dvd h4
  have hkn := Nat.le_of_dvd (by omega) h4
  have m1 := natmod n k
  have m1' := natmod' n k
  rw [hr] at m1 m1'
  have q1 : ((k : Int) == 0) = false := by simp; omega
  have q2 : ¬ ((k : Int) = 0) := by omega
  have q3 : ¬ (k = 0) := by omega
  clear h3 h4 hr
  go_wp2_with fail
  refine (RI.out _).mono ?_
  rintro e w1 ⟨rfl, rfl⟩
  go_wp2_with fail
  refine (RO.out _).mono ?_
  rintro e w1 ⟨k2, rfl, h3, _, _, rfl⟩
  obtain rfl := H3.out.uniq h3
  clear h3
  go_wp2_with fail
  refine (live9 _).mono ?_
  rintro e w1 ⟨rfl, b1⟩
  have hB := hB.trans (b1.mono hB.size); clear b1
  go_wp2_with fail
  go_ret
  exact ⟨rfl, hB⟩
theorem noprime (W : World) (n a : Int) (hn : n ≤ 9223372036854775807) (h : qrb n = false) :
    Calls Try.prog 7 #[.int .i64 n, .int .i64 a] W fun e W' => e = .returned (.bool true) ∧ Below W.heap.size W W' := by
  have GO := Lib.hid (fun w => gen_Orderno n a 2 w (.inl ⟨h, rfl⟩))
  have RI := fun w => r9_is n w hn
  rw [h] at RI
  have RI := Lib.hid RI
  have hB : Below W.heap.size W W := Below.refl _ _
  go_enter Try.func7, Try.ntmps7
  go_wp2_with fail
  refine (GO.out _).mono ?_
  rintro e w1 ⟨rfl, b1⟩
  have hB := hB.trans (b1.mono hB.size); clear b1
  go_wp2_with fail
  refine (RI.out _).mono ?_
  rintro e w1 ⟨rfl, rfl⟩
  go_wp2_with fail
  refine (live9 _).mono ?_
  rintro e w1 ⟨rfl, b1⟩
  have hB := hB.trans (b1.mono hB.size); clear b1
  go_wp2_with fail
  go_ret
  exact ⟨rfl, hB⟩
theorem norange (W : World) (n a : Int) (hn : n ≤ 9223372036854775807) (h : qrb n = true) (h2 : a < 1 ∨ n ≤ a) :
    Calls Try.prog 7 #[.int .i64 n, .int .i64 a] W fun e W' => e = .returned (.bool true) ∧ Below W.heap.size W W' := by
  have GO := Lib.hid (fun w => gen_Orderno n a 3 w (.inr ⟨h, h2, rfl⟩))
  have RI := fun w => r9_is n w hn
  rw [h] at RI
  have RI := Lib.hid RI
  have hB : Below W.heap.size W W := Below.refl _ _
  by_cases h3 : a < 1
  · have d1 : decide (a < 1) = true := decide_eq_true h3
    go_enter Try.func7, Try.ntmps7
    go_wp2_with fail
    refine (GO.out _).mono ?_
    rintro e w1 ⟨rfl, b1⟩
    have hB := hB.trans (b1.mono hB.size); clear b1
    go_wp2_with fail
    refine (RI.out _).mono ?_
    rintro e w1 ⟨rfl, rfl⟩
    go_wp2_with fail
    refine (live9 _).mono ?_
    rintro e w1 ⟨rfl, b1⟩
    have hB := hB.trans (b1.mono hB.size); clear b1
    go_wp2_with fail
    go_ret
    exact ⟨rfl, hB⟩
  · have d1 : decide (a < 1) = false := decide_eq_false h3
    have d2 : decide (n ≤ a) = true := decide_eq_true (by omega)
    go_enter Try.func7, Try.ntmps7
    go_wp2_with fail
    refine (GO.out _).mono ?_
    rintro e w1 ⟨rfl, b1⟩
    have hB := hB.trans (b1.mono hB.size); clear b1
    go_wp2_with fail
    refine (RI.out _).mono ?_
    rintro e w1 ⟨rfl, rfl⟩
    go_wp2_with fail
    refine (live9 _).mono ?_
    rintro e w1 ⟨rfl, b1⟩
    have hB := hB.trans (b1.mono hB.size); clear b1
    go_wp2_with fail
    go_ret
    exact ⟨rfl, hB⟩
theorem walk (W : World) (a0 : Int) (w0 : -9223372036854775808 ≤ a0 ∧ a0 ≤ 9223372036854775807) (a1 : Int) (w1 : -9223372036854775808 ≤ a1 ∧ a1 ≤ 9223372036854775807) :
    Calls Try.prog 7 #[.int .i64 a0, .int .i64 a1] W fun e W' => e = .returned (.bool true) ∧ Below W.heap.size W W' := by
  cases h : qrb a0 with
  | false => exact noprime W a0 a1 w0.2 h
  | true =>
    by_cases h2 : a1 < 1 ∨ a0 ≤ a1
    · exact norange W a0 a1 w0.2 h h2
    · obtain ⟨q, rfl, hq, hq2⟩ := qrb_yes h
      obtain ⟨a, rfl⟩ : ∃ a : Nat, a1 = a := ⟨a1.toNat, by omega⟩
      exact main W q a hq hq2 (by omega) (by omega)
end genOrders
end Go.Proofs.Ytmeaakchnellfaa
