/- PermBits: for every size: the order of numbers read backwards bit by bit, twice a row's own, or why there is none. -/
import Derived.Test.YtkfjmmhcbbfhdaaPerm10
import Derived.Test.YtkfjmmhcbbfhdaaPerm4
namespace Go.Proofs.Ytkfjmmhcbbfhdaa
open Go.ChangeShapes Go.WideShapes Go.ChangeAt Go.RowKit
set_option linter.unusedVariables false
namespace permBits
theorem far (W : World) (n : Int) (a1 : Option Addr) (m c1 : Nat) (h1 : 600 < n) (h2 : n ≤ 16777216) :
    Calls Try.prog 12 #[.int .i64 n, .slice a1 m c1] W fun e W' => e = .returned (.bool true) ∧ Below W.heap.size W W' := by
  have d1 : decide (600 < n) = true := decide_eq_true h1
  have d2 : decide (n ≤ 16777216) = true := decide_eq_true h2
  have hB : Below W.heap.size W W := Below.refl _ _
  go_enter Try.func12, Try.ntmps12
  go_wp2_with fail
  refine (live8 _).mono ?_
  rintro e w1 ⟨rfl, b1⟩
  have hB := hB.trans (b1.mono hB.size); clear b1
  go_wp2_with fail
  go_ret
  exact ⟨rfl, hB⟩
theorem outside (W : World) (n : Int) (a1 : Option Addr) (m c1 : Nat) (h : n < 1 ∨ 16777216 < n) :
    Calls Try.prog 12 #[.int .i64 n, .slice a1 m c1] W fun e W' => e = .returned (.bool true) ∧ Below W.heap.size W W' := by
  have BI := Lib.hid (fun w => perm_bitsno n 3 w (.inl ⟨h, rfl⟩))
  have hB : Below W.heap.size W W := Below.refl _ _
  rcases h with h | h
  · have d1 : decide (600 < n) = false := decide_eq_false (by omega)
    have d2 : decide (n < 1) = true := decide_eq_true h
    go_enter Try.func12, Try.ntmps12
    go_wp2_with fail
    refine (BI.out _).mono ?_
    rintro e w1 ⟨rfl, rfl⟩
    go_wp2_with fail
    refine (live8 _).mono ?_
    rintro e w1 ⟨rfl, b1⟩
    have hB := hB.trans (b1.mono hB.size); clear b1
    go_wp2_with fail
    go_ret
    exact ⟨rfl, hB⟩
  · have d1 : decide (600 < n) = true := decide_eq_true (by omega)
    have d3 : decide (n ≤ 16777216) = false := decide_eq_false (by omega)
    have d2 : decide (n < 1) = false := decide_eq_false (by omega)
    have d4 : decide (16777216 < n) = true := decide_eq_true h
    go_enter Try.func12, Try.ntmps12
    go_wp2_with fail
    refine (BI.out _).mono ?_
    rintro e w1 ⟨rfl, rfl⟩
    go_wp2_with fail
    refine (live8 _).mono ?_
    rintro e w1 ⟨rfl, b1⟩
    have hB := hB.trans (b1.mono hB.size); clear b1
    go_wp2_with fail
    go_ret
    exact ⟨rfl, hB⟩
theorem nopower (W : World) (n : Int) (a1 : Option Addr) (m c1 : Nat) (h1 : 1 ≤ n) (h2 : n ≤ 600) (hp : pwb n = false) :
    Calls Try.prog 12 #[.int .i64 n, .slice a1 m c1] W fun e W' => e = .returned (.bool true) ∧ Below W.heap.size W W' := by
  have BI := Lib.hid (fun w => perm_bitsno n 2 w (.inr ⟨h1, by omega, hp, rfl⟩))
  have PO := fun w => r8_power n w (by omega)
  rw [hp] at PO
  have PO := Lib.hid PO
  have hB : Below W.heap.size W W := Below.refl _ _
  have d1 : decide (600 < n) = false := decide_eq_false (by omega)
  have d2 : decide (n < 1) = false := decide_eq_false (by omega)
  have d3 : decide (16777216 < n) = false := decide_eq_false (by omega)
  clear hp
  go_enter Try.func12, Try.ntmps12
  go_wp2_with fail
  refine (BI.out _).mono ?_
  rintro e w1 ⟨rfl, rfl⟩
  go_wp2_with fail
  refine (PO.out _).mono ?_
  rintro e w1 ⟨rfl, rfl⟩
  go_wp2_with fail
  refine (live8 _).mono ?_
  rintro e w1 ⟨rfl, b1⟩
  have hB := hB.trans (b1.mono hB.size); clear b1
  go_wp2_with fail
  go_ret
  exact ⟨rfl, hB⟩
set_option maxRecDepth 100000 in
theorem main (W : World) (t : Nat) (a1 : Option Addr) (m c1 : Nat) (xs : List Int) (hx : Row W a1 m xs) (h2 : 2 ^ t ≤ 600) (hm : m = 2 ^ t) :
    Calls Try.prog 12 #[.int .i64 ((2 ^ t : Nat) : Int), .slice a1 m c1] W fun e W' => e = .returned (.bool true) ∧ Below W.heap.size W W' := by
  have h1 : 1 ≤ 2 ^ t := Nat.pow_pos (by omega)
  have BI := Lib.hid (fun w => perm_bits t w (by omega))
  have RB := Lib.hid (fun w => r8_bits t w (by omega))
  have PO := fun w => r8_power ((2 ^ t : Nat) : Int) w (by omega)
  rw [pwb_yes (by omega) (by rw [Int.toNat_natCast]; exact ⟨t, rfl⟩)] at PO
  have PO := Lib.hid PO
  have hB : Below W.heap.size W W := Below.refl _ _
  have AP := Lib.hid (fun p c q d w ys h k => c_apply p q (2 ^ t) c d (bitl t) ys w h k (bitl_right t))
  have BK := Lib.hid (movel_back t xs (by rw [hx.len, hm]))
  subst hm
  have R3 := Lib.hid hx
  clear hx
  generalize bitl t = bs at *
  generalize 2 ^ t = N at *
  have d1 : decide (600 < (N : Int)) = false := decide_eq_false (by omega)
  have d2 : decide ((N : Int) < 1) = false := decide_eq_false (by omega)
  have d3 : decide (16777216 < (N : Int)) = false := decide_eq_false (by omega)
  have d1' : decide (600 < N) = false := decide_eq_false (by omega)
  have d2' : decide (N < 1) = false := decide_eq_false (by omega)
  have d3' : decide (16777216 < N) = false := decide_eq_false (by omega)
  go_enter Try.func12, Try.ntmps12
  go_wp2_with fail
  refine (BI.out _).mono ?_
  rintro e w1 ⟨p1, k1, rfl, h, b1⟩
  have R1 := Lib.hid h; clear h
  have R3 := Lib.hid (R3.out.below b1); have hB := hB.trans (b1.mono hB.size); clear b1
  go_wp2_with fail
  refine (PO.out _).mono ?_
  rintro e w1 ⟨rfl, rfl⟩
  go_wp2_with fail
  refine (RB.out _).mono ?_
  rintro e w1 ⟨p2, k2, rfl, h, b1⟩
  have R2 := Lib.hid h; clear h
  have R1 := Lib.hid (R1.out.below b1); have R3 := Lib.hid (R3.out.below b1); have hB := hB.trans (b1.mono hB.size); clear b1
  go_wp2_with fail
  refine (c_samei R1.out R2.out).mono ?_
  rintro e w1 ⟨rfl, b1⟩
  have R1 := Lib.hid (R1.out.below b1); have R3 := Lib.hid (R3.out.below b1); have hB := hB.trans (b1.mono hB.size); clear b1
  go_wp2_with fail
  refine (AP.out _ _ _ _ _ _ R1.out R3.out).mono ?_
  rintro e w1 ⟨p4, k4, rfl, h, b1⟩
  have R4 := Lib.hid h; clear h
  have R1 := Lib.hid (R1.out.below b1); have R3 := Lib.hid (R3.out.below b1); have hB := hB.trans (b1.mono hB.size); clear b1
  go_wp2_with fail
  refine (AP.out _ _ _ _ _ _ R1.out R4.out).mono ?_
  rintro e w1 ⟨p5, k5, rfl, h, b1⟩
  have h := Eq.subst (motive := fun zs => Row w1 p5 N zs) BK.out h
  have R5 := Lib.hid h; clear h
  have R3 := Lib.hid (R3.out.below b1); have hB := hB.trans (b1.mono hB.size); clear b1
  go_wp2_with fail
  refine (c_same R5.out R3.out).mono ?_
  rintro e w1 ⟨rfl, b1⟩
  have hB := hB.trans (b1.mono hB.size); clear b1
  go_wp2_with fail
  refine (live8 _).mono ?_
  rintro e w1 ⟨rfl, b1⟩
  have hB := hB.trans (b1.mono hB.size); clear b1
  go_wp2_with fail
  go_ret
  exact ⟨rfl, hB⟩
set_option maxRecDepth 100000 in
theorem other (W : World) (t : Nat) (a1 : Option Addr) (m c1 : Nat) (h2 : 2 ^ t ≤ 600) (hm : m ≠ 2 ^ t) (hl : m ≤ 9223372036854775807) :
    Calls Try.prog 12 #[.int .i64 ((2 ^ t : Nat) : Int), .slice a1 m c1] W fun e W' => e = .returned (.bool true) ∧ Below W.heap.size W W' := by
  have h1 : 1 ≤ 2 ^ t := Nat.pow_pos (by omega)
  have BI := Lib.hid (fun w => perm_bits t w (by omega))
  have RB := Lib.hid (fun w => r8_bits t w (by omega))
  have PO := fun w => r8_power ((2 ^ t : Nat) : Int) w (by omega)
  rw [pwb_yes (by omega) (by rw [Int.toNat_natCast]; exact ⟨t, rfl⟩)] at PO
  have PO := Lib.hid PO
  have hB : Below W.heap.size W W := Below.refl _ _
  generalize bitl t = bs at *
  generalize 2 ^ t = N at *
  have d1 : decide (600 < (N : Int)) = false := decide_eq_false (by omega)
  have d2 : decide ((N : Int) < 1) = false := decide_eq_false (by omega)
  have d3 : decide (16777216 < (N : Int)) = false := decide_eq_false (by omega)
  have d1' : decide (600 < N) = false := decide_eq_false (by omega)
  have d2' : decide (N < 1) = false := decide_eq_false (by omega)
  have d3' : decide (16777216 < N) = false := decide_eq_false (by omega)
  have dm : ((m : Int) != (N : Int)) = true := by simp; omega
  have dm' : (m != N) = true := by simp; omega
  go_enter Try.func12, Try.ntmps12
  go_wp2_with fail
  refine (BI.out _).mono ?_
  rintro e w1 ⟨p1, k1, rfl, h, b1⟩
  have R1 := Lib.hid h; clear h
  have hB := hB.trans (b1.mono hB.size); clear b1
  go_wp2_with fail
  refine (PO.out _).mono ?_
  rintro e w1 ⟨rfl, rfl⟩
  go_wp2_with fail
  refine (RB.out _).mono ?_
  rintro e w1 ⟨p2, k2, rfl, h, b1⟩
  have R2 := Lib.hid h; clear h
  have R1 := Lib.hid (R1.out.below b1); have hB := hB.trans (b1.mono hB.size); clear b1
  go_wp2_with fail
  refine (c_samei R1.out R2.out).mono ?_
  rintro e w1 ⟨rfl, b1⟩
  have hB := hB.trans (b1.mono hB.size); clear b1
  go_wp2_with fail
  refine (live8 _).mono ?_
  rintro e w1 ⟨rfl, b1⟩
  have hB := hB.trans (b1.mono hB.size); clear b1
  go_wp2_with fail
  go_ret
  exact ⟨rfl, hB⟩
theorem walk (W : World) (a0 : Int) (w0 : -9223372036854775808 ≤ a0 ∧ a0 ≤ 9223372036854775807) (a1 : Option Addr) (n1 c1 : Nat) (w1 : IsRow .u64 W a1 n1 c1) :
    Calls Try.prog 12 #[.int .i64 a0, .slice a1 n1 c1] W fun e W' => e = .returned (.bool true) ∧ Below W.heap.size W W' := by
  by_cases h1 : a0 < 1 ∨ 16777216 < a0
  · exact outside W a0 a1 n1 c1 h1
  by_cases h2 : 600 < a0
  · exact far W a0 a1 n1 c1 h2 (by omega)
  cases hp : pwb a0 with
  | false => exact nopower W a0 a1 n1 c1 (by omega) (by omega) hp
  | true =>
    obtain ⟨h3, t, ht⟩ := pwb_isp hp
    obtain rfl : a0 = ((2 ^ t : Nat) : Int) := by omega
    by_cases hm : n1 = 2 ^ t
    · obtain ⟨xs, hx⟩ := Row.of_isRow w1 (by omega)
      exact main W t a1 n1 c1 xs hx (by omega) hm
    · exact other W t a1 n1 c1 (by omega) hm (by
        obtain ⟨xs, hn, _⟩ := w1
        first | omega | skip)
end permBits
end Go.Proofs.Ytkfjmmhcbbfhdaa
