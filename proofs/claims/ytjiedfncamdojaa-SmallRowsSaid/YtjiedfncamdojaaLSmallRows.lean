/- SmallRows: each piece transformed, in its place. -/
import Derived.Test.YtjiedfncamdojaaSmall10
namespace Go.Proofs.Ytjiedfncamdojaa
open Go.ChangeShapes Go.WideShapes Go.ChangeAt Go.RowKit
set_option linter.unusedVariables false
namespace smallRows
set_option maxRecDepth 100000 in
theorem far (W : World) (a0 : Option Addr) (n c0 : Nat) (b d : Int) (h : 60 < n) :
    Calls Try.prog 11 #[.slice a0 n c0, .int .i64 b, .int .i64 d] W fun e W' => e = .returned (.bool true) ∧ Below W.heap.size W W' := by
  have g1 : decide (60 < (n : Int)) = true := decide_eq_true (by omega)
  go_enter Try.func11, Try.ntmps11
  go_wp2_with fail
  refine (live10 _).mono ?_
  rintro e w1 ⟨rfl, b1⟩
  go_wp2_with fail
  go_ret
  exact ⟨rfl, b1⟩
set_option maxRecDepth 100000 in
theorem no1 (W : World) (a0 : Option Addr) (n c0 : Nat) (b d : Int) (hn : n ≤ 60) (hd : ¬ (d = 0 ∨ d = 1)) :
    Calls Try.prog 11 #[.slice a0 n c0, .int .i64 b, .int .i64 d] W fun e W' => e = .returned (.bool true) ∧ Below W.heap.size W W' := by
  have g1 : decide (60 < (n : Int)) = false := decide_eq_false (by omega)
  have P := Lib.hid (fun w => rows_no1 a0 n c0 b d w hd hn)
  have D := fun w => r10_dirs d w
  rw [decide_eq_false hd] at D
  have D := Lib.hid D
  clear hd
  go_enter Try.func11, Try.ntmps11
  go_wp2_with fail
  refine (P.out _).mono ?_
  rintro e w1 ⟨rfl, rfl⟩
  go_wp2_with fail
  refine (D.out _).mono ?_
  rintro e w1 ⟨rfl, rfl⟩
  go_wp2_with fail
  refine (live10 _).mono ?_
  rintro e w1 ⟨rfl, b1⟩
  go_wp2_with fail
  go_ret
  exact ⟨rfl, b1⟩
set_option maxRecDepth 100000 in
theorem no2 (W : World) (a0 : Option Addr) (n c0 : Nat) (b d : Int) (hn : n ≤ 60) (hd : d = 0 ∨ d = 1) (hf : few b = false) :
    Calls Try.prog 11 #[.slice a0 n c0, .int .i64 b, .int .i64 d] W fun e W' => e = .returned (.bool true) ∧ Below W.heap.size W W' := by
  have g1 : decide (60 < (n : Int)) = false := decide_eq_false (by omega)
  have P := Lib.hid (fun w => rows_no2 a0 n c0 b d w hd hf hn)
  have D := fun w => r10_dirs d w
  rw [decide_eq_true hd] at D
  have D := Lib.hid D
  have K := fun w => r10_has b w
  rw [hf] at K
  have K := Lib.hid K
  clear hd hf
  go_enter Try.func11, Try.ntmps11
  go_wp2_with fail
  refine (P.out _).mono ?_
  rintro e w1 ⟨rfl, rfl⟩
  go_wp2_with fail
  refine (D.out _).mono ?_
  rintro e w1 ⟨rfl, rfl⟩
  go_wp2_with fail
  refine (K.out _).mono ?_
  rintro e w1 ⟨rfl, rfl⟩
  go_wp2_with fail
  refine (live10 _).mono ?_
  rintro e w1 ⟨rfl, b1⟩
  go_wp2_with fail
  go_ret
  exact ⟨rfl, b1⟩
set_option maxRecDepth 100000 in
theorem no3 (W : World) (a0 : Option Addr) (n c0 b : Nat) (d : Int) (hn : n ≤ 60) (hd : d = 0 ∨ d = 1) (hf : few b = true) (hbad : n = 0 ∨ (0 < n ∧ n % b ≠ 0)) :
    Calls Try.prog 11 #[.slice a0 n c0, .int .i64 b, .int .i64 d] W fun e W' => e = .returned (.bool true) ∧ Below W.heap.size W W' := by
  have g1 : decide (60 < (n : Int)) = false := decide_eq_false (by omega)
  obtain ⟨f1, f5⟩ := few_ok hf
  have P := Lib.hid (fun w => rows_no3 a0 n c0 b d w hd hf hn hbad)
  have D := fun w => r10_dirs d w
  rw [decide_eq_true hd] at D
  have D := Lib.hid D
  have K := fun w => r10_has b w
  rw [hf] at K
  have K := Lib.hid K
  have db : ((b : Int) == 0) = false := by simp; omega
  have db2 : ¬ ((b : Int) = 0) := by omega
  have db3 : ¬ (b = 0) := by omega
  clear hd hf
  rcases hbad with rfl | ⟨h0, hne⟩
  · go_enter Try.func11, Try.ntmps11
    go_wp2_with fail
    refine (P.out _).mono ?_
    rintro e w1 ⟨rfl, rfl⟩
    go_wp2_with fail
    refine (D.out _).mono ?_
    rintro e w1 ⟨rfl, rfl⟩
    go_wp2_with fail
    refine (K.out _).mono ?_
    rintro e w1 ⟨rfl, rfl⟩
    go_wp2_with fail
    refine (live10 _).mono ?_
    rintro e w1 ⟨rfl, b1⟩
    go_wp2_with fail
    go_ret
    exact ⟨rfl, b1⟩
  · have d0 : ((n : Int) == 0) = false := by simp; omega
    have dr : (((n : Int)).tmod (b : Int) != 0) = true := by rw [show ((n : Int)).tmod (b : Int) = ((n % b : Nat) : Int) from rfl]; simp; omega
    have dr2 : (((n : Int) % (b : Int)) != 0) = true := dr
    go_enter Try.func11, Try.ntmps11
    go_wp2_with fail
    refine (P.out _).mono ?_
    rintro e w1 ⟨rfl, rfl⟩
    go_wp2_with fail
    refine (D.out _).mono ?_
    rintro e w1 ⟨rfl, rfl⟩
    go_wp2_with fail
    refine (K.out _).mono ?_
    rintro e w1 ⟨rfl, rfl⟩
    go_wp2_with fail
    refine (live10 _).mono ?_
    rintro e w1 ⟨rfl, b1⟩
    go_wp2_with fail
    go_ret
    exact ⟨rfl, b1⟩
set_option maxRecDepth 100000 in
theorem main (W : World) (a0 : Option Addr) (n c0 b m : Nat) (d : Int) (xs : List Int) (hx : Row W a0 n xs) (hc : n ≤ c0) (hn : n ≤ 60) (hm : n = m * b) (hm0 : 0 < m) (hf : few b = true) (hd : d = 0 ∨ d = 1) :
    Calls Try.prog 11 #[.slice a0 n c0, .int .i64 b, .int .i64 d] W fun e W' => e = .returned (.bool true) ∧ Below W.heap.size W W' := by
  have g1 : decide (60 < (n : Int)) = false := decide_eq_false (by omega)
  obtain ⟨f1, f5⟩ := few_ok hf
  have P := Lib.hid (fun w h => small_rows n b m a0 c0 d xs w h hn hm hm0 hf hd)
  have Q := Lib.hid (fun w h => r10_rows n b m a0 c0 d xs w h hn hc hm hm0 hf hd)
  have D := fun w => r10_dirs d w
  rw [decide_eq_true hd] at D
  have D := Lib.hid D
  have K := fun w => r10_has b w
  rw [hf] at K
  have K := Lib.hid K
  have HX := Lib.hid hx
  have hB : Below W.heap.size W W := Below.refl _ _
  have hn0 : 0 < n := by rw [hm]; exact Nat.mul_pos hm0 f1
  have d0 : ((n : Int) == 0) = false := by simp; omega
  have dr : ((n : Int)).tmod (b : Int) = 0 := by rw [show ((n : Int)).tmod (b : Int) = ((n % b : Nat) : Int) from rfl, hm, Nat.mul_mod_left]; rfl
  have db : ((b : Int) == 0) = false := by simp; omega
  have db2 : ¬ ((b : Int) = 0) := by omega
  have db3 : ¬ (b = 0) := by omega
  clear hx hf hd hm
  generalize rowsl (rdir b d) xs b m = ys at *
  go_enter Try.func11, Try.ntmps11
  go_wp2_with fail
  refine (P.out _ HX.out).mono ?_
  rintro e w1 ⟨p1, d1, rfl, hr, b1⟩
  have RP := Lib.hid hr; clear hr; have HX := Lib.hid (HX.out.below b1); have hB := hB.trans (b1.mono hB.size); clear b1
  go_wp2_with fail
  refine (D.out _).mono ?_
  rintro e w1 ⟨rfl, rfl⟩
  go_wp2_with fail
  refine (K.out _).mono ?_
  rintro e w1 ⟨rfl, rfl⟩
  go_wp2_with fail
  refine (Q.out _ HX.out).mono ?_
  rintro e w1 ⟨p2, d2, rfl, hr, b1⟩
  have RZ := Lib.hid hr; clear hr; have RP := Lib.hid (RP.out.below b1); have hB := hB.trans (b1.mono hB.size); clear b1
  go_wp2_with fail
  refine (c_same RP.out RZ.out).mono ?_
  rintro e w2 ⟨rfl, b1⟩
  have hB := hB.trans (b1.mono hB.size); clear b1
  go_wp2_with fail
  refine (live10 _).mono ?_
  rintro e w2 ⟨rfl, b1⟩
  have hB := hB.trans (b1.mono hB.size); clear b1
  go_wp2_with fail
  go_ret
  exact ⟨rfl, hB⟩
theorem walk (W : World) (a0 : Option Addr) (n0 c0 : Nat) (w0 : IsRow .u64 W a0 n0 c0) (a1 : Int) (w1 : -9223372036854775808 ≤ a1 ∧ a1 ≤ 9223372036854775807) (a2 : Int) (w2 : -9223372036854775808 ≤ a2 ∧ a2 ≤ 9223372036854775807) :
    Calls Try.prog 11 #[.slice a0 n0 c0, .int .i64 a1, .int .i64 a2] W fun e W' => e = .returned (.bool true) ∧ Below W.heap.size W W' := by
  by_cases h : 60 < n0
  · exact far W a0 n0 c0 a1 a2 h
  have hn : n0 ≤ 60 := by omega
  by_cases hd : a2 = 0 ∨ a2 = 1
  · cases hf : few a1 with
    | false => exact no2 W a0 n0 c0 a1 a2 hn hd hf
    | true =>
      obtain ⟨b, rfl⟩ : ∃ b : Nat, a1 = b := ⟨a1.toNat, by have := of_decide_eq_true hf; omega⟩
      obtain ⟨f1, f5⟩ := few_ok hf
      by_cases hbad : n0 = 0 ∨ (0 < n0 ∧ n0 % b ≠ 0)
      · exact no3 W a0 n0 c0 b a2 hn hd hf hbad
      · have h0 : 0 < n0 := by omega
        have hmod : n0 % b = 0 := by
          by_cases e : n0 % b = 0
          · exact e
          · exact absurd (.inr ⟨h0, e⟩) hbad
        obtain ⟨xs, hx⟩ := Row.of_isRow w0 (by omega)
        have hm : n0 = n0 / b * b := (Nat.div_mul_cancel (Nat.dvd_of_mod_eq_zero hmod)).symm
        refine main W a0 n0 c0 b (n0 / b) a2 xs hx (by obtain ⟨_, _, hc, _⟩ := w0; exact hc) hn hm (Nat.pos_of_ne_zero fun e => ?_) hf hd
        rw [e, Nat.zero_mul] at hm
        omega
  · exact no1 W a0 n0 c0 a1 a2 hn hd
end smallRows
end Go.Proofs.Ytjiedfncamdojaa
