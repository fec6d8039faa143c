/- StockPasses: a pass. -/
import Derived.Test.YtjiedfncamdojaaStock4
namespace Go.Proofs.Ytjiedfncamdojaa
open Go.ChangeShapes Go.WideShapes Go.ChangeAt Go.RowKit
set_option linter.unusedVariables false
namespace stockPasses
theorem rowat4 (w : World) (a b c d : Int) : RowAt (w.alloc (.cells #[.int .u64 a, .int .u64 b, .int .u64 c, .int .u64 d] 24)) w.heap.size 24 [a, b, c, d] := by
  unfold RowAt; rw [heap_alloc_new]; rfl
theorem pass1234 : passl [1, 2, 3, 4] [1, 0, 0, 0] 1 4 = [4, 18446744069414584319, 6, 0] := by decide +kernel
theorem has8 : hasp 8 = true := by decide +kernel
theorem has4 : hasp 4 = true := by decide +kernel
theorem has1 : hasp 1 = true := by decide +kernel
set_option maxRecDepth 100000 in
theorem live11 (w : World) : Calls Try.prog 49 #[] w fun e w' => e = .returned (.bool true) ∧ Below w.heap.size w w' := by
  have b1 : Below w.heap.size w (w.alloc (.cells #[.int .u64 1, .int .u64 2, .int .u64 3, .int .u64 4] 24)) := (Below.refl _ _).alloc (Nat.le_refl _) _
  have b2 : Below w.heap.size w ((w.alloc (.cells #[.int .u64 1, .int .u64 2, .int .u64 3, .int .u64 4] 24)).alloc (.cells #[.int .u64 1, .int .u64 0, .int .u64 0, .int .u64 0] 24)) := b1.alloc (by simp) _
  have r1 := (Row.of_at (rowat4 w 1 2 3 4) (by decide) (n := 4) rfl (by omega)).alloc (.cells #[.int .u64 1, .int .u64 0, .int .u64 0, .int .u64 0] 24)
  have r2 := Row.of_at (rowat4 (w.alloc (.cells #[.int .u64 1, .int .u64 2, .int .u64 3, .int .u64 4] 24)) 1 0 0 0) (by decide) (n := 4) rfl (by omega)
  rw [show (w.alloc (.cells #[.int .u64 1, .int .u64 2, .int .u64 3, .int .u64 4] 24)).heap.size = w.heap.size + 1 by simp] at r2
  have P := Lib.hid (pass_ok 1 2 4 _ _ 4 4 _ _ _ rfl (by omega) (by omega) (by omega) has4 has1 r1 r2)
  have H8 := fun w => stock_has 8 w
  rw [has8] at H8
  have H8 := Lib.hid H8
  rw [pass1234] at P
  have B2 := Lib.hid b2
  clear b1 b2 r1 r2
  go_enter Try.func49, Try.ntmps49
  go_wp2_with fail
  refine P.out.mono ?_
  rintro e w1 ⟨p, c, rfl, hq, b3⟩
  have B3 := Lib.hid (B2.out.trans (b3.mono B2.out.size))
  have HQ := Lib.hid (Row.alloc hq (.cells #[.int .u64 4, .int .u64 18446744069414584319, .int .u64 6, .int .u64 0] 24))
  have R3 := Lib.hid (Row.of_at (rowat4 w1 4 18446744069414584319 6 0) (by decide) (n := 4) rfl (by omega))
  have B4 := Lib.hid (B3.out.alloc B3.out.size (.cells #[.int .u64 4, .int .u64 18446744069414584319, .int .u64 6, .int .u64 0] 24))
  clear hq b3
  go_wp2_with fail
  generalize w1.alloc (.cells #[.int .u64 4, .int .u64 18446744069414584319, .int .u64 6, .int .u64 0] 24) = W3 at *
  refine (c_same HQ.out R3.out).mono ?_
  rintro e w4 ⟨rfl, b5⟩
  go_wp2_with fail
  refine (H8.out _).mono ?_
  rintro e w5 ⟨rfl, rfl⟩
  go_wp2_with fail
  go_ret
  exact ⟨rfl, B4.out.trans (b5.mono B4.out.size)⟩
theorem hasp_low {s : Int} (h : s < 1) : hasp s = false := by
  unfold hasp; rw [pwb_no (fun x => by omega), Bool.and_false]
theorem hasp_pw {s : Int} (h : pwb s = false) : hasp s = false := by unfold hasp; rw [h, Bool.and_false]
/-- What is told of a pass. -/
def told (n s m : Int) : Int := if hasp n = false then 4 else if s < 1 then 2 else if n / 2 < s then 2 else if pwb s = false then 2 else if m = n then 0 else 5
theorem check11 (n s m : Int) (w : World) (hn : 0 ≤ n ∧ n ≤ 130) (hm : 0 ≤ m ∧ m ≤ 130) (hs : -9223372036854775808 ≤ s ∧ s ≤ 9223372036854775807) : Calls Try.prog 51 #[.int .i64 n, .int .i64 s, .int .i64 m] w fun e w' => e = .returned (.int .i64 (told n s m)) ∧ w = w' := by
  have H := fun w => r11_has n w (by omega)
  have P := fun w => r8_power s w (by omega)
  obtain ⟨n0, n1⟩ := hn
  obtain ⟨m0, m1⟩ := hm
  cases hh : hasp n
  · have T := Lib.hid (show told n s m = 4 by unfold told; rw [if_pos hh])
    rw [hh] at H
    have H := Lib.hid H
    clear hh P
    go_enter Try.func51, Try.ntmps51
    go_wp2_with fail
    refine (H.out _).mono ?_
    rintro e w1 ⟨rfl, rfl⟩
    go_wp2_with fail
    go_ret
    exact ⟨ret_i64 T.out.symm, rfl⟩
  · rw [hh] at H
    have H := Lib.hid H
    by_cases h1 : s < 1
    · have T := Lib.hid (show told n s m = 2 by unfold told; rw [if_neg (by rw [hh]; decide), if_pos h1])
      have d1 : decide (s < 1) = true := decide_eq_true h1
      clear hh P
      go_enter Try.func51, Try.ntmps51
      go_wp2_with fail
      refine (H.out _).mono ?_
      rintro e w1 ⟨rfl, rfl⟩
      go_wp2_with fail
      go_ret
      exact ⟨ret_i64 T.out.symm, rfl⟩
    have d1 : decide (s < 1) = false := decide_eq_false h1
    by_cases h2 : n / 2 < s
    · have T := Lib.hid (show told n s m = 2 by unfold told; rw [if_neg (by rw [hh]; decide), if_neg h1, if_pos h2])
      have d2 : decide (n / 2 < s) = true := decide_eq_true h2
      clear hh P h1
      go_enter Try.func51, Try.ntmps51
      go_wp2_with fail
      refine (H.out _).mono ?_
      rintro e w1 ⟨rfl, rfl⟩
      go_wp2_with fail
      go_ret
      exact ⟨ret_i64 T.out.symm, rfl⟩
    have d2 : decide (n / 2 < s) = false := decide_eq_false h2
    cases hp : pwb s
    · have T := Lib.hid (show told n s m = 2 by unfold told; rw [if_neg (by rw [hh]; decide), if_neg h1, if_neg h2, if_pos hp])
      rw [hp] at P
      have P := Lib.hid P
      clear hh hp h1 h2
      go_enter Try.func51, Try.ntmps51
      go_wp2_with fail
      refine (H.out _).mono ?_
      rintro e w1 ⟨rfl, rfl⟩
      go_wp2_with fail
      refine (P.out _).mono ?_
      rintro e w1 ⟨rfl, rfl⟩
      go_wp2_with fail
      go_ret
      exact ⟨ret_i64 T.out.symm, rfl⟩
    · rw [hp] at P
      have P := Lib.hid P
      by_cases hmn : m = n
      · have T := Lib.hid (show told n s m = 0 by unfold told; rw [if_neg (by rw [hh]; decide), if_neg h1, if_neg h2, if_neg (by rw [hp]; decide), if_pos hmn])
        have d3 : (m != n) = false := by simpa using hmn
        clear hh hp h1 h2 hmn
        go_enter Try.func51, Try.ntmps51
        go_wp2_with fail
        refine (H.out _).mono ?_
        rintro e w1 ⟨rfl, rfl⟩
        go_wp2_with fail
        refine (P.out _).mono ?_
        rintro e w1 ⟨rfl, rfl⟩
        go_wp2_with fail
        go_ret
        exact ⟨ret_i64 T.out.symm, rfl⟩
      · have T := Lib.hid (show told n s m = 5 by unfold told; rw [if_neg (by rw [hh]; decide), if_neg h1, if_neg h2, if_neg (by rw [hp]; decide), if_neg hmn])
        have d3 : (m != n) = true := by simpa using hmn
        clear hh hp h1 h2 hmn
        go_enter Try.func51, Try.ntmps51
        go_wp2_with fail
        refine (H.out _).mono ?_
        rintro e w1 ⟨rfl, rfl⟩
        go_wp2_with fail
        refine (P.out _).mono ?_
        rintro e w1 ⟨rfl, rfl⟩
        go_wp2_with fail
        go_ret
        exact ⟨ret_i64 T.out.symm, rfl⟩
theorem pass_no (a0 a2 : Option Addr) (n m c0 c2 : Nat) (s z : Int) (W : World) (hn : n ≤ 130) (hm : m ≤ 130) (hs : -9223372036854775808 ≤ s ∧ s ≤ 9223372036854775807) (ht : told n s m = z) (hz : z ≠ 0) : Calls Try.prog 50 #[.slice a0 n c0, .int .i64 s, .slice a2 m c2] W fun e w' => e = .returned (.tuple #[.slice none 0 0, .int .i64 z]) ∧ W = w' := by
  have H := fun w => stock_has (n : Int) w
  have H2 := fun w => stock_has s w
  obtain ⟨s0, s1⟩ := hs
  unfold told at ht
  cases hh : hasp (n : Int)
  · rw [if_pos hh] at ht
    subst ht
    rw [hh] at H
    have H := Lib.hid H
    clear hh H2 hz
    go_enter Try.func50, Try.ntmps50
    go_wp2_with fail
    refine (H.out _).mono ?_
    rintro e w1 ⟨rfl, rfl⟩
    go_wp2_with fail
    go_ret2
    exact ⟨rfl, rfl⟩
  rw [if_neg (by rw [hh]; decide)] at ht
  rw [hh] at H
  have H := Lib.hid H
  clear hh
  have arg : (hasp s = false ∨ (n : Int) / 2 < s) → z = 2 → Calls Try.prog 50 #[.slice a0 n c0, .int .i64 s, .slice a2 m c2] W fun e w' => e = .returned (.tuple #[.slice none 0 0, .int .i64 z]) ∧ W = w' := by
    rintro hor rfl
    clear ht hz
    cases hp : hasp s
    · rw [hp] at H2
      have H2 := Lib.hid H2
      clear hp hor
      go_enter Try.func50, Try.ntmps50
      go_wp2_with fail
      refine (H.out _).mono ?_
      rintro e w1 ⟨rfl, rfl⟩
      go_wp2_with fail
      refine (H2.out _).mono ?_
      rintro e w1 ⟨rfl, rfl⟩
      go_wp2_with fail
      go_ret2
      exact ⟨rfl, rfl⟩
    · rw [hp] at H2 hor
      have H2 := Lib.hid H2
      have d2 : decide ((n : Int) / 2 < s) = true := decide_eq_true (by rcases hor with h | h; cases h; exact h)
      clear hp hor
      go_enter Try.func50, Try.ntmps50
      go_wp2_with fail
      refine (H.out _).mono ?_
      rintro e w1 ⟨rfl, rfl⟩
      go_wp2_with fail
      refine (H2.out _).mono ?_
      rintro e w1 ⟨rfl, rfl⟩
      go_wp2_with fail
      go_ret2
      exact ⟨rfl, rfl⟩
  by_cases h1 : s < 1
  · rw [if_pos h1] at ht; exact arg (.inl (hasp_low h1)) ht.symm
  rw [if_neg h1] at ht
  by_cases h2 : (n : Int) / 2 < s
  · rw [if_pos h2] at ht; exact arg (.inr h2) ht.symm
  rw [if_neg h2] at ht
  cases hp : pwb s
  · rw [if_pos hp] at ht; exact arg (.inl (hasp_pw hp)) ht.symm
  rw [if_neg (by rw [hp]; decide)] at ht
  by_cases hmn : (m : Int) = n
  · rw [if_pos hmn] at ht; exact absurd ht.symm hz
  rw [if_neg hmn] at ht
  subst ht
  have hps : hasp s = true := by unfold hasp; rw [hp, Bool.and_true]; exact decide_eq_true (by omega)
  rw [hps] at H2
  have H2 := Lib.hid H2
  have d2 : decide ((n : Int) / 2 < s) = false := decide_eq_false h2
  have d3 : ((m : Int) != (n : Int)) = true := by simpa using hmn
  clear hps hp hmn arg hz h1 h2
  go_enter Try.func50, Try.ntmps50
  go_wp2_with fail
  refine (H.out _).mono ?_
  rintro e w1 ⟨rfl, rfl⟩
  go_wp2_with fail
  refine (H2.out _).mono ?_
  rintro e w1 ⟨rfl, rfl⟩
  go_wp2_with fail
  go_ret2
  exact ⟨rfl, rfl⟩
theorem told_ok {n m : Nat} {s : Int} (ht : told n s m = 0) : hasp n = true ∧ hasp s = true ∧ m = n ∧ ∃ s' h : Nat, s = s' ∧ 2 * s' * h = n ∧ 0 < s' ∧ 0 < h ∧ n ≤ 16777216 := by
  unfold told at ht
  cases hh : hasp (n : Int)
  · rw [if_pos hh] at ht; omega
  rw [if_neg (by rw [hh]; decide)] at ht
  by_cases h1 : s < 1
  · rw [if_pos h1] at ht; omega
  rw [if_neg h1] at ht
  by_cases h2 : (n : Int) / 2 < s
  · rw [if_pos h2] at ht; omega
  rw [if_neg h2] at ht
  cases hp : pwb s
  · rw [if_pos hp] at ht; omega
  rw [if_neg (by rw [hp]; decide)] at ht
  by_cases hmn : (m : Int) = n
  · have hh' := hh
    unfold hasp at hh'
    have hn : n ≤ 16777216 := by
      by_cases h : (n : Int) ≤ 16777216
      · omega
      · rw [decide_eq_false h] at hh'; cases hh'
    have hn2 : pwb n = true := by
      rw [decide_eq_true (by omega : (n : Int) ≤ 16777216)] at hh'
      simpa using hh'
    obtain ⟨_, a, ha⟩ := pwb_isp hn2
    obtain ⟨_, b, hb⟩ := pwb_isp hp
    rw [Int.toNat_natCast] at ha
    obtain ⟨s', rfl⟩ : ∃ s' : Nat, s = s' := ⟨s.toNat, by omega⟩
    rw [Int.toNat_natCast] at hb
    have hps : hasp (s' : Int) = true := by unfold hasp; rw [hp, Bool.and_true]; exact decide_eq_true (by omega)
    have hlt : b < a := by
      by_cases h : b < a
      · exact h
      · have : 2 ^ a ≤ 2 ^ b := Nat.pow_le_pow_right (by omega) (by omega)
        omega
    refine ⟨rfl, hps, by omega, s', 2 ^ (a - b - 1), rfl, ?_, by omega, Nat.pow_pos (by omega), hn⟩
    rw [ha, hb, show 2 * 2 ^ b = 2 ^ (b + 1) by rw [Nat.pow_succ]; omega, ← Nat.pow_add]
    congr 1
    omega
  · rw [if_neg hmn] at ht; omega
set_option maxRecDepth 100000 in
theorem far (W : World) (a0 a2 : Option Addr) (n m c0 c2 : Nat) (s : Int) (h : 130 < n ∨ (n ≤ 130 ∧ 130 < m)) :
    Calls Try.prog 12 #[.slice a0 n c0, .int .i64 s, .slice a2 m c2] W fun e W' => e = .returned (.bool true) ∧ Below W.heap.size W W' := by
  rcases h with h | ⟨h, h'⟩
  · have g1 : decide (130 < (n : Int)) = true := decide_eq_true (by omega)
    go_enter Try.func12, Try.ntmps12
    go_wp2_with fail
    refine (live11 _).mono ?_
    rintro e w1 ⟨rfl, b1⟩
    go_wp2_with fail
    go_ret
    exact ⟨rfl, b1⟩
  · have g1 : decide (130 < (n : Int)) = false := decide_eq_false (by omega)
    have g2 : decide (130 < (m : Int)) = true := decide_eq_true (by omega)
    go_enter Try.func12, Try.ntmps12
    go_wp2_with fail
    refine (live11 _).mono ?_
    rintro e w1 ⟨rfl, b1⟩
    go_wp2_with fail
    go_ret
    exact ⟨rfl, b1⟩
set_option maxRecDepth 100000 in
theorem noth (W : World) (a0 a2 : Option Addr) (n m c0 c2 : Nat) (s z : Int) (hn : n ≤ 130) (hm : m ≤ 130) (hs : -9223372036854775808 ≤ s ∧ s ≤ 9223372036854775807) (ht : told n s m = z) (hz : z ≠ 0) :
    Calls Try.prog 12 #[.slice a0 n c0, .int .i64 s, .slice a2 m c2] W fun e W' => e = .returned (.bool true) ∧ Below W.heap.size W W' := by
  have g1 : decide (130 < (n : Int)) = false := decide_eq_false (by omega)
  have g2 : decide (130 < (m : Int)) = false := decide_eq_false (by omega)
  have P := Lib.hid (fun w => pass_no a0 a2 n m c0 c2 s z w hn hm hs ht hz)
  have C := fun w => check11 n s m w (by omega) (by omega) hs
  rw [ht] at C
  have C := Lib.hid C
  have H1 := Lib.hid (fun w => stock_has (n : Int) w)
  have H2 := Lib.hid (fun w => r11_has (n : Int) w (by omega))
  have hz' : (z != 0) = true := by simpa using hz
  have hz2 : (z == 0) = false := by simpa using hz
  clear ht hz
  generalize hasp (n : Int) = hb at *
  go_enter Try.func12, Try.ntmps12
  go_wp2_with fail
  refine (P.out _).mono ?_
  rintro e w1 ⟨rfl, rfl⟩
  go_wp2_with fail
  refine (C.out _).mono ?_
  rintro e w1 ⟨rfl, rfl⟩
  go_wp2_with fail
  refine (H1.out _).mono ?_
  rintro e w1 ⟨rfl, rfl⟩
  go_wp2_with fail
  refine (H2.out _).mono ?_
  rintro e w1 ⟨rfl, rfl⟩
  go_wp2_with fail
  refine (live11 _).mono ?_
  rintro e w1 ⟨rfl, b1⟩
  go_wp2_with fail
  go_ret
  exact ⟨rfl, b1⟩
set_option maxRecDepth 100000 in
theorem main (W : World) (a0 a2 : Option Addr) (n c0 c2 s h : Nat) (xs ws : List Int) (hx : Row W a0 n xs) (hw : Row W a2 n ws) (hn : n ≤ 130) (ht : told n s n = 0) (hsh : 2 * s * h = n) (hs : 0 < s) (hh : 0 < h) (pn : hasp n = true) (ps : hasp s = true) (hsb : s ≤ 130) :
    Calls Try.prog 12 #[.slice a0 n c0, .int .i64 s, .slice a2 n c2] W fun e W' => e = .returned (.bool true) ∧ Below W.heap.size W W' := by
  have g1 : decide (130 < (n : Int)) = false := decide_eq_false (by omega)
  have P := Lib.hid (fun w h1 h2 => pass_ok s h n a0 a2 c0 c2 xs ws w hsh hs hh (by omega) pn ps h1 h2)
  have R := Lib.hid (fun w h1 h2 => r11_pass s h n a0 a2 c0 c2 xs ws w hsh hs hh (by omega) h1 h2)
  have C := fun w => check11 n s n w (by omega) (by omega) (by omega)
  rw [ht] at C
  have C := Lib.hid C
  have H1 := Lib.hid (fun w => stock_has (n : Int) w)
  have H2 := Lib.hid (fun w => r11_has (n : Int) w (by omega))
  have HX := Lib.hid hx
  have HW := Lib.hid hw
  have hB : Below W.heap.size W W := Below.refl _ _
  clear ht hx hw hsh pn ps
  generalize hasp (n : Int) = hb at *
  go_enter Try.func12, Try.ntmps12
  go_wp2_with fail
  refine (P.out _ HX.out HW.out).mono ?_
  rintro e w1 ⟨p1, d1, rfl, hr, b1⟩
  have RP := Lib.hid hr; clear hr; have HX := Lib.hid (HX.out.below b1); have HW := Lib.hid (HW.out.below b1); have hB := hB.trans (b1.mono hB.size); clear b1
  go_wp2_with fail
  refine (C.out _).mono ?_
  rintro e w1 ⟨rfl, rfl⟩
  go_wp2_with fail
  refine (H1.out _).mono ?_
  rintro e w1 ⟨rfl, rfl⟩
  go_wp2_with fail
  refine (H2.out _).mono ?_
  rintro e w1 ⟨rfl, rfl⟩
  go_wp2_with fail
  refine (R.out _ HX.out HW.out).mono ?_
  rintro e w1 ⟨p2, d2, rfl, hr, b1⟩
  have RR := Lib.hid hr; clear hr; have HX := Lib.hid (HX.out.below b1); have HW := Lib.hid (HW.out.below b1); have RP := Lib.hid (RP.out.below b1); have hB := hB.trans (b1.mono hB.size); clear b1
  go_wp2_with fail
  refine (c_same RP.out RR.out).mono ?_
  rintro e w1 ⟨rfl, b1⟩
  have hB := hB.trans (b1.mono hB.size); clear b1
  go_wp2_with fail
  refine (live11 _).mono ?_
  rintro e w1 ⟨rfl, b1⟩
  have hB := hB.trans (b1.mono hB.size); clear b1
  go_wp2_with fail
  go_ret
  exact ⟨rfl, hB⟩
theorem walk (W : World) (a0 : Option Addr) (n0 c0 : Nat) (w0 : IsRow .u64 W a0 n0 c0) (a1 : Int) (w1 : -9223372036854775808 ≤ a1 ∧ a1 ≤ 9223372036854775807) (a2 : Option Addr) (n2 c2 : Nat) (w2 : IsRow .u64 W a2 n2 c2) :
    Calls Try.prog 12 #[.slice a0 n0 c0, .int .i64 a1, .slice a2 n2 c2] W fun e W' => e = .returned (.bool true) ∧ Below W.heap.size W W' := by
  by_cases h : 130 < n0 ∨ (n0 ≤ 130 ∧ 130 < n2)
  · exact far W a0 a2 n0 n2 c0 c2 a1 h
  · by_cases hz : told n0 a1 n2 = 0
    · obtain ⟨h1, h2, rfl, s, k, rfl, h3, h4, h5, h6⟩ := told_ok hz
      obtain ⟨xs, hx⟩ := Row.of_isRow w0 (by omega)
      obtain ⟨ws, hw⟩ := Row.of_isRow w2 (by omega)
      have hle : s ≤ n2 := by rw [← h3, Nat.mul_comm 2 s, Nat.mul_assoc]; exact Nat.le_mul_of_pos_right s (by omega)
      exact main W a0 a2 n2 c0 c2 s k xs ws hx hw (by omega) hz h3 h4 h5 h1 h2 (by omega)
    · exact noth W a0 a2 n0 n2 c0 c2 a1 _ (by omega) (by omega) w1 rfl hz
end stockPasses
end Go.Proofs.Ytjiedfncamdojaa
