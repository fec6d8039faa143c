/- StockWith: all passes. -/
import Derived.Test.YtjiedfncamdojaaStock5
namespace Go.Proofs.Ytjiedfncamdojaa
open Go.ChangeShapes Go.WideShapes Go.ChangeAt Go.RowKit
set_option linter.unusedVariables false
namespace stockWith
open stockPasses
theorem hasp_pow {n : Nat} (h : hasp n = true) : ∃ a, n = 2 ^ a ∧ n ≤ 16777216 := by
  unfold hasp at h
  have hn : n ≤ 16777216 := by
    by_cases c : (n : Int) ≤ 16777216
    · omega
    · rw [decide_eq_false c] at h; cases h
  rw [decide_eq_true (by omega : (n : Int) ≤ 16777216)] at h
  obtain ⟨_, a, ha⟩ := pwb_isp (n := (n : Int)) (by simpa using h)
  exact ⟨a, by rw [Int.toNat_natCast] at ha; exact ha, hn⟩
theorem with_no1 (a0 a1 : Option Addr) (n m c0 c1 : Nat) (W : World) (hn : n ≤ 130) (h : hasp n = false) : Calls Try.prog 55 #[.slice a0 n c0, .slice a1 m c1] W fun e w' => e = .returned (.tuple #[.slice none 0 0, .int .i64 4]) ∧ W = w' := by
  have H := fun w => stock_has (n : Int) w
  rw [h] at H
  have H := Lib.hid H
  clear h
  go_enter Try.func55, Try.ntmps55
  go_wp2_with fail
  refine (H.out _).mono ?_
  rintro e w1 ⟨rfl, rfl⟩
  go_wp2_with fail
  go_ret2
  exact ⟨rfl, rfl⟩
theorem with_no2 (a0 a1 : Option Addr) (n m c0 c1 : Nat) (W : World) (hn : n ≤ 130) (hm : m ≤ 130) (h : hasp n = true) (hne : m ≠ n) : Calls Try.prog 55 #[.slice a0 n c0, .slice a1 m c1] W fun e w' => e = .returned (.tuple #[.slice none 0 0, .int .i64 5]) ∧ W = w' := by
  have H := fun w => stock_has (n : Int) w
  rw [h] at H
  have H := Lib.hid H
  have d3 : ((m : Int) != (n : Int)) = true := by simp; omega
  clear h
  go_enter Try.func55, Try.ntmps55
  go_wp2_with fail
  refine (H.out _).mono ?_
  rintro e w1 ⟨rfl, rfl⟩
  go_wp2_with fail
  go_ret2
  exact ⟨rfl, rfl⟩
set_option maxRecDepth 100000 in
theorem odd (W : World) (a0 a2 : Option Addr) (n m c0 c2 : Nat) (h : 130 < n ∨ (n ≤ 130 ∧ 130 < m) ∨ (n ≤ 130 ∧ m ≤ 130 ∧ hasp n = false) ∨ (n ≤ 130 ∧ m ≤ 130 ∧ hasp n = true ∧ m ≠ n)) :
    Calls Try.prog 13 #[.slice a0 n c0, .slice a2 m c2] W fun e W' => e = .returned (.bool true) ∧ Below W.heap.size W W' := by
  rcases h with h | ⟨h, h'⟩ | ⟨h, h', hh⟩ | ⟨h, h', hh, hne⟩
  · have g1 : decide (130 < (n : Int)) = true := decide_eq_true (by omega)
    go_enter Try.func13, Try.ntmps13
    go_wp2_with fail
    refine (live11 _).mono ?_
    rintro e w1 ⟨rfl, b1⟩
    go_wp2_with fail
    go_ret
    exact ⟨rfl, b1⟩
  · have g1 : decide (130 < (n : Int)) = false := decide_eq_false (by omega)
    have g2 : decide (130 < (m : Int)) = true := decide_eq_true (by omega)
    go_enter Try.func13, Try.ntmps13
    go_wp2_with fail
    refine (live11 _).mono ?_
    rintro e w1 ⟨rfl, b1⟩
    go_wp2_with fail
    go_ret
    exact ⟨rfl, b1⟩
  · have g1 : decide (130 < (n : Int)) = false := decide_eq_false (by omega)
    have g2 : decide (130 < (m : Int)) = false := decide_eq_false (by omega)
    have P := Lib.hid (fun w => with_no1 a0 a2 n m c0 c2 w h hh)
    have H := fun w => r11_has (n : Int) w (by omega)
    rw [hh] at H
    have H := Lib.hid H
    clear hh
    go_enter Try.func13, Try.ntmps13
    go_wp2_with fail
    refine (P.out _).mono ?_
    rintro e w1 ⟨rfl, rfl⟩
    go_wp2_with fail
    refine (H.out _).mono ?_
    rintro e w1 ⟨rfl, rfl⟩
    go_wp2_with fail
    refine (live11 _).mono ?_
    rintro e w1 ⟨rfl, b1⟩
    go_wp2_with fail
    go_ret
    exact ⟨rfl, b1⟩
  · have g1 : decide (130 < (n : Int)) = false := decide_eq_false (by omega)
    have g2 : decide (130 < (m : Int)) = false := decide_eq_false (by omega)
    have P := Lib.hid (fun w => with_no2 a0 a2 n m c0 c2 w h h' hh hne)
    have H := fun w => r11_has (n : Int) w (by omega)
    rw [hh] at H
    have H := Lib.hid H
    have d3 : ((m : Int) != (n : Int)) = true := by simp; omega
    clear hh
    go_enter Try.func13, Try.ntmps13
    go_wp2_with fail
    refine (P.out _).mono ?_
    rintro e w1 ⟨rfl, rfl⟩
    go_wp2_with fail
    refine (H.out _).mono ?_
    rintro e w1 ⟨rfl, rfl⟩
    go_wp2_with fail
    refine (live11 _).mono ?_
    rintro e w1 ⟨rfl, b1⟩
    go_wp2_with fail
    go_ret
    exact ⟨rfl, b1⟩
set_option maxRecDepth 100000 in
set_option maxHeartbeats 1000000 in
theorem main (W : World) (a0 a2 : Option Addr) (n c0 c2 a : Nat) (xs ws : List Int) (hx : Row W a0 n xs) (hw : Row W a2 n ws) (hn : n ≤ 130) (ha : n = 2 ^ a) (pn : hasp n = true) :
    Calls Try.prog 13 #[.slice a0 n c0, .slice a2 n c2] W fun e W' => e = .returned (.bool true) ∧ Below W.heap.size W W' := by
  have g1 : decide (130 < (n : Int)) = false := decide_eq_false (by omega)
  have P := Lib.hid (fun w h1 h2 => stock_with a n a0 a2 c0 c2 xs ws w ha (by omega) h1 h2)
  have H := fun w => r11_has (n : Int) w (by omega)
  rw [pn] at H
  have H := Lib.hid H
  have HX := Lib.hid hx
  have HW := Lib.hid hw
  have HN := Lib.hid (show tw a = n from ha.symm)
  have hB : Below W.heap.size W W := Below.refl _ _
  clear hx hw pn ha
  go_enter Try.func13, Try.ntmps13
  go_wp2_with fail
  refine (P.out _ HX.out HW.out).mono ?_
  rintro e w1 ⟨p1, d1, rfl, hr, b1⟩
  have RP := Lib.hid hr; clear hr; have HX := Lib.hid (HX.out.below b1); have HW := Lib.hid (HW.out.below b1); have hB := hB.trans (b1.mono hB.size); clear b1
  go_wp2_with fail
  refine (H.out _).mono ?_
  rintro e w1 ⟨rfl, rfl⟩
  go_wp2_with fail
  refine (c_rred HX.out).mono ?_
  rintro e w1 ⟨p2, d2, rfl, hr, b1⟩
  have RZ := Lib.hid hr; clear hr; have HX := Lib.hid (HX.out.below b1); have HW := Lib.hid (HW.out.below b1); have RP := Lib.hid (RP.out.below b1); have hB := hB.trans (b1.mono hB.size); clear b1
  go_wp2_with fail
  go_loopw [7, 8] (fun z i wr => ∃ (j : Nat) (p : Option Addr) (c : Nat), j ≤ a ∧ z = .slice p n c ∧ i = .int .i64 ((tw j : Nat) : Int) ∧ Hid (Row wr p n (passes xs ws n j)) ∧ Hid (Row wr a2 n ws) ∧ Hid (Row wr p1 n (passes xs ws n a)) ∧ Below W.heap.size W wr) (fun _ i _ => n - (intOf i).toNat)
  case atStart => exact ⟨0, p2, d2, Nat.zero_le _, rfl, rfl, RZ, HW, RP, hB⟩
  case round =>
    clear RZ HW RP hB
    obtain ⟨j, p, c, hj, rfl, rfl, RZ, HW, RP, hB⟩ := hrel
    have hp := tw_pos j
    by_cases hlt : j < a
    · obtain ⟨q1, q2⟩ := tw_lt hlt
      rw [HN.out] at q1 q2
      have hle : tw j ≤ n / 2 := by
        have : tw j ≤ tw j * tw (a - j - 1) := Nat.le_mul_of_pos_right _ (tw_pos _)
        rw [Nat.mul_assoc] at q2
        omega
      have R := Lib.hid (fun w h1 h2 => r11_pass (tw j) (tw (a - j - 1)) n p a2 c c2 (passes xs ws n j) ws w q2 hp (tw_pos _) (by omega) h1 h2)
      have HS := Lib.hid (tw_succ j)
      have HP := Lib.hid (passes_succ xs ws n j)
      clear q2
      generalize tw j = s at *
      have hd : decide ((s : Int) ≤ (n : Int) / 2) = true := decide_eq_true (by omega)
      go_wp2_with fail
      refine (R.out _ RZ.out HW.out).mono ?_
      rintro e w2 ⟨p3, d3, rfl, hr, b1⟩
      rw [← HP.out] at hr
      have RN := Lib.hid hr
      clear hr R RZ
      have HW := Lib.hid (HW.out.below b1); have RP := Lib.hid (RP.out.below b1); have hB := hB.trans (b1.mono hB.size); clear b1
      go_wp2_with fail
      go_roundw
      case rel => exact ⟨j + 1, p3, d3, by omega, rfl, by rw [HS.out]; go_num, RN, HW, RP, hB⟩
      case measure => (first | (simp [intOf]; done) | (simp [intOf]; omega) | (simp only [intOf]; omega))
    · obtain rfl : j = a := by omega
      rw [HN.out]
      have hn1 : 1 ≤ n := by rw [← HN.out]; exact hp
      have hd : decide ((n : Int) ≤ (n : Int) / 2) = false := decide_eq_false (by omega)
      clear hp
      go_wp2_with fail
      refine (c_same RP.out RZ.out).mono ?_
      rintro e w2 ⟨rfl, b1⟩
      have hB := hB.trans (b1.mono hB.size); clear b1
      go_wp2_with fail
      refine (live11 _).mono ?_
      rintro e w2 ⟨rfl, b1⟩
      have hB := hB.trans (b1.mono hB.size); clear b1
      go_wp2_with fail
      go_ret
      exact ⟨rfl, hB⟩
theorem walk (W : World) (a0 : Option Addr) (n0 c0 : Nat) (w0 : IsRow .u64 W a0 n0 c0) (a1 : Option Addr) (n1 c1 : Nat) (w1 : IsRow .u64 W a1 n1 c1) :
    Calls Try.prog 13 #[.slice a0 n0 c0, .slice a1 n1 c1] W fun e W' => e = .returned (.bool true) ∧ Below W.heap.size W W' := by
  by_cases h : 130 < n0 ∨ (n0 ≤ 130 ∧ 130 < n1) ∨ (n0 ≤ 130 ∧ n1 ≤ 130 ∧ hasp n0 = false) ∨ (n0 ≤ 130 ∧ n1 ≤ 130 ∧ hasp n0 = true ∧ n1 ≠ n0)
  · exact odd W a0 a1 n0 n1 c0 c1 h
  · have hn0 : n0 ≤ 130 := by omega
    have hn1 : n1 ≤ 130 := by omega
    have hh : hasp n0 = true := by
      cases hb : hasp n0
      · exact absurd (.inr (.inr (.inl ⟨hn0, hn1, hb⟩))) h
      · rfl
    have he : n1 = n0 := by
      by_cases e : n1 = n0
      · exact e
      · exact absurd (.inr (.inr (.inr ⟨hn0, hn1, hh, e⟩))) h
    subst he
    obtain ⟨xs, hx⟩ := Row.of_isRow w0 (by omega)
    obtain ⟨ws, hw⟩ := Row.of_isRow w1 (by omega)
    obtain ⟨a, ha, _⟩ := hasp_pow hh
    exact main W a0 a1 n1 c0 c1 a xs ws hx hw hn1 ha hh
end stockWith
end Go.Proofs.Ytjiedfncamdojaa
