/- BoundCounts: turns of each client, and how long each one had none. -/
import Derived.Test.YtlbkmheggdgfoaaBound2
import Derived.Test.YtlbkmheggdgfoaaLBoundTells
namespace Go.Proofs.Ytlbkmheggdgfoaa
open Go.ChangeShapes Go.WideShapes Go.ChangeAt Go.RowKit
set_option linter.unusedVariables false
namespace boundCounts
theorem bound_spent (p : Option Addr) (n c C : Nat) (xs : List Int) (w : World) (hx : RowI w p n xs) (hn : n ≤ 300) (h1 : 1 ≤ C) (h2 : C ≤ 100) : Calls Try.prog 30 #[.slice p n c, .int .i64 C] w (GivesI w C (tab C (fun j => sp xs j n))) := by
  have K := Lib.hid (count_spent p n c C xs w hx hn h1 h2)
  clear hx
  go_enter Try.func30, Try.ntmps30
  go_wp2_with fail
  refine K.out.mono ?_
  rintro e w1 ⟨a, d, rfl, hr, hb⟩
  have R := Lib.hid hr
  clear hr
  go_wp2_with fail
  go_ret
  exact ⟨_, _, rfl, R.out, hb⟩
theorem bound_longest (p : Option Addr) (n c C : Nat) (xs : List Int) (w : World) (hx : RowI w p n xs) (hn : n ≤ 300) (h1 : 1 ≤ C) (h2 : C ≤ 100) : Calls Try.prog 31 #[.slice p n c, .int .i64 C] w (GivesI w C (tab C (fun j => max (lo xs j n) (n - la xs j n - 1)))) := by
  have K := Lib.hid (count_longest p n c C xs w hx hn h1 h2)
  clear hx
  go_enter Try.func31, Try.ntmps31
  go_wp2_with fail
  refine K.out.mono ?_
  rintro e w1 ⟨a, d, rfl, hr, hb⟩
  have R := Lib.hid hr
  clear hr
  go_wp2_with fail
  go_ret
  exact ⟨_, _, rfl, R.out, hb⟩
theorem count_no (p : Option Addr) (n c : Nat) (C : Int) (u v : Value) (w : World) (h : C ≤ 0) : Calls Try.prog 52 #[.slice p n c, .int .i64 C, u, v] w fun e w' => e = .returned (.slice none 0 0) ∧ w = w' := by
  go_enter Try.func52, Try.ntmps52
  go_wp2_with fail
  go_ret
  exact ⟨rfl, rfl⟩
theorem spent_no (p : Option Addr) (n c : Nat) (C : Int) (w : World) (h : C ≤ 0) : Calls Try.prog 30 #[.slice p n c, .int .i64 C] w fun e w' => e = .returned (.slice none 0 0) ∧ w = w' := by
  have K := Lib.hid (fun u v w => count_no p n c C u v w h)
  go_enter Try.func30, Try.ntmps30
  go_wp2_with fail
  refine (K.out _ _ _).mono ?_
  rintro e w1 ⟨rfl, rfl⟩
  go_wp2_with fail
  go_ret
  exact ⟨rfl, rfl⟩
theorem longest_no (p : Option Addr) (n c : Nat) (C : Int) (w : World) (h : C ≤ 0) : Calls Try.prog 31 #[.slice p n c, .int .i64 C] w fun e w' => e = .returned (.slice none 0 0) ∧ w = w' := by
  have K := Lib.hid (fun u v w => count_no p n c C u v w h)
  go_enter Try.func31, Try.ntmps31
  go_wp2_with fail
  refine (K.out _ _ _).mono ?_
  rintro e w1 ⟨rfl, rfl⟩
  go_wp2_with fail
  go_ret
  exact ⟨rfl, rfl⟩
set_option maxRecDepth 100000 in
theorem r41_spent (p : Option Addr) (n c : Nat) (y : Int) (xs : List Int) (w : World) (hx : RowI w p n xs) (hn : n ≤ 300) : Calls Try.prog 32 #[.slice p n c, .int .i64 y] w fun e w' => e = .returned (.int .i64 (sp xs y n)) ∧ w = w' := by
  have HX := Lib.hid hx
  clear hx
  go_enter Try.func32, Try.ntmps32
  go_wp2_with fail
  go_loop [5, 6] (fun s i => ∃ k : Nat, k ≤ n ∧ i = .int .i64 k ∧ s = .int .i64 (sp xs y k)) (fun _ i => n - (intOf i).toNat)
  case atStart => exact ⟨0, Nat.zero_le _, rfl, rfl⟩
  case round =>
    obtain ⟨k, hk, rfl, rfl⟩ := hrel
    by_cases hlt : k < n
    · obtain ⟨b, off, rfl, hb, hc, x0, x1⟩ := HX.out.cell hlt
      obtain ⟨s0, s1⟩ := sp_rng xs y k
      by_cases e : xs.getD k 0 = y
      · have HS := Lib.hid (show sp xs y (k + 1) = sp xs y k + 1 by show (if xs.getD k 0 = y then _ else _) = _; rw [if_pos e])
        rw [e] at hc x0 x1
        clear e
        generalize sp xs y k = s at *
        go_wp2_with fail
        go_round
        case rel => exact ⟨k + 1, by omega, by go_num, by rw [HS.out]⟩
        case measure => (first | (simp [intOf]; done) | (simp [intOf]; omega) | (simp only [intOf]; omega))
      · have HS := Lib.hid (show sp xs y (k + 1) = sp xs y k by show (if xs.getD k 0 = y then _ else _) = _; rw [if_neg e])
        generalize xs.getD k 0 = x at *
        have hq : (x == y) = false := by simpa using e
        clear e
        go_wp2_with fail
        go_round
        case rel => exact ⟨k + 1, by omega, by go_num, by rw [HS.out]⟩
        case measure => (first | (simp [intOf]; done) | (simp [intOf]; omega) | (simp only [intOf]; omega))
    · obtain rfl : k = n := by omega
      go_wp2_with fail
      go_ret
      exact ⟨rfl, rfl⟩
set_option maxRecDepth 100000 in
theorem r41_longest (p : Option Addr) (n c : Nat) (y : Int) (xs : List Int) (w : World) (hx : RowI w p n xs) (hn : n ≤ 300) : Calls Try.prog 33 #[.slice p n c, .int .i64 y] w fun e w' => e = .returned (.int .i64 (best xs y n n)) ∧ w = w' := by
  have HX := Lib.hid hx
  clear hx
  have hbr : ∀ k, 0 ≤ best xs y n k ∧ best xs y n k ≤ n := by
    intro k
    induction k with
    | zero => simp [best]
    | succ k ih =>
      have g := gap_rng xs y n k
      show 0 ≤ (if best xs y n k < gap xs y n k then gap xs y n k else best xs y n k) ∧ (if best xs y n k < gap xs y n k then gap xs y n k else best xs y n k) ≤ n
      split <;> omega
  have HBR := Lib.hid hbr
  clear hbr
  go_enter Try.func33, Try.ntmps33
  go_wp2_with fail
  go_loop [5, 6, 7] (fun s i _ => ∃ k : Nat, k ≤ n ∧ i = .int .i64 k ∧ s = .int .i64 (best xs y n k)) (fun _ i _ => n - (intOf i).toNat)
  case atStart => exact ⟨0, Nat.zero_le _, rfl, rfl⟩
  case round =>
    obtain ⟨k, hk, rfl, rfl⟩ := hrel
    obtain ⟨s0, s1⟩ := HBR.out k
    by_cases hlt : k < n
    · have hd : decide ((k : Int) < (n : Int)) = true := decide_eq_true (by omega)
      go_wp2_with fail
      go_loop [7] (fun i => ∃ m : Nat, k ≤ m ∧ m ≤ n ∧ i = .int .i64 m ∧ Hid (gap xs y n k = (m - k : Int) + gap xs y n m)) (fun i => n - (intOf i).toNat)
      case atStart => exact ⟨k, Nat.le_refl _, by omega, rfl, Lib.hid (by omega)⟩
      case round =>
        obtain ⟨m, hm0, hm, rfl, HG⟩ := hrel
        by_cases hlt2 : m < n
        · obtain ⟨b, off, rfl, hb, hc, x0, x1⟩ := HX.out.cell hlt2
          have hd2 : decide ((m : Int) < (n : Int)) = true := decide_eq_true (by omega)
          by_cases e : xs.getD m 0 = y
          · have hg : gap xs y n k = (m - k : Int) := by rw [HG.out, gap_hit xs y n m hlt2 e]; omega
            rw [e] at hc x0 x1
            have hst : best xs y n (k + 1) = if best xs y n k < gap xs y n k then gap xs y n k else best xs y n k := rfl
            rw [hg] at hst
            have HST := Lib.hid hst
            clear hg e hst
            generalize best xs y n k = s at *
            by_cases hc2 : s < (m : Int) - k
            · have H2 := Lib.hid (HST.out.trans (if_pos hc2))
              go_wp2_with fail
              go_round
              case rel => exact ⟨k + 1, by omega, by go_num, by rw [H2.out]⟩
              case measure => (first | (simp [intOf]; done) | (simp [intOf]; omega) | (simp only [intOf]; omega))
            · have H2 := Lib.hid (HST.out.trans (if_neg hc2))
              go_wp2_with fail
              go_round
              case rel => exact ⟨k + 1, by omega, by go_num, by rw [H2.out]⟩
              case measure => (first | (simp [intOf]; done) | (simp [intOf]; omega) | (simp only [intOf]; omega))
          · have HG2 := Lib.hid (show gap xs y n k = (((m + 1 : Nat) : Int) - k : Int) + gap xs y n (m + 1) by
              rw [HG.out, gap_miss xs y n m hlt2 e]; omega)
            generalize xs.getD m 0 = x at *
            have hq : (x != y) = true := by simpa using e
            clear e
            go_wp2_with fail
            go_round
            case rel => exact ⟨m + 1, by omega, by omega, by go_num, HG2⟩
            case measure => (first | (simp [intOf]; done) | (simp [intOf]; omega) | (simp only [intOf]; omega))
        · obtain rfl : m = n := by omega
          have hd2 : decide ((m : Int) < (m : Int)) = false := decide_eq_false (by omega)
          have hg : gap xs y m k = (m - k : Int) := by rw [HG.out, gap_end xs y m m (Nat.le_refl _)]; omega
          have hst : best xs y m (k + 1) = if best xs y m k < gap xs y m k then gap xs y m k else best xs y m k := rfl
          rw [hg] at hst
          have HST := Lib.hid hst
          clear hg hst
          generalize best xs y m k = s at *
          by_cases hc2 : s < (m : Int) - k
          · have H2 := Lib.hid (HST.out.trans (if_pos hc2))
            go_wp2_with fail
            go_round
            case rel => exact ⟨k + 1, by omega, by go_num, by rw [H2.out]⟩
            case measure => (first | (simp [intOf]; done) | (simp [intOf]; omega) | (simp only [intOf]; omega))
          · have H2 := Lib.hid (HST.out.trans (if_neg hc2))
            go_wp2_with fail
            go_round
            case rel => exact ⟨k + 1, by omega, by go_num, by rw [H2.out]⟩
            case measure => (first | (simp [intOf]; done) | (simp [intOf]; omega) | (simp only [intOf]; omega))
    · obtain rfl : k = n := by omega
      have hd : decide ((k : Int) < (k : Int)) = false := decide_eq_false (by omega)
      go_wp2_with fail
      go_ret
      exact ⟨rfl, rfl⟩
set_option maxRecDepth 100000 in
theorem main (W : World) (a0 : Option Addr) (n c0 C : Nat) (xs : List Int) (hx : RowI W a0 n xs) (hn : n ≤ 300) (h1 : 1 ≤ C) (h2 : C ≤ 100) :
    Calls Try.prog 8 #[.slice a0 n c0, .int .i64 C] W fun e W' => e = .returned (.bool true) ∧ Below W.heap.size W W' := by
  have g1 : decide (300 < (n : Int)) = false := decide_eq_false (by omega)
  have g2 : decide (100 < (C : Int)) = false := decide_eq_false (by omega)
  have SP := Lib.hid (fun w h => bound_spent a0 n c0 C xs w h hn h1 h2)
  have LO := Lib.hid (fun w h => bound_longest a0 n c0 C xs w h hn h1 h2)
  have HX := Lib.hid hx
  have hB : Below W.heap.size W W := Below.refl _ _
  clear hx
  go_enter Try.func8, Try.ntmps8
  go_wp2_with fail
  refine (SP.out _ HX.out).mono ?_
  rintro e w1 ⟨p1, d1, rfl, hr, b1⟩
  have RS := Lib.hid hr; clear hr; have HX := Lib.hid (HX.out.below b1); have hB := hB.trans (b1.mono hB.size); clear b1
  go_wp2_with fail
  refine (LO.out _ HX.out).mono ?_
  rintro e w1 ⟨p2, d2, rfl, hr, b1⟩
  have RL := Lib.hid hr; clear hr; have HX := Lib.hid (HX.out.below b1); have RS := Lib.hid (RS.out.below b1); have hB := hB.trans (b1.mono hB.size); clear b1
  go_wp2_with fail
  go_loopw [7] (fun i wr => ∃ k : Nat, k ≤ C ∧ i = .int .i64 k ∧ Hid (RowI wr a0 n xs) ∧ Hid (RowI wr p1 C (tab C (fun j => sp xs j n))) ∧ Hid (RowI wr p2 C (tab C (fun j => max (lo xs j n) (n - la xs j n - 1)))) ∧ Below W.heap.size W wr) (fun i _ => C - (intOf i).toNat)
  case atStart => exact ⟨0, Nat.zero_le _, rfl, HX, RS, RL, hB⟩
  case round =>
    clear HX RS RL hB
    obtain ⟨k, hk, rfl, HX, RS, RL, hB⟩ := hrel
    by_cases hlt : k < C
    · obtain ⟨b1, o1, rfl, hb1, hc1, x0, x1⟩ := RS.out.cell hlt
      obtain ⟨b2, o2, rfl, hb2, hc2, y0, y1⟩ := RL.out.cell hlt
      rw [tab_at _ _ _ hlt] at hc1 hc2 x0 x1 y0 y1
      rw [← best_all] at hc2 y0 y1
      have Q1 := Lib.hid (fun w h => r41_spent a0 n c0 k xs w h hn)
      have Q2 := Lib.hid (fun w h => r41_longest a0 n c0 k xs w h hn)
      generalize sp xs k n = s at *
      generalize best xs k n n = t at *
      have hk0 : (0 : Int) ≤ (k : Int) := by omega
      have hk1 : (k : Int) < (C : Int) := by omega
      go_wp2_with fail
      go_quiet ((first | (go_at_call 32; exact Calls.quiet_of_same ((Q1.out _ (HX.out.below (below_drewN (Below.refl _ _) _))).mono fun e w' ⟨he, hw⟩ => ⟨he, hw.symm⟩)) | (go_at_call 33; exact Calls.quiet_of_same ((Q2.out _ (HX.out.below (below_drewN (Below.refl _ _) _))).mono fun e w' ⟨he, hw⟩ => ⟨he, hw.symm⟩))))
      go_wp2_with fail
      go_roundw
      case rel => exact ⟨k + 1, by omega, by go_num, Lib.hid (HX.out.below (below_drewN (Below.refl _ _) _)), Lib.hid (RS.out.below (below_drewN (Below.refl _ _) _)), Lib.hid (RL.out.below (below_drewN (Below.refl _ _) _)), below_drewN hB _⟩
      case measure => (first | (simp [intOf]; done) | (simp [intOf]; omega) | (simp only [intOf]; omega))
    · obtain rfl : k = C := by omega
      go_wp2_with fail
      refine (boundTells.live41 _).mono ?_
      rintro e w1 ⟨rfl, b1⟩
      have hB := hB.trans (b1.mono hB.size); clear b1
      go_wp2_with fail
      go_ret
      exact ⟨rfl, hB⟩
theorem walk (W : World) (a0 : Option Addr) (n0 c0 : Nat) (w0 : IsRow .i64 W a0 n0 c0) (a1 : Int) (w1 : -9223372036854775808 ≤ a1 ∧ a1 ≤ 9223372036854775807) :
    Calls Try.prog 8 #[.slice a0 n0 c0, .int .i64 a1] W fun e W' => e = .returned (.bool true) ∧ Below W.heap.size W W' := by
  by_cases h : 300 < n0 ∨ (n0 ≤ 300 ∧ 100 < a1)
  · obtain ⟨xs, hl, _, hm, hr, hwf⟩ := w0
    clear hl hr hwf
    rcases h with h | ⟨h, h'⟩
    · have g1 : decide (300 < (n0 : Int)) = true := decide_eq_true (by omega)
      go_enter Try.func8, Try.ntmps8
      go_wp2_with fail
      refine (boundTells.live41 _).mono ?_
      rintro e w1 ⟨rfl, b1⟩
      go_wp2_with fail
      go_ret
      exact ⟨rfl, b1⟩
    · have g1 : decide (300 < (n0 : Int)) = false := decide_eq_false (by omega)
      have g2 : decide (100 < a1) = true := decide_eq_true h'
      go_enter Try.func8, Try.ntmps8
      go_wp2_with fail
      refine (boundTells.live41 _).mono ?_
      rintro e w1 ⟨rfl, b1⟩
      go_wp2_with fail
      go_ret
      exact ⟨rfl, b1⟩
  · obtain ⟨xs, hx⟩ := RowI.of_isRow w0 (by omega)
    by_cases h1 : a1 ≤ 0
    · have g1 : decide (300 < (n0 : Int)) = false := decide_eq_false (by omega)
      have g2 : decide (100 < a1) = false := decide_eq_false (by omega)
      have S1 := Lib.hid (fun w => spent_no a0 n0 c0 a1 w h1)
      have S2 := Lib.hid (fun w => longest_no a0 n0 c0 a1 w h1)
      clear hx w0 h
      have hB : Below W.heap.size W W := Below.refl _ _
      have hcs : a1 < 0 ∨ a1 = 0 := by omega
      rcases hcs with hcs | rfl
      all_goals
        go_enter Try.func8, Try.ntmps8
        go_wp2_with fail
        refine (S1.out _).mono ?_
        rintro e w1 ⟨rfl, rfl⟩
        go_wp2_with fail
        refine (S2.out _).mono ?_
        rintro e w1 ⟨rfl, rfl⟩
        go_wp2_with fail
        go_loopw [7] (fun i wr => i = .int .i64 0 ∧ wr = W) (fun _ _ => 0)
        case atStart => exact ⟨rfl, rfl⟩
        case round =>
          obtain ⟨rfl, rfl⟩ := hrel
          go_wp2_with fail
          refine (boundTells.live41 _).mono ?_
          rintro e w1 ⟨rfl, b1⟩
          go_wp2_with fail
          go_ret
          exact ⟨rfl, b1⟩
    · obtain ⟨C, rfl⟩ : ∃ C : Nat, a1 = C := ⟨a1.toNat, by omega⟩
      exact main W a0 n0 c0 C xs hx (by omega) (by omega) (by omega)
end boundCounts
end Go.Proofs.Ytlbkmheggdgfoaa
