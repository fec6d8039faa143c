/- Names of tables: need.Right, Room, Cmp, and reference 15's. -/
import Derived.Test.YticljddfdeocbaaD11
namespace Go.Proofs.Yticljddfdeocbaa
open Go.ChangeShapes Go.WideShapes Go.ChangeAt Go.RowKit
set_option linter.unusedVariables false
theorem box4 (W : World) (k n m d : Int) (T : TypeId) : ∃ w0 : World, w0 = W.alloc (.cells #[.int .i64 k, .int .i64 n, .int .i64 m, .int .i64 d] T) ∧ w0.cell? ⟨W.heap.size, 0, none⟩ = some (.int .i64 k) ∧ w0.cell? ⟨W.heap.size, 1, none⟩ = some (.int .i64 n) ∧ w0.cell? ⟨W.heap.size, 2, none⟩ = some (.int .i64 m) ∧ w0.cell? ⟨W.heap.size, 3, none⟩ = some (.int .i64 d) ∧ Below W.heap.size W w0 ∧ W.heap.size < w0.heap.size := by
  have hn := heap_alloc_new W (.cells #[.int .i64 k, .int .i64 n, .int .i64 m, .int .i64 d] T)
  refine ⟨_, rfl, ?_, ?_, ?_, ?_, (Below.refl _ _).alloc (Nat.le_refl _) _, by simp⟩ <;> (rw [cell_of_row _ _ _ _ _ _ hn]; rfl)
set_option maxRecDepth 100000 in
set_option maxHeartbeats 4000000 in
theorem r15_right (k n m d : Int) (W : World) (wn : -9223372036854775808 ≤ n ∧ n ≤ 9223372036854775807) (wm : m ≤ 9223372036854775807) :
    Calls Try.prog 41 #[.agg #[.int .i64 k, .int .i64 n, .int .i64 m, .int .i64 d]] W fun e w' => e = .returned (.bool (rightb k n m d)) ∧ Below W.heap.size W w' := by
  have H := Lib.hid (fun w => r4_has n w wn.1 wn.2)
  have FP := Lib.hid (fun w => r3_prime n w wn.2)
  have SH := Lib.hid (fun w => r8_power m w wm)
  have hB := (Below.refl W.heap.size W).alloc (Nat.le_refl _) (.cells #[.int .i64 k, .int .i64 n, .int .i64 m, .int .i64 d] 54)
  cases hh : hasb n with
  | false =>
    rw [hh] at H
    have E := Lib.hid (rightb_has (k := k) (m := m) (d := d) hh)
    go_enter Try.func41, Try.ntmps41
    go_wp2_with fail
    refine (H.out _).mono ?_
    rintro e w1 ⟨rfl, rfl⟩
    go_wp2_with fail
    go_ret
    exact ⟨by rw [E.out]; rfl, hB⟩
  | true =>
  rw [hh] at H
  obtain ⟨n1, n2, _⟩ := hasb_dvd hh
  have w2 : IntKind.i64.wrap (2 * n - 1) = 2 * n - 1 := IntWalk.i64_in _ (by omega)
  have w3 : IntKind.i64.wrap (2 * n) = 2 * n := IntWalk.i64_in _ (by omega)
  by_cases hd : d = 0 ∨ d = 1
  case neg =>
    have E := Lib.hid (rightb_dir (k := k) (n := n) (m := m) hd)
    by_cases h0 : d < 0
    · have d0 : decide (d < 0) = true := decide_eq_true h0
      go_enter Try.func41, Try.ntmps41
      go_wp2_with fail
      refine (H.out _).mono ?_
      rintro e w1 ⟨rfl, rfl⟩
      go_wp2_with fail
      go_ret
      exact ⟨by rw [E.out]; rfl, hB⟩
    · have d0 : decide (d < 0) = false := decide_eq_false h0
      have d1 : decide (1 < d) = true := decide_eq_true (by omega)
      go_enter Try.func41, Try.ntmps41
      go_wp2_with fail
      refine (H.out _).mono ?_
      rintro e w1 ⟨rfl, rfl⟩
      go_wp2_with fail
      go_ret
      exact ⟨by rw [E.out]; rfl, hB⟩
  by_cases hk : k = 1 ∨ k = 2
  · have E := Lib.hid (rightb_12 (m := m) hh hd hk)
    have hm : (m == 0) = decide (m = 0) := rfl
    generalize decide (m = 0) = z at *
    rcases hd with rfl | rfl <;> rcases hk with rfl | rfl
    all_goals
      go_enter Try.func41, Try.ntmps41
      go_wp2_with fail
      refine (H.out _).mono ?_
      rintro e w1 ⟨rfl, rfl⟩
      go_wp2_with fail
      go_ret
      exact ⟨by rw [E.out]; rfl, hB⟩
  by_cases hk3 : k = 3
  · subst hk3
    by_cases hm : m = 0
    · by_cases h3 : 3 ≤ n
      · have E := Lib.hid (show rightb 3 n m d = prb n by rw [rightb_3 hh hd, decide_eq_true ⟨hm, h3⟩, Bool.true_and])
        subst hm
        have d3 : decide (2 < n) = true := decide_eq_true (by omega)
        generalize prb n = z at *
        rcases hd with rfl | rfl
        all_goals
          go_enter Try.func41, Try.ntmps41
          go_wp2_with fail
          refine (H.out _).mono ?_
          rintro e w1 ⟨rfl, rfl⟩
          go_wp2_with fail
          refine (FP.out _).mono ?_
          rintro e w2 ⟨rfl, rfl⟩
          go_wp2_with fail
          go_ret
          exact ⟨by rw [E.out]; rfl, hB⟩
      · have E := Lib.hid (show rightb 3 n m d = false by rw [rightb_3 hh hd, decide_eq_false (fun h => h3 h.2), Bool.false_and])
        subst hm
        have d3 : decide (2 < n) = false := decide_eq_false (by omega)
        rcases hd with rfl | rfl
        all_goals
          go_enter Try.func41, Try.ntmps41
          go_wp2_with fail
          refine (H.out _).mono ?_
          rintro e w1 ⟨rfl, rfl⟩
          go_wp2_with fail
          go_ret
          exact ⟨by rw [E.out]; rfl, hB⟩
    · have E := Lib.hid (show rightb 3 n m d = false by rw [rightb_3 hh hd, decide_eq_false (fun h => hm h.1), Bool.false_and])
      have e0 : (m == 0) = false := by simp; omega
      rcases hd with rfl | rfl
      all_goals
        go_enter Try.func41, Try.ntmps41
        go_wp2_with fail
        refine (H.out _).mono ?_
        rintro e w1 ⟨rfl, rfl⟩
        go_wp2_with fail
        go_ret
        exact ⟨by rw [E.out]; rfl, hB⟩
  by_cases hk4 : k = 4
  · subst hk4
    by_cases h2 : 2 ≤ n
    · have d2 : decide (2 ≤ n) = true := decide_eq_true h2
      by_cases h3 : 2 * n - 1 ≤ m
      · have d3 : decide (2 * n - 1 ≤ m) = true := decide_eq_true h3
        by_cases h4 : m ≤ 16777216
        · have d4 : decide (m ≤ 16777216) = true := decide_eq_true h4
          have E := Lib.hid (show rightb 4 n m d = pwb m by rw [rightb_4 hh hd, d2, d3]; unfold hasp; rw [d4, Bool.true_and, Bool.true_and, Bool.and_true])
          generalize pwb m = z at *
          rcases hd with rfl | rfl
          all_goals
            go_enter Try.func41, Try.ntmps41
            go_wp2_with fail
            refine (H.out _).mono ?_
            rintro e w1 ⟨rfl, rfl⟩
            go_wp2_with fail
            refine (SH.out _).mono ?_
            rintro e w2 ⟨rfl, rfl⟩
            go_wp2_with fail
            go_ret
            exact ⟨by rw [E.out]; rfl, hB⟩
        · have d4 : decide (m ≤ 16777216) = false := decide_eq_false h4
          have E := Lib.hid (show rightb 4 n m d = false by rw [rightb_4 hh hd]; unfold hasp; rw [d4, Bool.false_and, Bool.and_false, Bool.false_and])
          rcases hd with rfl | rfl
          all_goals
            go_enter Try.func41, Try.ntmps41
            go_wp2_with fail
            refine (H.out _).mono ?_
            rintro e w1 ⟨rfl, rfl⟩
            go_wp2_with fail
            go_ret
            exact ⟨by rw [E.out]; rfl, hB⟩
      · have d3 : decide (2 * n - 1 ≤ m) = false := decide_eq_false h3
        have E := Lib.hid (show rightb 4 n m d = false by rw [rightb_4 hh hd, d3, Bool.and_false])
        rcases hd with rfl | rfl
        all_goals
          go_enter Try.func41, Try.ntmps41
          go_wp2_with fail
          refine (H.out _).mono ?_
          rintro e w1 ⟨rfl, rfl⟩
          go_wp2_with fail
          go_ret
          exact ⟨by rw [E.out]; rfl, hB⟩
    · have d2 : decide (2 ≤ n) = false := decide_eq_false h2
      have E := Lib.hid (show rightb 4 n m d = false by rw [rightb_4 hh hd, d2, Bool.false_and, Bool.false_and])
      rcases hd with rfl | rfl
      all_goals
        go_enter Try.func41, Try.ntmps41
        go_wp2_with fail
        refine (H.out _).mono ?_
        rintro e w1 ⟨rfl, rfl⟩
        go_wp2_with fail
        go_ret
        exact ⟨by rw [E.out]; rfl, hB⟩
  have E := Lib.hid (rightb_no (n := n) (m := m) (d := d) ⟨hk, hk3, hk4⟩)
  have e1 : (k == 1) = false := by simp; omega
  have e2 : (k == 2) = false := by simp; omega
  have e3 : (k == 3) = false := by simp; omega
  have e4 : (k == 4) = false := by simp; omega
  rcases hd with rfl | rfl
  all_goals
    go_enter Try.func41, Try.ntmps41
    go_wp2_with fail
    refine (H.out _).mono ?_
    rintro e w1 ⟨rfl, rfl⟩
    go_wp2_with fail
    go_ret
    exact ⟨by rw [E.out]; rfl, hB⟩
set_option maxRecDepth 100000 in
theorem need_room (k n m d : Int) (W : World) (wn : -9223372036854775808 ≤ n ∧ n ≤ 9223372036854775807) (wm : m ≤ 9223372036854775807) :
    Calls Try.prog 42 #[.agg #[.int .i64 k, .int .i64 n, .int .i64 m, .int .i64 d]] W fun e w' => e = .returned (.int .i64 (if rightb k n m d then roomi k n m else 0)) ∧ Below W.heap.size W w' := by
  have hB := (Below.refl W.heap.size W).alloc (Nat.le_refl _) (.cells #[.int .i64 k, .int .i64 n, .int .i64 m, .int .i64 d] 54)
  have hcell : ∀ j, j < 4 → (W.alloc (.cells #[.int .i64 k, .int .i64 n, .int .i64 m, .int .i64 d] 54)).cell? ⟨W.heap.size, j, none⟩ = (#[Value.int .i64 k, .int .i64 n, .int .i64 m, .int .i64 d] : Array Value)[j]? := fun j hj => by
    rw [cell_of_row _ _ j _ _ _ (heap_alloc_new W (.cells #[.int .i64 k, .int .i64 n, .int .i64 m, .int .i64 d] 54))]
  have RR := Lib.hid (fun w => need_right k n m d w wn)
  have hsz : W.heap.size < (W.alloc (.cells #[.int .i64 k, .int .i64 n, .int .i64 m, .int .i64 d] 54)).heap.size := by simp
  cases hr : rightb k n m d with
  | false =>
    rw [hr] at RR
    go_enter Try.func42, Try.ntmps42
    go_wp2_with fail
    refine (RR.out _).mono ?_
    rintro e w1 ⟨rfl, b1⟩
    go_wp2_with fail
    go_ret
    exact ⟨rfl, hB.trans (b1.mono hB.size)⟩
  | true =>
    rw [hr] at RR
    have n1 : 1 ≤ n ∧ n ≤ 16777216 := by
      cases hh : hasb n with
      | false => rw [rightb_has hh] at hr; cases hr
      | true => obtain ⟨a, b, _⟩ := hasb_dvd hh; exact ⟨a, b⟩
    have E : Hid (∀ z, z = roomi k n m → Ending.returned (Value.int .i64 z) = .returned (.int .i64 (if true = true then roomi k n m else 0))) := Lib.hid (fun z h => by rw [if_pos rfl, h])
    clear hr
    generalize hW0 : W.alloc (.cells #[.int .i64 k, .int .i64 n, .int .i64 m, .int .i64 d] 54) = w0 at *
    by_cases hk3 : k = 3
    · subst hk3
      have HR := Lib.hid (show n - 1 = roomi 3 n m by unfold roomi; rw [if_pos rfl])
      go_enter Try.func42, Try.ntmps42
      go_wp2_with fail
      refine (RR.out _).mono ?_
      rintro e w1 ⟨rfl, b1⟩
      have c0 := (b1.cell (p := ⟨W.heap.size, 0, none⟩) hsz).trans (hcell 0 (by omega))
      have c1 := (b1.cell (p := ⟨W.heap.size, 1, none⟩) hsz).trans (hcell 1 (by omega))
      simp at c0 c1
      go_wp2_with fail
      go_ret
      exact ⟨E.out _ HR.out, hB.trans (b1.mono hB.size)⟩
    have e3 : (k == 3) = false := by simp; omega
    by_cases hk4 : k = 4
    · subst hk4
      have HR := Lib.hid (show m = roomi 4 n m by unfold roomi; rw [if_neg (by omega), if_pos rfl])
      go_enter Try.func42, Try.ntmps42
      go_wp2_with fail
      refine (RR.out _).mono ?_
      rintro e w1 ⟨rfl, b1⟩
      have c0 := (b1.cell (p := ⟨W.heap.size, 0, none⟩) hsz).trans (hcell 0 (by omega))
      have c1 := (b1.cell (p := ⟨W.heap.size, 2, none⟩) hsz).trans (hcell 2 (by omega))
      simp at c0 c1
      go_wp2_with fail
      go_ret
      exact ⟨E.out _ HR.out, hB.trans (b1.mono hB.size)⟩
    have e4 : (k == 4) = false := by simp; omega
    have HR := Lib.hid (show n = roomi k n m by unfold roomi; rw [if_neg hk3, if_neg hk4])
    go_enter Try.func42, Try.ntmps42
    go_wp2_with fail
    refine (RR.out _).mono ?_
    rintro e w1 ⟨rfl, b1⟩
    have c0 := (b1.cell (p := ⟨W.heap.size, 0, none⟩) hsz).trans (hcell 0 (by omega))
    have c1 := (b1.cell (p := ⟨W.heap.size, 1, none⟩) hsz).trans (hcell 1 (by omega))
    simp at c0 c1
    go_wp2_with fail
    go_ret
    exact ⟨E.out _ HR.out, hB.trans (b1.mono hB.size)⟩
set_option maxRecDepth 100000 in
theorem r15_room (k n m d : Int) (W : World) (wn : -9223372036854775808 ≤ n ∧ n ≤ 9223372036854775807) (wm : m ≤ 9223372036854775807) :
    Calls Try.prog 43 #[.agg #[.int .i64 k, .int .i64 n, .int .i64 m, .int .i64 d]] W fun e w' => e = .returned (.int .i64 (if rightb k n m d then roomi k n m else 0)) ∧ Below W.heap.size W w' := by
  have hB := (Below.refl W.heap.size W).alloc (Nat.le_refl _) (.cells #[.int .i64 k, .int .i64 n, .int .i64 m, .int .i64 d] 54)
  have hcell : ∀ j, j < 4 → (W.alloc (.cells #[.int .i64 k, .int .i64 n, .int .i64 m, .int .i64 d] 54)).cell? ⟨W.heap.size, j, none⟩ = (#[Value.int .i64 k, .int .i64 n, .int .i64 m, .int .i64 d] : Array Value)[j]? := fun j hj => by
    rw [cell_of_row _ _ j _ _ _ (heap_alloc_new W (.cells #[.int .i64 k, .int .i64 n, .int .i64 m, .int .i64 d] 54))]
  have RR := Lib.hid (fun w => r15_right k n m d w wn wm)
  have hsz : W.heap.size < (W.alloc (.cells #[.int .i64 k, .int .i64 n, .int .i64 m, .int .i64 d] 54)).heap.size := by simp
  cases hr : rightb k n m d with
  | false =>
    rw [hr] at RR
    go_enter Try.func43, Try.ntmps43
    go_wp2_with fail
    refine (RR.out _).mono ?_
    rintro e w1 ⟨rfl, b1⟩
    go_wp2_with fail
    go_ret
    exact ⟨rfl, hB.trans (b1.mono hB.size)⟩
  | true =>
    rw [hr] at RR
    have n1 : 1 ≤ n ∧ n ≤ 16777216 := by
      cases hh : hasb n with
      | false => rw [rightb_has hh] at hr; cases hr
      | true => obtain ⟨a, b, _⟩ := hasb_dvd hh; exact ⟨a, b⟩
    have E : Hid (∀ z, z = roomi k n m → Ending.returned (Value.int .i64 z) = .returned (.int .i64 (if true = true then roomi k n m else 0))) := Lib.hid (fun z h => by rw [if_pos rfl, h])
    clear hr
    generalize hW0 : W.alloc (.cells #[.int .i64 k, .int .i64 n, .int .i64 m, .int .i64 d] 54) = w0 at *
    by_cases hk3 : k = 3
    · subst hk3
      have HR := Lib.hid (show n - 1 = roomi 3 n m by unfold roomi; rw [if_pos rfl])
      go_enter Try.func43, Try.ntmps43
      go_wp2_with fail
      refine (RR.out _).mono ?_
      rintro e w1 ⟨rfl, b1⟩
      have c0 := (b1.cell (p := ⟨W.heap.size, 0, none⟩) hsz).trans (hcell 0 (by omega))
      have c1 := (b1.cell (p := ⟨W.heap.size, 1, none⟩) hsz).trans (hcell 1 (by omega))
      simp at c0 c1
      go_wp2_with fail
      go_ret
      exact ⟨E.out _ HR.out, hB.trans (b1.mono hB.size)⟩
    have e3 : (k == 3) = false := by simp; omega
    by_cases hk4 : k = 4
    · subst hk4
      have HR := Lib.hid (show m = roomi 4 n m by unfold roomi; rw [if_neg (by omega), if_pos rfl])
      go_enter Try.func43, Try.ntmps43
      go_wp2_with fail
      refine (RR.out _).mono ?_
      rintro e w1 ⟨rfl, b1⟩
      have c0 := (b1.cell (p := ⟨W.heap.size, 0, none⟩) hsz).trans (hcell 0 (by omega))
      have c1 := (b1.cell (p := ⟨W.heap.size, 2, none⟩) hsz).trans (hcell 2 (by omega))
      simp at c0 c1
      go_wp2_with fail
      go_ret
      exact ⟨E.out _ HR.out, hB.trans (b1.mono hB.size)⟩
    have e4 : (k == 4) = false := by simp; omega
    have HR := Lib.hid (show n = roomi k n m by unfold roomi; rw [if_neg hk3, if_neg hk4])
    go_enter Try.func43, Try.ntmps43
    go_wp2_with fail
    refine (RR.out _).mono ?_
    rintro e w1 ⟨rfl, b1⟩
    have c0 := (b1.cell (p := ⟨W.heap.size, 0, none⟩) hsz).trans (hcell 0 (by omega))
    have c1 := (b1.cell (p := ⟨W.heap.size, 1, none⟩) hsz).trans (hcell 1 (by omega))
    simp at c0 c1
    go_wp2_with fail
    go_ret
    exact ⟨E.out _ HR.out, hB.trans (b1.mono hB.size)⟩
/-- How two numbers stand. -/
def cmp3 (x y : Int) : Int := if x < y then -1 else if y < x then 1 else 0
theorem cmp3_lt {x y : Int} (h : x < y) : cmp3 x y = -1 := by unfold cmp3; rw [if_pos h]
theorem cmp3_gt {x y : Int} (h : y < x) : cmp3 x y = 1 := by unfold cmp3; rw [if_neg (by omega), if_pos h]
theorem cmp3_eq {x y : Int} (h : x = y) : cmp3 x y = 0 := by unfold cmp3; rw [if_neg (by omega), if_neg (by omega)]
theorem cmp_nan (x : Int) (W : World) : Calls Try.prog 92 #[.int .i64 x] W fun e w' => e = .returned (.bool false) ∧ W = w' := by
  have hx : (x != x) = false := by simp
  go_enter Try.func92, Try.ntmps92
  go_wp2_with fail
  go_ret
  exact ⟨rfl, rfl⟩
theorem cmp_compare (x y : Int) (W : World) : Calls Try.prog 66 #[.int .i64 x, .int .i64 y] W fun e w' => e = .returned (.int .i64 (cmp3 x y)) ∧ W = w' := by
  have NN := Lib.hid (fun x w => cmp_nan x w)
  rcases Int.lt_trichotomy x y with h | h | h
  · have E := Lib.hid (cmp3_lt h)
    have d1 : decide (x < y) = true := decide_eq_true h
    go_enter Try.func66, Try.ntmps66
    go_wp2_with fail
    refine (NN.out _ _).mono ?_
    rintro e w1 ⟨rfl, rfl⟩
    go_wp2_with fail
    refine (NN.out _ _).mono ?_
    rintro e w1 ⟨rfl, rfl⟩
    go_wp2_with fail
    go_ret
    exact ⟨by rw [E.out]; rfl, rfl⟩
  · have E := Lib.hid (cmp3_eq h)
    subst h
    have d1 : decide (x < x) = false := decide_eq_false (by omega)
    go_enter Try.func66, Try.ntmps66
    go_wp2_with fail
    refine (NN.out _ _).mono ?_
    rintro e w1 ⟨rfl, rfl⟩
    go_wp2_with fail
    refine (NN.out _ _).mono ?_
    rintro e w1 ⟨rfl, rfl⟩
    go_wp2_with fail
    go_ret
    exact ⟨by rw [E.out]; rfl, rfl⟩
  · have E := Lib.hid (cmp3_gt h)
    have d1 : decide (x < y) = false := decide_eq_false (by omega)
    have d2 : decide (y < x) = true := decide_eq_true h
    go_enter Try.func66, Try.ntmps66
    go_wp2_with fail
    refine (NN.out _ _).mono ?_
    rintro e w1 ⟨rfl, rfl⟩
    go_wp2_with fail
    refine (NN.out _ _).mono ?_
    rintro e w1 ⟨rfl, rfl⟩
    go_wp2_with fail
    go_ret
    exact ⟨by rw [E.out]; rfl, rfl⟩
/-- The first that is not nought. -/
def fz : List Int → Int
  | [] => 0
  | x :: r => if x = 0 then fz r else x
theorem fz_at : ∀ (xs : List Int) (k : Nat), k < xs.length → (∀ j, j < k → xs.getD j 0 = 0) → xs.getD k 0 ≠ 0 → fz xs = xs.getD k 0
  | [], k, h, _, _ => by simp at h
  | x :: r, 0, _, _, hk => by
    simp at hk ⊢
    rw [fz, if_neg hk]
  | x :: r, k + 1, h, h0, hk => by
    have e0 : x = 0 := by simpa using h0 0 (by omega)
    rw [fz, if_pos e0, fz_at r k (by simpa using h) (fun j hj => by simpa using h0 (j + 1) (by omega)) (by simpa using hk)]
    simp
theorem fz_none : ∀ (xs : List Int), (∀ j, j < xs.length → xs.getD j 0 = 0) → fz xs = 0
  | [], _ => rfl
  | x :: r, h => by
    have e0 : x = 0 := by simpa using h 0 (by simp)
    rw [fz, if_pos e0, fz_none r (fun j hj => by simpa using h (j + 1) (by simpa using hj))]
set_option maxRecDepth 100000 in
theorem cmp_or (p : Option Addr) (n c : Nat) (xs : List Int) (W : World) (hr : RowI W p n xs) :
    Calls Try.prog 65 #[.slice p n c] W fun e w' => e = .returned (.int .i64 (fz xs)) ∧ W = w' := by
  have HX := Lib.hid hr
  have hs := hr.small
  have FA := Lib.hid (fun k h => fz_at xs k (by rw [hr.len]; exact h))
  have FZ := Lib.hid (fz_none xs)
  generalize fz xs = z at *
  clear hr
  go_enter Try.func65, Try.ntmps65
  go_wp2_with fail
  go_loopw [8] (fun i wr => ∃ k : Nat, k ≤ n ∧ i = .int .i64 k ∧ Hid (∀ j, j < k → xs.getD j 0 = 0) ∧ W = wr) (fun i _ => n - (intOf i).toNat)
  case atStart => refine ⟨0, Nat.zero_le _, rfl, Lib.hid (fun j hj => by omega), ?_⟩; first | rfl | trivial
  case round =>
    obtain ⟨k, hk, rfl, HZ, rfl⟩ := hrel
    by_cases hlt : k < n
    · have hd : decide ((k : Int) < (n : Int)) = true := decide_eq_true (by omega)
      obtain ⟨b, off, rfl, hb, hc, x0, x1⟩ := HX.out.cell hlt
      have FA1 := Lib.hid (fun h => FA.out k hlt HZ.out h)
      have HZ2 := Lib.hid (fun (h : xs.getD k 0 = 0) j (hj : j < k + 1) => (show xs.getD j 0 = 0 by
        by_cases e : j = k
        · rw [e]; exact h
        · exact HZ.out j (by omega)))
      generalize xs.getD k 0 = x at *
      by_cases hx : x = 0
      · have HZ3 := Lib.hid (HZ2.out hx)
        subst hx
        go_wp2_with fail
        go_roundw
        case rel => exact ⟨k + 1, by omega, by go_num, HZ3, trivial⟩
        case measure => (first | (simp [intOf]; done) | (simp [intOf]; omega) | (simp only [intOf]; omega))
      · have E := Lib.hid (FA1.out hx)
        have hx0 : (x != 0) = true := by simp; omega
        go_wp2_with fail
        go_ret
        exact ⟨by rw [E.out]; rfl, rfl⟩
    · obtain rfl : k = n := by omega
      have hd : decide ((k : Int) < (k : Int)) = false := decide_eq_false (by omega)
      have E := Lib.hid (FZ.out (fun j hj => HZ.out j (by rw [HX.out.len] at hj; exact hj)))
      go_wp2_with fail
      go_ret
      exact ⟨by rw [E.out]; rfl, rfl⟩
/-- How two names stand. -/
def ncmp (k n m d k' n' m' d' : Int) : Int := fz [cmp3 k k', cmp3 n n', cmp3 m m', cmp3 d d']
theorem two_boxes (W : World) (k n m d k' n' m' d' : Int) (T : TypeId) : ∃ w0 : World, w0 = (W.alloc (.cells #[.int .i64 k, .int .i64 n, .int .i64 m, .int .i64 d] T)).alloc (.cells #[.int .i64 k', .int .i64 n', .int .i64 m', .int .i64 d'] T) ∧
    (w0.cell? ⟨W.heap.size, 0, none⟩ = some (.int .i64 k) ∧ w0.cell? ⟨W.heap.size, 1, none⟩ = some (.int .i64 n) ∧ w0.cell? ⟨W.heap.size, 2, none⟩ = some (.int .i64 m) ∧ w0.cell? ⟨W.heap.size, 3, none⟩ = some (.int .i64 d)) ∧
    (w0.cell? ⟨W.heap.size + 1, 0, none⟩ = some (.int .i64 k') ∧ w0.cell? ⟨W.heap.size + 1, 1, none⟩ = some (.int .i64 n') ∧ w0.cell? ⟨W.heap.size + 1, 2, none⟩ = some (.int .i64 m') ∧ w0.cell? ⟨W.heap.size + 1, 3, none⟩ = some (.int .i64 d')) ∧
    Below W.heap.size W w0 ∧ w0.heap.size = W.heap.size + 2 := by
  obtain ⟨w1, h1, a0, a1, a2, a3, b1, l1⟩ := box4 W k n m d T
  obtain ⟨w2, h2, c0, c1, c2, c3, b2, l2⟩ := box4 w1 k' n' m' d' T
  have e1 : w1.heap.size = W.heap.size + 1 := by rw [h1]; simp
  rw [e1] at c0 c1 c2 c3
  refine ⟨w2, by rw [h2, h1], ⟨?_, ?_, ?_, ?_⟩, ⟨c0, c1, c2, c3⟩, b1.trans (b2.mono b1.size), by rw [h2]; simp [e1]⟩
  · exact (b2.cell (p := ⟨W.heap.size, 0, none⟩) l1).trans a0
  · exact (b2.cell (p := ⟨W.heap.size, 1, none⟩) l1).trans a1
  · exact (b2.cell (p := ⟨W.heap.size, 2, none⟩) l1).trans a2
  · exact (b2.cell (p := ⟨W.heap.size, 3, none⟩) l1).trans a3
theorem cmp3_wf (x y : Int) : (Lit.int .i64 (cmp3 x y)).wf = true := by
  unfold cmp3
  split
  · rfl
  · split <;> rfl
theorem row4_lies (w : World) (T : TypeId) (a b c d : Int) (ha : (Lit.int .i64 a).wf = true) (hb : (Lit.int .i64 b).wf = true) (hc : (Lit.int .i64 c).wf = true) (hd : (Lit.int .i64 d).wf = true) :
    RowI (w.alloc (.cells #[.int .i64 a, .int .i64 b, .int .i64 c, .int .i64 d] T)) (some ⟨w.heap.size, 0, none⟩) 4 [a, b, c, d] := by
  refine ⟨rfl, .inr ⟨w.heap.size, 0, rfl, by simp, fun i hi => ?_⟩, fun z hz => ?_, by omega⟩
  · rw [cell_of_row _ _ _ _ _ _ (heap_alloc_new w _)]
    have : i = 0 ∨ i = 1 ∨ i = 2 ∨ i = 3 := by simp at hi; omega
    rcases this with rfl | rfl | rfl | rfl <;> rfl
  · simp only [List.mem_cons, List.not_mem_nil, or_false] at hz
    rcases hz with rfl | rfl | rfl | rfl <;> assumption
theorem four_at (a b c d : Int) {t : Nat} (ht : t < 4) : t = 0 ∨ t = 1 ∨ t = 2 ∨ t = 3 := by omega
theorem two_rows (W : World) (A B : Obj) (k n m d k' n' m' d' : Int) (T : TypeId) : ∃ w4 : World, w4 = (((W.alloc A).alloc B).alloc (.cells #[.int .i64 k, .int .i64 n, .int .i64 m, .int .i64 d] T)).alloc (.cells #[.int .i64 k', .int .i64 n', .int .i64 m', .int .i64 d'] T) ∧
    (∀ t, t < 4 → w4.cell? ⟨W.heap.size + 1 + 1, t, none⟩ = some (.int .i64 ([k, n, m, d].getD t 0))) ∧ (∀ t, t < 4 → w4.cell? ⟨W.heap.size + 1 + 1 + 1, t, none⟩ = some (.int .i64 ([k', n', m', d'].getD t 0))) ∧
    Below W.heap.size W w4 ∧ W.heap.size + 4 ≤ w4.heap.size := by
  have e2 : ((W.alloc A).alloc B).heap.size = W.heap.size + 1 + 1 := by simp
  obtain ⟨w1, h1, a0, a1, a2, a3, b1, l1⟩ := box4 ((W.alloc A).alloc B) k n m d T
  obtain ⟨w2, h2, c0, c1, c2, c3, b2, l2⟩ := box4 w1 k' n' m' d' T
  have e1 : w1.heap.size = W.heap.size + 1 + 1 + 1 := by rw [h1]; simp
  rw [e2] at a0 a1 a2 a3
  rw [e1] at c0 c1 c2 c3
  refine ⟨w2, by rw [h2, h1], fun t ht => ?_, fun t ht => ?_, ?_, by rw [h2]; simp [e1]⟩
  · refine (b2.cell (p := ⟨W.heap.size + 1 + 1, t, none⟩) (by show W.heap.size + 1 + 1 < _; omega)).trans ?_
    rcases four_at 0 0 0 0 ht with rfl | rfl | rfl | rfl
    · exact a0
    · exact a1
    · exact a2
    · exact a3
  · rcases four_at 0 0 0 0 ht with rfl | rfl | rfl | rfl
    · exact c0
    · exact c1
    · exact c2
    · exact c3
  · have b0 : Below W.heap.size W ((W.alloc A).alloc B) := ((Below.refl _ _).alloc (Nat.le_refl _) A).alloc (by simp) B
    exact (b0.trans (b1.mono (by rw [e2]; omega))).trans (b2.mono (by rw [e1]; omega))
set_option maxRecDepth 100000 in
set_option maxHeartbeats 8000000 in
theorem need_cmp (k n m d k' n' m' d' : Int) (W : World) :
    Calls Try.prog 44 #[.agg #[.int .i64 k, .int .i64 n, .int .i64 m, .int .i64 d], .agg #[.int .i64 k', .int .i64 n', .int .i64 m', .int .i64 d']] W fun e w' => e = .returned (.int .i64 (ncmp k n m d k' n' m' d')) ∧ Below W.heap.size W w' := by
  have CC := Lib.hid (fun x y w => cmp_compare x y w)
  have CO := Lib.hid (fun p c xs w h => cmp_or p 4 c xs w h)
  have E := Lib.hid (show ncmp k n m d k' n' m' d' = fz [cmp3 k k', cmp3 n n', cmp3 m m', cmp3 d d'] from rfl)
  obtain ⟨w0, hw0, ⟨a0, a1, a2, a3⟩, ⟨b0, b1, b2, b3⟩, hB, hsz⟩ := two_boxes W k n m d k' n' m' d' 54
  have RF := Lib.hid (show RowI (w0.alloc (.cells #[.int .i64 (cmp3 k k'), .int .i64 (cmp3 n n'), .int .i64 (cmp3 m m'), .int .i64 (cmp3 d d')] 3)).drew (some ⟨W.heap.size + 2, 0, none⟩) 4 [cmp3 k k', cmp3 n n', cmp3 m m', cmp3 d d'] by
    have := row4_lies w0 3 _ _ _ _ (cmp3_wf k k') (cmp3_wf n n') (cmp3_wf m m') (cmp3_wf d d')
    rw [hsz] at this; exact this.below ((Below.refl _ _).drew))
  have lt0 : W.heap.size < w0.heap.size := by omega
  have lt1 : W.heap.size + 1 < w0.heap.size := by omega
  have MK := Lib.hid (fun w' (hb : Below w0.heap.size w0 w') => (show w'.cell? ⟨W.heap.size, 0, none⟩ = some (.int .i64 k) ∧ w'.cell? ⟨W.heap.size, 1, none⟩ = some (.int .i64 n) ∧ w'.cell? ⟨W.heap.size, 2, none⟩ = some (.int .i64 m) ∧ w'.cell? ⟨W.heap.size, 3, none⟩ = some (.int .i64 d) ∧ w'.cell? ⟨W.heap.size + 1, 0, none⟩ = some (.int .i64 k') ∧ w'.cell? ⟨W.heap.size + 1, 1, none⟩ = some (.int .i64 n') ∧ w'.cell? ⟨W.heap.size + 1, 2, none⟩ = some (.int .i64 m') ∧ w'.cell? ⟨W.heap.size + 1, 3, none⟩ = some (.int .i64 d') ∧ Below w0.heap.size w0 w' from
    ⟨(hb.cell (p := ⟨W.heap.size, 0, none⟩) lt0).trans a0, (hb.cell (p := ⟨W.heap.size, 1, none⟩) lt0).trans a1, (hb.cell (p := ⟨W.heap.size, 2, none⟩) lt0).trans a2, (hb.cell (p := ⟨W.heap.size, 3, none⟩) lt0).trans a3, (hb.cell (p := ⟨W.heap.size + 1, 0, none⟩) lt1).trans b0, (hb.cell (p := ⟨W.heap.size + 1, 1, none⟩) lt1).trans b1, (hb.cell (p := ⟨W.heap.size + 1, 2, none⟩) lt1).trans b2, (hb.cell (p := ⟨W.heap.size + 1, 3, none⟩) lt1).trans b3, hb⟩))
  generalize ncmp k n m d k' n' m' d' = z at *
  go_enter Try.func44, Try.ntmps44
  go_wp2_with fail
  rw [← hw0]
  clear hw0
  generalize W.heap.size + 1 = Y at *
  generalize hX : W.heap.size = X at *
  go_region_held3 (fun w' => w'.cell? ⟨X, 0, none⟩ = some (.int .i64 k) ∧ w'.cell? ⟨X, 1, none⟩ = some (.int .i64 n) ∧ w'.cell? ⟨X, 2, none⟩ = some (.int .i64 m) ∧ w'.cell? ⟨X, 3, none⟩ = some (.int .i64 d) ∧ w'.cell? ⟨Y, 0, none⟩ = some (.int .i64 k') ∧ w'.cell? ⟨Y, 1, none⟩ = some (.int .i64 n') ∧ w'.cell? ⟨Y, 2, none⟩ = some (.int .i64 m') ∧ w'.cell? ⟨Y, 3, none⟩ = some (.int .i64 d') ∧ Below w0.heap.size w0 w') (first | exact MK.out _ ((Below.refl _ _).drew) | assumption | exact MK.out _ (((Below.refl _ _).alloc (Nat.le_refl _) _).drew) | exact MK.out _ (((Below.refl _ _).drew).alloc (by simp) _).drew) (first | (go_at_call 66; (with_reducible refine (CC.out _ _ _).mono ?_); rintro e w' ⟨rfl, rfl⟩) | (go_at_call 65; (with_reducible refine (CO.out _ _ _ _ RF.out).mono ?_); rintro e w' ⟨rfl, rfl⟩))
  rename_i hSS
  obtain ⟨_, _, _, _, _, _, _, _, hBB⟩ := hSS
  go_wp2_with fail
  go_ret
  exact ⟨by rw [E.out]; rfl, by have h2 := hB.size; rw [hX] at h2; have h3 := hB.trans (hBB.mono h2); rw [← hX] at h3; exact h3⟩
set_option maxRecDepth 100000 in
set_option maxHeartbeats 4000000 in
theorem r15_cmp (k n m d k' n' m' d' : Int) (W : World) :
    Calls Try.prog 45 #[.agg #[.int .i64 k, .int .i64 n, .int .i64 m, .int .i64 d], .agg #[.int .i64 k', .int .i64 n', .int .i64 m', .int .i64 d']] W fun e w' => e = .returned (.int .i64 (ncmp k n m d k' n' m' d')) ∧ Below W.heap.size W w' := by
  obtain ⟨w0, hw0, ⟨a0, a1, a2, a3⟩, ⟨b0, b1, b2, b3⟩, hB, hsz⟩ := two_boxes W k n m d k' n' m' d' 54
  rw [hw0] at a0 a1 a2 a3 b0 b1 b2 b3
  obtain ⟨w4, hw4, hxs, hys, hW, hsz4⟩ := two_rows W (.cells #[.int .i64 k, .int .i64 n, .int .i64 m, .int .i64 d] 54) (.cells #[.int .i64 k', .int .i64 n', .int .i64 m', .int .i64 d'] 54) k n m d k' n' m' d' 3
  have ZA := Lib.hid (fz_at [cmp3 k k', cmp3 n n', cmp3 m m', cmp3 d d'])
  have ZN := Lib.hid (fz_none [cmp3 k k', cmp3 n n', cmp3 m m', cmp3 d d'])
  have ZG := Lib.hid (fun t (ht : t < 4) => (show [cmp3 k k', cmp3 n n', cmp3 m m', cmp3 d d'].getD t 0 = cmp3 ([k, n, m, d].getD t 0) ([k', n', m', d'].getD t 0) by
    rcases four_at 0 0 0 0 ht with rfl | rfl | rfl | rfl <;> rfl))
  have ZL := Lib.hid (show [cmp3 k k', cmp3 n n', cmp3 m m', cmp3 d d'].length = 4 from rfl)
  have E := Lib.hid (show ncmp k n m d k' n' m' d' = fz [cmp3 k k', cmp3 n n', cmp3 m m', cmp3 d d'] from rfl)
  have HX := Lib.hid hxs
  have HY := Lib.hid hys
  clear hw0 hB hsz hxs hys
  generalize ncmp k n m d k' n' m' d' = z at *
  generalize [cmp3 k k', cmp3 n n', cmp3 m m', cmp3 d d'] = zs at *
  generalize [k, n, m, d] = xs at *
  generalize [k', n', m', d'] = ys at *
  go_enter Try.func45, Try.ntmps45
  go_wp2_with fail
  rw [← hw4]
  clear hw4 a0 a1 a2 a3 b0 b1 b2 b3
  go_loopw [7] (fun i wr => ∃ j : Nat, j ≤ 4 ∧ i = .int .i64 j ∧ Hid (∀ t, t < j → zs.getD t 0 = 0) ∧ Below w4.heap.size w4 wr) (fun i _ => 4 - (intOf i).toNat)
  case atStart => exact ⟨0, by omega, rfl, Lib.hid (fun t ht => by omega), Below.refl _ _⟩
  case round =>
    obtain ⟨j, hj, rfl, HZ, hB⟩ := hrel
    by_cases hlt : j < 4
    · have hd : decide ((j : Int) < 4) = true := decide_eq_true (by omega)
      have G := ZG.out j hlt
      have hcx := (hB.cell (p := ⟨W.heap.size + 1 + 1, j, none⟩) (by show W.heap.size + 1 + 1 < _; omega)).trans (HX.out j hlt)
      have hcy := (hB.cell (p := ⟨W.heap.size + 1 + 1 + 1, j, none⟩) (by show W.heap.size + 1 + 1 + 1 < _; omega)).trans (HY.out j hlt)
      have ZA1 := Lib.hid (ZA.out j (by rw [ZL.out]; exact hlt) HZ.out)
      have ZS := Lib.hid (fun (h : zs.getD j 0 = 0) t (ht : t < j + 1) => (show zs.getD t 0 = 0 by
        by_cases e : t = j
        · rw [e]; exact h
        · exact HZ.out t (by omega)))
      generalize zs.getD j 0 = c at *
      generalize xs.getD j 0 = x at *
      generalize ys.getD j 0 = y at *
      rcases Int.lt_trichotomy x y with h | h | h
      · rw [cmp3_lt h] at G
        have d1 : decide (x < y) = true := decide_eq_true h
        have E1 := Lib.hid (E.out.trans (ZA1.out (by omega)))
        go_wp2_with fail
        go_quiet (fail)
        go_wp2_with fail
        go_ret
        exact ⟨by rw [E1.out, G]; rfl, by first | exact hW.trans (Below.mono (below_drewN hB _) (show W.heap.size ≤ w4.heap.size by omega)) | exact hW.trans (Below.mono (below_drewN (below_drewN hB _) _) (show W.heap.size ≤ w4.heap.size by omega))⟩
      · rw [cmp3_eq h] at G
        subst h
        have d1 : decide (x < x) = false := decide_eq_false (by omega)
        have ZS1 := Lib.hid (ZS.out G)
        go_wp2_with fail
        go_quiet (fail)
        go_wp2_with fail
        go_quiet (fail)
        go_wp2_with fail
        go_roundw
        case rel => exact ⟨j + 1, by omega, by go_num, ZS1, below_drewN hB _⟩
        case measure => (first | (simp [intOf]; done) | (simp [intOf]; omega) | (simp only [intOf]; omega))
      · rw [cmp3_gt h] at G
        have d1 : decide (x < y) = false := decide_eq_false (by omega)
        have d2 : decide (y < x) = true := decide_eq_true h
        have E1 := Lib.hid (E.out.trans (ZA1.out (by omega)))
        go_wp2_with fail
        go_quiet (fail)
        go_wp2_with fail
        go_quiet (fail)
        go_wp2_with fail
        go_ret
        exact ⟨by rw [E1.out, G]; rfl, by first | exact hW.trans (Below.mono (below_drewN hB _) (show W.heap.size ≤ w4.heap.size by omega)) | exact hW.trans (Below.mono (below_drewN (below_drewN hB _) _) (show W.heap.size ≤ w4.heap.size by omega))⟩
    · obtain rfl : j = 4 := by omega
      have E1 := Lib.hid (E.out.trans (ZN.out (fun t ht => HZ.out t (by rw [ZL.out] at ht; exact ht))))
      go_wp2_with fail
      go_ret
      exact ⟨by rw [E1.out]; rfl, hW.trans (hB.mono (by omega))⟩
theorem cmp3_neg (x y : Int) : cmp3 y x = - cmp3 x y := by
  rcases Int.lt_trichotomy x y with h | h | h
  · rw [cmp3_lt h, cmp3_gt h]; rfl
  · rw [cmp3_eq h, cmp3_eq h.symm]; rfl
  · rw [cmp3_gt h, cmp3_lt h]
theorem fz_neg : ∀ xs : List Int, fz (xs.map fun x => -x) = - fz xs
  | [] => rfl
  | x :: r => by
    rw [List.map_cons, fz, fz]
    by_cases h : x = 0
    · rw [if_pos h, if_pos (by omega), fz_neg r]
    · rw [if_neg h, if_neg (by omega)]
theorem ncmp_neg (k n m d k' n' m' d' : Int) : ncmp k' n' m' d' k n m d = - ncmp k n m d k' n' m' d' := by
  unfold ncmp
  rw [cmp3_neg k k', cmp3_neg n n', cmp3_neg m m', cmp3_neg d d', ← fz_neg]
  rfl
theorem ncmp_bd (k n m d k' n' m' d' : Int) : -1 ≤ ncmp k n m d k' n' m' d' ∧ ncmp k n m d k' n' m' d' ≤ 1 := by
  have c : ∀ x y, -1 ≤ cmp3 x y ∧ cmp3 x y ≤ 1 := fun x y => by unfold cmp3; split <;> (try split) <;> omega
  have f : ∀ xs : List Int, (∀ x ∈ xs, -1 ≤ x ∧ x ≤ 1) → -1 ≤ fz xs ∧ fz xs ≤ 1 := fun xs => by
    induction xs with
    | nil => intro _; unfold fz; omega
    | cons x r ih =>
      intro h
      unfold fz
      split
      · exact ih fun y hy => h y (List.mem_cons_of_mem _ hy)
      · exact h x (List.mem_cons_self ..)
  refine f _ fun x hx => ?_
  simp only [List.mem_cons, List.not_mem_nil, or_false] at hx
  rcases hx with rfl | rfl | rfl | rfl <;> exact c _ _
end Go.Proofs.Yticljddfdeocbaa
