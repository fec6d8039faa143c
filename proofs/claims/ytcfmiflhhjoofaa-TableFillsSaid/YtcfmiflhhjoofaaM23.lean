/- Put together by program (merge.py): Tab2 Tab3. -/
import Derived.Test.YtcfmiflhhjoofaaM22
/- Names of tables: reference 15's Right. -/
namespace Go.Proofs.Ytcfmiflhhjoofaa
open Go.ChangeShapes Go.WideShapes Go.ChangeAt Go.RowKit
set_option linter.unusedVariables false
set_option maxRecDepth 100000 in
set_option maxHeartbeats 4000000 in
theorem r15_right (k n m d : Int) (W : World) (wn : -9223372036854775808 ≤ n ∧ n ≤ 9223372036854775807) (wm : m ≤ 9223372036854775807) :
    Calls Try.prog 6 #[.agg #[.int .i64 k, .int .i64 n, .int .i64 m, .int .i64 d]] W fun e w' => e = .returned (.bool (rightb k n m d)) ∧ Below W.heap.size W w' := by
  have H := Lib.hid (fun w => r4_has n w wn.1 wn.2)
  have FP := Lib.hid (fun w => r3_prime n w wn.2)
  have SH := Lib.hid (fun w => r8_power m w wm)
  have hB := (Below.refl W.heap.size W).alloc (Nat.le_refl _) (.cells #[.int .i64 k, .int .i64 n, .int .i64 m, .int .i64 d] 23)
  cases hh : hasb n with
  | false =>
    rw [hh] at H
    have E := Lib.hid (rightb_has (k := k) (m := m) (d := d) hh)
    go_enter Try.func6, Try.ntmps6
    go_wp2_with fail
    refine (H.out _).mono ?_
    rintro e w1 ⟨rfl, rfl⟩
    go_wp2_with fail
    go_ret
    exact ⟨by rw [E.out]; rfl, hB⟩
  | true =>
  rw [hh] at H
  obtain ⟨n1, n2, _⟩ := hasb_dvd hh
  have w2 : IntKind.i64.wrap (2 * n - 1) = 2 * n - 1 := IntWalk.i64_in _ (by omega)
  have w3 : IntKind.i64.wrap (2 * n) = 2 * n := IntWalk.i64_in _ (by omega)
  by_cases hd : d = 0 ∨ d = 1
  case neg =>
    have E := Lib.hid (rightb_dir (k := k) (n := n) (m := m) hd)
    by_cases h0 : d < 0
    · have d0 : decide (d < 0) = true := decide_eq_true h0
      go_enter Try.func6, Try.ntmps6
      go_wp2_with fail
      refine (H.out _).mono ?_
      rintro e w1 ⟨rfl, rfl⟩
      go_wp2_with fail
      go_ret
      exact ⟨by rw [E.out]; rfl, hB⟩
    · have d0 : decide (d < 0) = false := decide_eq_false h0
      have d1 : decide (1 < d) = true := decide_eq_true (by omega)
      go_enter Try.func6, Try.ntmps6
      go_wp2_with fail
      refine (H.out _).mono ?_
      rintro e w1 ⟨rfl, rfl⟩
      go_wp2_with fail
      go_ret
      exact ⟨by rw [E.out]; rfl, hB⟩
  by_cases hk : k = 1 ∨ k = 2
  · have E := Lib.hid (rightb_12 (m := m) hh hd hk)
    have hm : (m == 0) = decide (m = 0) := rfl
    generalize decide (m = 0) = z at *
    rcases hd with rfl | rfl <;> rcases hk with rfl | rfl
    all_goals
      go_enter Try.func6, Try.ntmps6
      go_wp2_with fail
      refine (H.out _).mono ?_
      rintro e w1 ⟨rfl, rfl⟩
      go_wp2_with fail
      go_ret
      exact ⟨by rw [E.out]; rfl, hB⟩
  by_cases hk3 : k = 3
  · subst hk3
    by_cases hm : m = 0
    · by_cases h3 : 3 ≤ n
      · have E := Lib.hid (show rightb 3 n m d = prb n by rw [rightb_3 hh hd, decide_eq_true ⟨hm, h3⟩, Bool.true_and])
        subst hm
        have d3 : decide (2 < n) = true := decide_eq_true (by omega)
        generalize prb n = z at *
        rcases hd with rfl | rfl
        all_goals
          go_enter Try.func6, Try.ntmps6
          go_wp2_with fail
          refine (H.out _).mono ?_
          rintro e w1 ⟨rfl, rfl⟩
          go_wp2_with fail
          refine (FP.out _).mono ?_
          rintro e w2 ⟨rfl, rfl⟩
          go_wp2_with fail
          go_ret
          exact ⟨by rw [E.out]; rfl, hB⟩
      · have E := Lib.hid (show rightb 3 n m d = false by rw [rightb_3 hh hd, decide_eq_false (fun h => h3 h.2), Bool.false_and])
        subst hm
        have d3 : decide (2 < n) = false := decide_eq_false (by omega)
        rcases hd with rfl | rfl
        all_goals
          go_enter Try.func6, Try.ntmps6
          go_wp2_with fail
          refine (H.out _).mono ?_
          rintro e w1 ⟨rfl, rfl⟩
          go_wp2_with fail
          go_ret
          exact ⟨by rw [E.out]; rfl, hB⟩
    · have E := Lib.hid (show rightb 3 n m d = false by rw [rightb_3 hh hd, decide_eq_false (fun h => hm h.1), Bool.false_and])
      have e0 : (m == 0) = false := by simp; omega
      rcases hd with rfl | rfl
      all_goals
        go_enter Try.func6, Try.ntmps6
        go_wp2_with fail
        refine (H.out _).mono ?_
        rintro e w1 ⟨rfl, rfl⟩
        go_wp2_with fail
        go_ret
        exact ⟨by rw [E.out]; rfl, hB⟩
  by_cases hk4 : k = 4
  · subst hk4
    by_cases h2 : 2 ≤ n
    · have d2 : decide (2 ≤ n) = true := decide_eq_true h2
      by_cases h3 : 2 * n - 1 ≤ m
      · have d3 : decide (2 * n - 1 ≤ m) = true := decide_eq_true h3
        by_cases h4 : m ≤ 16777216
        · have d4 : decide (m ≤ 16777216) = true := decide_eq_true h4
          have E := Lib.hid (show rightb 4 n m d = pwb m by rw [rightb_4 hh hd, d2, d3]; unfold hasp; rw [d4, Bool.true_and, Bool.true_and, Bool.and_true])
          generalize pwb m = z at *
          rcases hd with rfl | rfl
          all_goals
            go_enter Try.func6, Try.ntmps6
            go_wp2_with fail
            refine (H.out _).mono ?_
            rintro e w1 ⟨rfl, rfl⟩
            go_wp2_with fail
            refine (SH.out _).mono ?_
            rintro e w2 ⟨rfl, rfl⟩
            go_wp2_with fail
            go_ret
            exact ⟨by rw [E.out]; rfl, hB⟩
        · have d4 : decide (m ≤ 16777216) = false := decide_eq_false h4
          have E := Lib.hid (show rightb 4 n m d = false by rw [rightb_4 hh hd]; unfold hasp; rw [d4, Bool.false_and, Bool.and_false, Bool.false_and])
          rcases hd with rfl | rfl
          all_goals
            go_enter Try.func6, Try.ntmps6
            go_wp2_with fail
            refine (H.out _).mono ?_
            rintro e w1 ⟨rfl, rfl⟩
            go_wp2_with fail
            go_ret
            exact ⟨by rw [E.out]; rfl, hB⟩
      · have d3 : decide (2 * n - 1 ≤ m) = false := decide_eq_false h3
        have E := Lib.hid (show rightb 4 n m d = false by rw [rightb_4 hh hd, d3, Bool.and_false])
        rcases hd with rfl | rfl
        all_goals
          go_enter Try.func6, Try.ntmps6
          go_wp2_with fail
          refine (H.out _).mono ?_
          rintro e w1 ⟨rfl, rfl⟩
          go_wp2_with fail
          go_ret
          exact ⟨by rw [E.out]; rfl, hB⟩
    · have d2 : decide (2 ≤ n) = false := decide_eq_false h2
      have E := Lib.hid (show rightb 4 n m d = false by rw [rightb_4 hh hd, d2, Bool.false_and, Bool.false_and])
      rcases hd with rfl | rfl
      all_goals
        go_enter Try.func6, Try.ntmps6
        go_wp2_with fail
        refine (H.out _).mono ?_
        rintro e w1 ⟨rfl, rfl⟩
        go_wp2_with fail
        go_ret
        exact ⟨by rw [E.out]; rfl, hB⟩
  have E := Lib.hid (rightb_no (n := n) (m := m) (d := d) ⟨hk, hk3, hk4⟩)
  have e1 : (k == 1) = false := by simp; omega
  have e2 : (k == 2) = false := by simp; omega
  have e3 : (k == 3) = false := by simp; omega
  have e4 : (k == 4) = false := by simp; omega
  rcases hd with rfl | rfl
  all_goals
    go_enter Try.func6, Try.ntmps6
    go_wp2_with fail
    refine (H.out _).mono ?_
    rintro e w1 ⟨rfl, rfl⟩
    go_wp2_with fail
    go_ret
    exact ⟨by rw [E.out]; rfl, hB⟩
end Go.Proofs.Ytcfmiflhhjoofaa
/- Names of tables: both Rooms. -/
namespace Go.Proofs.Ytcfmiflhhjoofaa
open Go.ChangeShapes Go.WideShapes Go.ChangeAt Go.RowKit
set_option linter.unusedVariables false
set_option maxRecDepth 100000 in
theorem need_room (k n m d : Int) (W : World) (wn : -9223372036854775808 ≤ n ∧ n ≤ 9223372036854775807) (wm : m ≤ 9223372036854775807) :
    Calls Try.prog 16 #[.agg #[.int .i64 k, .int .i64 n, .int .i64 m, .int .i64 d]] W fun e w' => e = .returned (.int .i64 (if rightb k n m d then roomi k n m else 0)) ∧ Below W.heap.size W w' := by
  have hB := (Below.refl W.heap.size W).alloc (Nat.le_refl _) (.cells #[.int .i64 k, .int .i64 n, .int .i64 m, .int .i64 d] 23)
  have hcell : ∀ j, j < 4 → (W.alloc (.cells #[.int .i64 k, .int .i64 n, .int .i64 m, .int .i64 d] 23)).cell? ⟨W.heap.size, j, none⟩ = (#[Value.int .i64 k, .int .i64 n, .int .i64 m, .int .i64 d] : Array Value)[j]? := fun j hj => by
    rw [cell_of_row _ _ j _ _ _ (heap_alloc_new W (.cells #[.int .i64 k, .int .i64 n, .int .i64 m, .int .i64 d] 23))]
  have RR := Lib.hid (fun w => need_right k n m d w wn)
  have hsz : W.heap.size < (W.alloc (.cells #[.int .i64 k, .int .i64 n, .int .i64 m, .int .i64 d] 23)).heap.size := by simp
  cases hr : rightb k n m d with
  | false =>
    rw [hr] at RR
    go_enter Try.func16, Try.ntmps16
    go_wp2_with fail
    refine (RR.out _).mono ?_
    rintro e w1 ⟨rfl, b1⟩
    go_wp2_with fail
    go_ret
    exact ⟨rfl, hB.trans (b1.mono hB.size)⟩
  | true =>
    rw [hr] at RR
    have n1 : 1 ≤ n ∧ n ≤ 16777216 := by
      cases hh : hasb n with
      | false => rw [rightb_has hh] at hr; cases hr
      | true => obtain ⟨a, b, _⟩ := hasb_dvd hh; exact ⟨a, b⟩
    have E : Hid (∀ z, z = roomi k n m → Ending.returned (Value.int .i64 z) = .returned (.int .i64 (if true = true then roomi k n m else 0))) := Lib.hid (fun z h => by rw [if_pos rfl, h])
    clear hr
    generalize hW0 : W.alloc (.cells #[.int .i64 k, .int .i64 n, .int .i64 m, .int .i64 d] 23) = w0 at *
    by_cases hk3 : k = 3
    · subst hk3
      have HR := Lib.hid (show n - 1 = roomi 3 n m by unfold roomi; rw [if_pos rfl])
      go_enter Try.func16, Try.ntmps16
      go_wp2_with fail
      refine (RR.out _).mono ?_
      rintro e w1 ⟨rfl, b1⟩
      have c0 := (b1.cell (p := ⟨W.heap.size, 0, none⟩) hsz).trans (hcell 0 (by omega))
      have c1 := (b1.cell (p := ⟨W.heap.size, 1, none⟩) hsz).trans (hcell 1 (by omega))
      simp at c0 c1
      go_wp2_with fail
      go_ret
      exact ⟨E.out _ HR.out, hB.trans (b1.mono hB.size)⟩
    have e3 : (k == 3) = false := by simp; omega
    by_cases hk4 : k = 4
    · subst hk4
      have HR := Lib.hid (show m = roomi 4 n m by unfold roomi; rw [if_neg (by omega), if_pos rfl])
      go_enter Try.func16, Try.ntmps16
      go_wp2_with fail
      refine (RR.out _).mono ?_
      rintro e w1 ⟨rfl, b1⟩
      have c0 := (b1.cell (p := ⟨W.heap.size, 0, none⟩) hsz).trans (hcell 0 (by omega))
      have c1 := (b1.cell (p := ⟨W.heap.size, 2, none⟩) hsz).trans (hcell 2 (by omega))
      simp at c0 c1
      go_wp2_with fail
      go_ret
      exact ⟨E.out _ HR.out, hB.trans (b1.mono hB.size)⟩
    have e4 : (k == 4) = false := by simp; omega
    have HR := Lib.hid (show n = roomi k n m by unfold roomi; rw [if_neg hk3, if_neg hk4])
    go_enter Try.func16, Try.ntmps16
    go_wp2_with fail
    refine (RR.out _).mono ?_
    rintro e w1 ⟨rfl, b1⟩
    have c0 := (b1.cell (p := ⟨W.heap.size, 0, none⟩) hsz).trans (hcell 0 (by omega))
    have c1 := (b1.cell (p := ⟨W.heap.size, 1, none⟩) hsz).trans (hcell 1 (by omega))
    simp at c0 c1
    go_wp2_with fail
    go_ret
    exact ⟨E.out _ HR.out, hB.trans (b1.mono hB.size)⟩
set_option maxRecDepth 100000 in
theorem r15_room (k n m d : Int) (W : World) (wn : -9223372036854775808 ≤ n ∧ n ≤ 9223372036854775807) (wm : m ≤ 9223372036854775807) :
    Calls Try.prog 14 #[.agg #[.int .i64 k, .int .i64 n, .int .i64 m, .int .i64 d]] W fun e w' => e = .returned (.int .i64 (if rightb k n m d then roomi k n m else 0)) ∧ Below W.heap.size W w' := by
  have hB := (Below.refl W.heap.size W).alloc (Nat.le_refl _) (.cells #[.int .i64 k, .int .i64 n, .int .i64 m, .int .i64 d] 23)
  have hcell : ∀ j, j < 4 → (W.alloc (.cells #[.int .i64 k, .int .i64 n, .int .i64 m, .int .i64 d] 23)).cell? ⟨W.heap.size, j, none⟩ = (#[Value.int .i64 k, .int .i64 n, .int .i64 m, .int .i64 d] : Array Value)[j]? := fun j hj => by
    rw [cell_of_row _ _ j _ _ _ (heap_alloc_new W (.cells #[.int .i64 k, .int .i64 n, .int .i64 m, .int .i64 d] 23))]
  have RR := Lib.hid (fun w => r15_right k n m d w wn wm)
  have hsz : W.heap.size < (W.alloc (.cells #[.int .i64 k, .int .i64 n, .int .i64 m, .int .i64 d] 23)).heap.size := by simp
  cases hr : rightb k n m d with
  | false =>
    rw [hr] at RR
    go_enter Try.func14, Try.ntmps14
    go_wp2_with fail
    refine (RR.out _).mono ?_
    rintro e w1 ⟨rfl, b1⟩
    go_wp2_with fail
    go_ret
    exact ⟨rfl, hB.trans (b1.mono hB.size)⟩
  | true =>
    rw [hr] at RR
    have n1 : 1 ≤ n ∧ n ≤ 16777216 := by
      cases hh : hasb n with
      | false => rw [rightb_has hh] at hr; cases hr
      | true => obtain ⟨a, b, _⟩ := hasb_dvd hh; exact ⟨a, b⟩
    have E : Hid (∀ z, z = roomi k n m → Ending.returned (Value.int .i64 z) = .returned (.int .i64 (if true = true then roomi k n m else 0))) := Lib.hid (fun z h => by rw [if_pos rfl, h])
    clear hr
    generalize hW0 : W.alloc (.cells #[.int .i64 k, .int .i64 n, .int .i64 m, .int .i64 d] 23) = w0 at *
    by_cases hk3 : k = 3
    · subst hk3
      have HR := Lib.hid (show n - 1 = roomi 3 n m by unfold roomi; rw [if_pos rfl])
      go_enter Try.func14, Try.ntmps14
      go_wp2_with fail
      refine (RR.out _).mono ?_
      rintro e w1 ⟨rfl, b1⟩
      have c0 := (b1.cell (p := ⟨W.heap.size, 0, none⟩) hsz).trans (hcell 0 (by omega))
      have c1 := (b1.cell (p := ⟨W.heap.size, 1, none⟩) hsz).trans (hcell 1 (by omega))
      simp at c0 c1
      go_wp2_with fail
      go_ret
      exact ⟨E.out _ HR.out, hB.trans (b1.mono hB.size)⟩
    have e3 : (k == 3) = false := by simp; omega
    by_cases hk4 : k = 4
    · subst hk4
      have HR := Lib.hid (show m = roomi 4 n m by unfold roomi; rw [if_neg (by omega), if_pos rfl])
      go_enter Try.func14, Try.ntmps14
      go_wp2_with fail
      refine (RR.out _).mono ?_
      rintro e w1 ⟨rfl, b1⟩
      have c0 := (b1.cell (p := ⟨W.heap.size, 0, none⟩) hsz).trans (hcell 0 (by omega))
      have c1 := (b1.cell (p := ⟨W.heap.size, 2, none⟩) hsz).trans (hcell 2 (by omega))
      simp at c0 c1
      go_wp2_with fail
      go_ret
      exact ⟨E.out _ HR.out, hB.trans (b1.mono hB.size)⟩
    have e4 : (k == 4) = false := by simp; omega
    have HR := Lib.hid (show n = roomi k n m by unfold roomi; rw [if_neg hk3, if_neg hk4])
    go_enter Try.func14, Try.ntmps14
    go_wp2_with fail
    refine (RR.out _).mono ?_
    rintro e w1 ⟨rfl, b1⟩
    have c0 := (b1.cell (p := ⟨W.heap.size, 0, none⟩) hsz).trans (hcell 0 (by omega))
    have c1 := (b1.cell (p := ⟨W.heap.size, 1, none⟩) hsz).trans (hcell 1 (by omega))
    simp at c0 c1
    go_wp2_with fail
    go_ret
    exact ⟨E.out _ HR.out, hB.trans (b1.mono hB.size)⟩
end Go.Proofs.Ytcfmiflhhjoofaa
