/- Package cand's plain: the plan without a choice. -/
import Derived.Test.YtfjioflggkmhcaaCandb
import Derived.Test.YtfjioflggkmhcaaAtr
namespace Go.Proofs.Ytfjioflggkmhcaa
open Go.ChangeShapes Go.WideShapes Go.ChangeAt Go.RowKit
set_option linter.unusedVariables false
set_option linter.unusedSimpArgs false
theorem hasp_small {n : Nat} (h : n ≤ 16777216) : hasp (n : Int) = pwb (n : Int) := by unfold hasp; rw [decide_eq_true (by omega), Bool.true_and]
theorem prb_fa {n : Nat} (h1 : 1 ≤ n) (h : n ≤ 16777216) (hp : ¬ prb (n : Int) = true) (h2 : 2 ≤ n) : 1 ≤ (fa n).length ∧ 2 ≤ lastP n ∧ lastP n ∣ n ∧ lastP n < n := by
  have hl : 1 ≤ (fa n).length := by
    rcases Nat.eq_zero_or_pos (fa n).length with h0 | h0
    · have e := pw_fa h1
      rw [List.length_eq_zero_iff.1 h0] at e
      simp [pw] at e
      omega
    · exact h0
  obtain ⟨g1, g2, g3, _, _⟩ := fa_pow h1 (i := (fa n).length - 1) (by omega)
  refine ⟨hl, g1, g2, ?_⟩
  rcases Nat.lt_or_eq_of_le (Nat.le_of_dvd h1 g2) with h | h
  · exact h
  · exfalso
    apply hp
    unfold prb
    rw [Bool.and_eq_true, decide_eq_true_iff, isPb_iff]
    exact ⟨by omega, by rw [show ((n : Int)).toNat = n by omega]; rw [h] at g3; exact g3⟩
theorem fsts_last {n : Nat} (h : 1 ≤ (fa n).length) : (fsts (fa n)).getD ((fa n).length - 1) 0 = ((lastP n : Nat) : Int) := by rw [fsts_at]; rfl
set_option maxRecDepth 100000 in
set_option maxHeartbeats 8000000 in
/-- The plan without a choice. -/
theorem cand_plain (f : Nat) : ∀ (n : Nat) (W : World), 1 ≤ n → n ≤ f → n ≤ 16777216 → Calls Try.prog 64 #[.int .i64 (n : Int)] W (GivesD W (plT f n)) := by
  induction f with
  | zero => intro n W h1 hf _; omega
  | succ f ih =>
    intro n W h1 hf h2
    have IH := Lib.hid (fun (m : Nat) (a : 1 ≤ m) (b : m < n) w => ih m w a (by omega) (by omega))
    clear ih
    have SH := Lib.hid (fun w => small_has (n : Int) w)
    have ST := fun w => stock_has (n : Int) w
    rw [hasp_small h2] at ST
    have ST := Lib.hid ST
    have FP := Lib.hid (fun w => fact_prime (n : Int) w)
    have PR := Lib.hid (fun w => cand_primes n w h1 h2)
    have OF := Lib.hid (fun k p m c w => cand_of k (n : Int) p m c w)
    obtain ⟨w1, hw1⟩ : ∃ w1, W.alloc (.cells #[.int .i64 0, .int .i64 0, .slice none 0 0] 24) = w1 := ⟨_, rfl⟩
    have r1 := heap_alloc_new W (.cells #[.int .i64 0, .int .i64 0, .slice none 0 0] 24)
    rw [hw1] at r1
    have HB1 := Lib.hid (show Below W.heap.size W w1 by rw [← hw1]; exact (Below.refl _ _).alloc (Nat.le_refl _) _)
    have hs1 : w1.heap.size = W.heap.size + 1 := by rw [← hw1]; simp
    have RX := Lib.hid (fun w (hb : Below w1.heap.size w1 w) => (hb.block W.heap.size (by omega)).trans r1)
    have Bk : Below w1.heap.size w1 w1 := Below.refl _ _
    have hlw : W.heap.size + 1 ≤ w1.heap.size := by omega
    clear r1
    have HW1 := Lib.hid hs1
    clear hs1
    by_cases c1 : 2 ≤ n ∧ n ≤ 5
    · have E : plT (f + 1) n = ⟨2, n, .nil⟩ := by rw [plT, if_pos c1]
      rw [E]
      rw [show few (n : Int) = true from decide_eq_true (by omega)] at SH
      have d1 : decide ((2 : Int) ≤ (n : Int)) = true := decide_eq_true (by omega)
      have d1' : decide (2 ≤ n) = true := decide_eq_true (by omega)
      clear E ST FP PR IH
      obtain ⟨u, hu⟩ : ∃ u, w1 = u := ⟨_, rfl⟩
      subst hu
      go_enter Try.func64, Try.ntmps64
      go_wp2_with fail
      (try rw [hw1])
      clear hw1
      refine (SH.out _).mono ?_
      rintro e u ⟨rfl, rfl⟩
      go_wp2_with fail
      refine (OF.out 2 none 0 0 _).mono ?_
      rintro e ux ⟨rfl, bx⟩
      have Bk2 := Bk.trans (bx.mono Bk.size)
      clear Bk
      have Bk := Bk2
      clear Bk2 bx
      generalize ux = u at *
      have HK := Lib.hid (KidsS.nought u (fun b => b < u.heap.size ∧ W.heap.size + 1 ≤ b))
      obtain ⟨x0, x1, x2, f0, f1, f2⟩ := row_cells3 (RX.out _ Bk)
      have HR := Lib.hid (row_put3 (a := .int .i64 2) (b := .int .i64 (n : Int)) (c := (.slice none 0 0)) (RX.out _ Bk))
      have HBF := Lib.hid (below_put3 (HB1.out.trans (Bk.mono HB1.out.size)) (Nat.le_refl _) (.int .i64 2) (.int .i64 (n : Int)) (.slice none 0 0))
      have HQ := Lib.hid (HK.out.carry (w' := ((u.setCell ⟨W.heap.size, 0, none⟩ (.int .i64 2)).setCell ⟨W.heap.size, 1, none⟩ (.int .i64 (n : Int))).setCell ⟨W.heap.size, 2, none⟩ (.slice none 0 0)) (S' := fun b => b < (((u.setCell ⟨W.heap.size, 0, none⟩ (.int .i64 2)).setCell ⟨W.heap.size, 1, none⟩ (.int .i64 (n : Int))).setCell ⟨W.heap.size, 2, none⟩ (.slice none 0 0)).heap.size ∧ W.heap.size ≤ b) (fun b hb => ⟨⟨by simpa using hb.1, by omega⟩, by rw [Below.heap_setCell _ _ _ _ (by show b ≠ W.heap.size; omega), Below.heap_setCell _ _ _ _ (by show b ≠ W.heap.size; omega), Below.heap_setCell _ _ _ _ (by show b ≠ W.heap.size; omega)]⟩))
      go_wp2_with fail
      refine bodyPost_ret (results_cell_row (p := 2) (ty := 24) rfl _ _ _ 24 #[.int .i64 2, .int .i64 (n : Int), (.slice none 0 0)] (0, 0) _ rfl HR.out Try.underlying24 rfl (by kernel_rfl)) rfl ?_
      exact ⟨_, rfl, HQ.out, HBF.out⟩
    by_cases c20 : n = 1
    · have E : plT (f + 1) n = ⟨1, n, .nil⟩ := by rw [plT, if_neg (by omega), if_pos (.inl c20)]
      rw [E]
      have d1 : decide ((2 : Int) ≤ (n : Int)) = false := decide_eq_false (by omega)
      have d1' : decide (2 ≤ n) = false := decide_eq_false (by omega)
      have d2 : ((n : Int) == 1) = true := by simp; omega
      clear E ST FP PR IH SH c1 c20
      go_enter Try.func64, Try.ntmps64
      go_wp2_with fail
      (try rw [hw1])
      clear hw1
      (try go_wp2_with fail)
      refine (OF.out 1 none 0 0 _).mono ?_
      rintro e ux ⟨rfl, bx⟩
      have Bk2 := Bk.trans (bx.mono Bk.size)
      clear Bk
      have Bk := Bk2
      clear Bk2 bx
      generalize ux = u at *
      have HK := Lib.hid (KidsS.nought u (fun b => b < u.heap.size ∧ W.heap.size + 1 ≤ b))
      obtain ⟨x0, x1, x2, f0, f1, f2⟩ := row_cells3 (RX.out _ Bk)
      have HR := Lib.hid (row_put3 (a := .int .i64 1) (b := .int .i64 (n : Int)) (c := (.slice none 0 0)) (RX.out _ Bk))
      have HBF := Lib.hid (below_put3 (HB1.out.trans (Bk.mono HB1.out.size)) (Nat.le_refl _) (.int .i64 1) (.int .i64 (n : Int)) (.slice none 0 0))
      have HQ := Lib.hid (HK.out.carry (w' := ((u.setCell ⟨W.heap.size, 0, none⟩ (.int .i64 1)).setCell ⟨W.heap.size, 1, none⟩ (.int .i64 (n : Int))).setCell ⟨W.heap.size, 2, none⟩ (.slice none 0 0)) (S' := fun b => b < (((u.setCell ⟨W.heap.size, 0, none⟩ (.int .i64 1)).setCell ⟨W.heap.size, 1, none⟩ (.int .i64 (n : Int))).setCell ⟨W.heap.size, 2, none⟩ (.slice none 0 0)).heap.size ∧ W.heap.size ≤ b) (fun b hb => ⟨⟨by simpa using hb.1, by omega⟩, by rw [Below.heap_setCell _ _ _ _ (by show b ≠ W.heap.size; omega), Below.heap_setCell _ _ _ _ (by show b ≠ W.heap.size; omega), Below.heap_setCell _ _ _ _ (by show b ≠ W.heap.size; omega)]⟩))
      go_wp2_with fail
      refine bodyPost_ret (results_cell_row (p := 2) (ty := 24) rfl _ _ _ 24 #[.int .i64 1, .int .i64 (n : Int), (.slice none 0 0)] (0, 0) _ rfl HR.out Try.underlying24 rfl (by kernel_rfl)) rfl ?_
      exact ⟨_, rfl, HQ.out, HBF.out⟩
    have hn6 : 6 ≤ n := by omega
    rw [show few (n : Int) = false from decide_eq_false (by omega)] at SH
    have d1 : decide ((2 : Int) ≤ (n : Int)) = true := decide_eq_true (by omega)
    have d1' : decide (2 ≤ n) = true := decide_eq_true (by omega)
    have d2 : ((n : Int) == 1) = false := by simp; omega
    have d2' : ¬ ((n : Int) = 1) := by omega
    have d2'' : ¬ (n = 1) := by omega
    cases hpw : pwb (n : Int) with
    | true =>
      have E : plT (f + 1) n = ⟨3, n, .nil⟩ := by rw [plT, if_neg (by omega), if_neg (by rw [hpw]; simp; omega), if_pos hpw]
      rw [E]
      rw [hpw] at ST
      clear E FP PR IH hpw
      by_cases h64 : n ≤ 64
      · have d3 : decide ((n : Int) ≤ 64) = true := decide_eq_true (by omega)
        have d3' : decide (n ≤ 64) = true := decide_eq_true h64
        go_enter Try.func64, Try.ntmps64
        go_wp2_with fail
        (try rw [hw1])
        clear hw1
        refine (SH.out _).mono ?_
        rintro e uq ⟨rfl, rfl⟩
        go_wp2_with fail
        refine (ST.out _).mono ?_
        rintro e uq ⟨rfl, rfl⟩
        go_wp2_with fail
        refine (ST.out _).mono ?_
        rintro e uq ⟨rfl, rfl⟩
        (try go_wp2_with fail)
        refine (OF.out 3 none 0 0 _).mono ?_
        rintro e ux ⟨rfl, bx⟩
        have Bk2 := Bk.trans (bx.mono Bk.size)
        clear Bk
        have Bk := Bk2
        clear Bk2 bx
        generalize ux = u at *
        have HK := Lib.hid (KidsS.nought u (fun b => b < u.heap.size ∧ W.heap.size + 1 ≤ b))
        obtain ⟨x0, x1, x2, f0, f1, f2⟩ := row_cells3 (RX.out _ Bk)
        have HR := Lib.hid (row_put3 (a := .int .i64 3) (b := .int .i64 (n : Int)) (c := (.slice none 0 0)) (RX.out _ Bk))
        have HBF := Lib.hid (below_put3 (HB1.out.trans (Bk.mono HB1.out.size)) (Nat.le_refl _) (.int .i64 3) (.int .i64 (n : Int)) (.slice none 0 0))
        have HQ := Lib.hid (HK.out.carry (w' := ((u.setCell ⟨W.heap.size, 0, none⟩ (.int .i64 3)).setCell ⟨W.heap.size, 1, none⟩ (.int .i64 (n : Int))).setCell ⟨W.heap.size, 2, none⟩ (.slice none 0 0)) (S' := fun b => b < (((u.setCell ⟨W.heap.size, 0, none⟩ (.int .i64 3)).setCell ⟨W.heap.size, 1, none⟩ (.int .i64 (n : Int))).setCell ⟨W.heap.size, 2, none⟩ (.slice none 0 0)).heap.size ∧ W.heap.size ≤ b) (fun b hb => ⟨⟨by simpa using hb.1, by omega⟩, by rw [Below.heap_setCell _ _ _ _ (by show b ≠ W.heap.size; omega), Below.heap_setCell _ _ _ _ (by show b ≠ W.heap.size; omega), Below.heap_setCell _ _ _ _ (by show b ≠ W.heap.size; omega)]⟩))
        go_wp2_with fail
        refine bodyPost_ret (results_cell_row (p := 2) (ty := 24) rfl _ _ _ 24 #[.int .i64 3, .int .i64 (n : Int), (.slice none 0 0)] (0, 0) _ rfl HR.out Try.underlying24 rfl (by kernel_rfl)) rfl ?_
        exact ⟨_, rfl, HQ.out, HBF.out⟩
      · have d3 : decide ((n : Int) ≤ 64) = false := decide_eq_false (by omega)
        have d3' : decide (n ≤ 64) = false := decide_eq_false h64
        go_enter Try.func64, Try.ntmps64
        go_wp2_with fail
        (try rw [hw1])
        clear hw1
        refine (SH.out _).mono ?_
        rintro e uq ⟨rfl, rfl⟩
        go_wp2_with fail
        refine (ST.out _).mono ?_
        rintro e uq ⟨rfl, rfl⟩
        (try go_wp2_with fail)
        refine (OF.out 3 none 0 0 _).mono ?_
        rintro e ux ⟨rfl, bx⟩
        have Bk2 := Bk.trans (bx.mono Bk.size)
        clear Bk
        have Bk := Bk2
        clear Bk2 bx
        generalize ux = u at *
        have HK := Lib.hid (KidsS.nought u (fun b => b < u.heap.size ∧ W.heap.size + 1 ≤ b))
        obtain ⟨x0, x1, x2, f0, f1, f2⟩ := row_cells3 (RX.out _ Bk)
        have HR := Lib.hid (row_put3 (a := .int .i64 3) (b := .int .i64 (n : Int)) (c := (.slice none 0 0)) (RX.out _ Bk))
        have HBF := Lib.hid (below_put3 (HB1.out.trans (Bk.mono HB1.out.size)) (Nat.le_refl _) (.int .i64 3) (.int .i64 (n : Int)) (.slice none 0 0))
        have HQ := Lib.hid (HK.out.carry (w' := ((u.setCell ⟨W.heap.size, 0, none⟩ (.int .i64 3)).setCell ⟨W.heap.size, 1, none⟩ (.int .i64 (n : Int))).setCell ⟨W.heap.size, 2, none⟩ (.slice none 0 0)) (S' := fun b => b < (((u.setCell ⟨W.heap.size, 0, none⟩ (.int .i64 3)).setCell ⟨W.heap.size, 1, none⟩ (.int .i64 (n : Int))).setCell ⟨W.heap.size, 2, none⟩ (.slice none 0 0)).heap.size ∧ W.heap.size ≤ b) (fun b hb => ⟨⟨by simpa using hb.1, by omega⟩, by rw [Below.heap_setCell _ _ _ _ (by show b ≠ W.heap.size; omega), Below.heap_setCell _ _ _ _ (by show b ≠ W.heap.size; omega), Below.heap_setCell _ _ _ _ (by show b ≠ W.heap.size; omega)]⟩))
        go_wp2_with fail
        refine bodyPost_ret (results_cell_row (p := 2) (ty := 24) rfl _ _ _ 24 #[.int .i64 3, .int .i64 (n : Int), (.slice none 0 0)] (0, 0) _ rfl HR.out Try.underlying24 rfl (by kernel_rfl)) rfl ?_
        exact ⟨_, rfl, HQ.out, HBF.out⟩
    | false =>
      rw [hpw] at ST
      by_cases h64 : n ≤ 64
      · have E : plT (f + 1) n = ⟨1, n, .nil⟩ := by rw [plT, if_neg (by omega), if_pos (.inr ⟨h64, hpw⟩)]
        rw [E]
        have d3 : decide ((n : Int) ≤ 64) = true := decide_eq_true (by omega)
        have d3' : decide (n ≤ 64) = true := decide_eq_true h64
        clear E FP PR IH hpw
        go_enter Try.func64, Try.ntmps64
        go_wp2_with fail
        (try rw [hw1])
        clear hw1
        refine (SH.out _).mono ?_
        rintro e uq ⟨rfl, rfl⟩
        go_wp2_with fail
        refine (ST.out _).mono ?_
        rintro e uq ⟨rfl, rfl⟩
        (try go_wp2_with fail)
        refine (OF.out 1 none 0 0 _).mono ?_
        rintro e ux ⟨rfl, bx⟩
        have Bk2 := Bk.trans (bx.mono Bk.size)
        clear Bk
        have Bk := Bk2
        clear Bk2 bx
        generalize ux = u at *
        have HK := Lib.hid (KidsS.nought u (fun b => b < u.heap.size ∧ W.heap.size + 1 ≤ b))
        obtain ⟨x0, x1, x2, f0, f1, f2⟩ := row_cells3 (RX.out _ Bk)
        have HR := Lib.hid (row_put3 (a := .int .i64 1) (b := .int .i64 (n : Int)) (c := (.slice none 0 0)) (RX.out _ Bk))
        have HBF := Lib.hid (below_put3 (HB1.out.trans (Bk.mono HB1.out.size)) (Nat.le_refl _) (.int .i64 1) (.int .i64 (n : Int)) (.slice none 0 0))
        have HQ := Lib.hid (HK.out.carry (w' := ((u.setCell ⟨W.heap.size, 0, none⟩ (.int .i64 1)).setCell ⟨W.heap.size, 1, none⟩ (.int .i64 (n : Int))).setCell ⟨W.heap.size, 2, none⟩ (.slice none 0 0)) (S' := fun b => b < (((u.setCell ⟨W.heap.size, 0, none⟩ (.int .i64 1)).setCell ⟨W.heap.size, 1, none⟩ (.int .i64 (n : Int))).setCell ⟨W.heap.size, 2, none⟩ (.slice none 0 0)).heap.size ∧ W.heap.size ≤ b) (fun b hb => ⟨⟨by simpa using hb.1, by omega⟩, by rw [Below.heap_setCell _ _ _ _ (by show b ≠ W.heap.size; omega), Below.heap_setCell _ _ _ _ (by show b ≠ W.heap.size; omega), Below.heap_setCell _ _ _ _ (by show b ≠ W.heap.size; omega)]⟩))
        go_wp2_with fail
        refine bodyPost_ret (results_cell_row (p := 2) (ty := 24) rfl _ _ _ 24 #[.int .i64 1, .int .i64 (n : Int), (.slice none 0 0)] (0, 0) _ rfl HR.out Try.underlying24 rfl (by kernel_rfl)) rfl ?_
        exact ⟨_, rfl, HQ.out, HBF.out⟩
      have d3 : decide ((n : Int) ≤ 64) = false := decide_eq_false (by omega)
      have d3' : decide (n ≤ 64) = false := decide_eq_false h64
      by_cases hpr : prb (n : Int) = true
      · have E : plT (f + 1) n = ⟨6, n, (plT f (n - 1)).fo .nil⟩ := by rw [plT, if_neg (by omega), if_neg (by rw [hpw]; simp; omega), if_neg (by rw [hpw]; simp), if_pos hpr]
        rw [E]
        rw [hpr] at FP
        have IP := Lib.hid (IH.out (n - 1) (by omega) (by omega))
        have wn : IntKind.i64.wrap ((n : Int) - 1) = ((n - 1 : Nat) : Int) := by rw [IntWalk.i64_in _ (by omega)]; omega
        have wn' : ((n : Int) - 1) = ((n - 1 : Nat) : Int) := by omega
        generalize plT f (n - 1) = D1 at *
        generalize n - 1 = n1 at *
        clear E PR IH hpw hpr
        go_enter Try.func64, Try.ntmps64
        go_wp2_with fail
        (try rw [hw1])
        clear hw1
        refine (SH.out _).mono ?_
        rintro e uq ⟨rfl, rfl⟩
        go_wp2_with fail
        refine (ST.out _).mono ?_
        rintro e uq ⟨rfl, rfl⟩
        go_wp2_with fail
        obtain ⟨u, hu⟩ : ∃ u, u = w1 := ⟨_, rfl⟩
        rw [← hu]
        have Bk : Below w1.heap.size w1 u := by rw [hu]; exact Below.refl _ _
        clear hu
        refine (FP.out _).mono ?_
        rintro e ux ⟨rfl, bx⟩
        have Bk2 := Bk.trans (bx.mono Bk.size)
        clear Bk
        have Bk := Bk2
        clear Bk2 bx
        generalize ux = u at *
        go_wp2_with fail
        refine (IP.out _).mono ?_
        rintro e ux ⟨v1, rfl, hk1, bx⟩
        obtain ⟨p1, m1, c1', rfl⟩ := hk1.form
        have hsz := Bk.size
        have Bk2 := Bk.trans (bx.mono Bk.size)
        have hs1 := HW1.out
        obtain ⟨u6, hu6⟩ : ∃ u6, ux.alloc (.cells #[.int .i64 D1.k, .int .i64 D1.n, .slice p1 m1 c1'] 24) = u6 := ⟨_, rfl⟩
        have hn6' := heap_alloc_new ux (.cells #[.int .i64 D1.k, .int .i64 D1.n, .slice p1 m1 c1'] 24)
        have hs6 := World.size_alloc ux (.cells #[.int .i64 D1.k, .int .i64 D1.n, .slice p1 m1 c1'] 24)
        have b6 : Below ux.heap.size ux u6 := by rw [← hu6]; exact (Below.refl _ _).alloc (Nat.le_refl _) _
        rw [hu6] at hn6' hs6
        have hsx := Bk2.size
        have HK := Lib.hid (show KidsS u6 (fun b => b < u6.heap.size ∧ W.heap.size + 1 ≤ b) (.slice (some ⟨ux.heap.size, 0, none⟩) 1 1) (D1.fo .nil) from kidsS_one hn6' ⟨by omega, by omega⟩ (hk1.carry (fun b hb => ⟨⟨Nat.lt_of_lt_of_le hb.1 b6.size, by omega⟩, b6.block b hb.1⟩)) (Nat.le_refl _) (by unfold maxLen; omega))
        have Bk6 := Bk2.trans (b6.mono Bk2.size)
        clear Bk Bk2 bx hk1 hn6' hs6 b6 hsx hsz hs1
        have HU6 := Lib.hid hu6
        clear hu6
        go_wp2_with fail
        rw [HU6.out]
        clear HU6
        have Bk := Bk6
        clear Bk6
        generalize ux.heap.size = g6 at *
        refine (OF.out 6 _ _ _ _).mono ?_
        rintro e ux' ⟨rfl, bx⟩
        have Bk2 := Bk.trans (bx.mono Bk.size)
        have HK2 := Lib.hid (HK.out.carry (w' := ux') (S' := fun b => b < ux'.heap.size ∧ W.heap.size + 1 ≤ b) (fun b hb => ⟨⟨Nat.lt_of_lt_of_le hb.1 bx.size, hb.2⟩, bx.block b hb.1⟩))
        clear Bk bx HK
        have Bk := Bk2
        clear Bk2
        generalize ux' = u at *
        obtain ⟨x0, x1, x2, f0, f1, f2⟩ := row_cells3 (RX.out _ Bk)
        have HR := Lib.hid (row_put3 (a := .int .i64 6) (b := .int .i64 (n : Int)) (c := (.slice (some ⟨g6, 0, none⟩) 1 1)) (RX.out _ Bk))
        have HBF := Lib.hid (below_put3 (HB1.out.trans (Bk.mono HB1.out.size)) (Nat.le_refl _) (.int .i64 6) (.int .i64 (n : Int)) (.slice (some ⟨g6, 0, none⟩) 1 1))
        have HQ := Lib.hid (HK2.out.carry (w' := ((u.setCell ⟨W.heap.size, 0, none⟩ (.int .i64 6)).setCell ⟨W.heap.size, 1, none⟩ (.int .i64 (n : Int))).setCell ⟨W.heap.size, 2, none⟩ (.slice (some ⟨g6, 0, none⟩) 1 1)) (S' := fun b => b < (((u.setCell ⟨W.heap.size, 0, none⟩ (.int .i64 6)).setCell ⟨W.heap.size, 1, none⟩ (.int .i64 (n : Int))).setCell ⟨W.heap.size, 2, none⟩ (.slice (some ⟨g6, 0, none⟩) 1 1)).heap.size ∧ W.heap.size ≤ b) (fun b hb => ⟨⟨by simpa using hb.1, by omega⟩, by rw [Below.heap_setCell _ _ _ _ (by show b ≠ W.heap.size; omega), Below.heap_setCell _ _ _ _ (by show b ≠ W.heap.size; omega), Below.heap_setCell _ _ _ _ (by show b ≠ W.heap.size; omega)]⟩))
        go_wp2_with fail
        refine bodyPost_ret (results_cell_row (p := 2) (ty := 24) rfl _ _ _ 24 #[.int .i64 6, .int .i64 (n : Int), (.slice (some ⟨g6, 0, none⟩) 1 1)] (0, 0) _ rfl HR.out Try.underlying24 rfl (by kernel_rfl)) rfl ?_
        exact ⟨_, rfl, HQ.out, HBF.out⟩
      · have E : plT (f + 1) n = ⟨4, n, (plT f (lastP n)).fo ((plT f (n / lastP n)).fo .nil)⟩ := by rw [plT, if_neg (by omega), if_neg (by rw [hpw]; simp; omega), if_neg (by rw [hpw]; simp), if_neg hpr]
        rw [E]
        obtain ⟨q1, q2, q3, q4⟩ := prb_fa h1 h2 hpr (by omega)
        have hq := fsts_last q1
        rw [Bool.not_eq_true] at hpr
        rw [hpr] at FP
        have hqd : n / lastP n < n := Nat.div_lt_self (by omega) (by omega)
        have hqd1 : 1 ≤ n / lastP n := Nat.div_pos (Nat.le_of_dvd h1 q3) (by omega)
        have IP := Lib.hid (IH.out (lastP n) (by omega) q4)
        have IQ := Lib.hid (IH.out (n / lastP n) hqd1 hqd)
        have q3' := q3
        clear q3
        generalize plT f (n / lastP n) = D2 at *
        generalize plT f (lastP n) = D1 at *
        generalize hl0 : fsts (fa n) = ys at *
        have hL25 := fa_len h1 h2
        generalize (fa n).length = L0 at *
        generalize lastP n = p at *
        have hz : ((p : Int) == 0) = false := by simp; omega
        have hz2 : ¬ ((p : Int) = 0) := by omega
        have hz3 : ¬ (p = 0) := by omega
        have hdv : ((n : Int)).tdiv (p : Int) = ((n / p : Nat) : Int) := rfl
        have hdv' : ((n : Int)) / (p : Int) = ((n / p : Nat) : Int) := rfl
        have wq : IntKind.i64.wrap ((n / p : Nat) : Int) = ((n / p : Nat) : Int) := IntWalk.i64_in _ (by omega)
        generalize n / p = nq at *
        obtain ⟨L, rfl⟩ : ∃ z, L0 = z + 1 := ⟨L0 - 1, by omega⟩
        have wL : IntKind.i64.wrap (((L + 1 : Nat) : Int) - 1) = (L : Int) := by rw [IntWalk.i64_in _ (by omega)]; omega
        have wL' : IntKind.i64.wrap ((L : Int) + 1 - 1) = (L : Int) := by rw [IntWalk.i64_in _ (by omega)]; omega
        rw [Nat.add_sub_cancel] at hq
        clear E IH hpw hpr hl0 q3'
        go_enter Try.func64, Try.ntmps64
        go_wp2_with fail
        (try rw [hw1])
        clear hw1
        refine (SH.out _).mono ?_
        rintro e uq ⟨rfl, rfl⟩
        go_wp2_with fail
        refine (ST.out _).mono ?_
        rintro e uq ⟨rfl, rfl⟩
        go_wp2_with fail
        obtain ⟨u, hu⟩ : ∃ u, u = w1 := ⟨_, rfl⟩
        rw [← hu]
        have Bk : Below w1.heap.size w1 u := by rw [hu]; exact Below.refl _ _
        clear hu
        refine (FP.out _).mono ?_
        rintro e ux ⟨rfl, bx⟩
        have Bk2 := Bk.trans (bx.mono Bk.size)
        clear Bk
        have Bk := Bk2
        clear Bk2 bx
        generalize ux = u at *
        go_wp2_with fail
        refine (PR.out _).mono ?_
        rintro e ux ⟨pa, pc, rfl, hr, bx⟩
        have Bk2 := Bk.trans (bx.mono Bk.size)
        obtain ⟨pb, po, rfl, hpb, hpc, _⟩ := hr.cell (k := L) (by omega)
        rw [hq] at hpc
        clear hr hq Bk bx
        have HBk := Lib.hid Bk2
        clear Bk2
        go_wp2_with fail
        have Bk0 := HBk.out
        clear HBk hpc hpb
        have hs1 := HW1.out
        have HB1o := HB1
        have RXo := RX
        obtain ⟨w1', hw1'⟩ : ∃ z, ux = z := ⟨_, rfl⟩
        rw [hw1'] at Bk0 ⊢
        clear hw1'
        have RX := Lib.hid (fun w (hb : Below w1'.heap.size w1' w) => RXo.out w (Bk0.trans (hb.mono Bk0.size)))
        have HB1 := Lib.hid (HB1o.out.trans (Bk0.mono HB1o.out.size))
        have hlw : W.heap.size + 1 ≤ w1'.heap.size := by have := Bk0.size; omega
        clear HB1o RXo Bk0 hs1 HW1
        refine wp_region_held_drew (S := fun _ => True) (by kernel_rfl) trivial (fun hHeld => ?_)
        have Bk : Below w1'.heap.size w1' w1'.drew := (Below.refl _ _).drew
        generalize w1'.drew = u at *
        refine wpAnyH_take (i := 0) (v := ?v1) rfl (by kernel_rfl) (by kernel_rfl) (by kernel_rfl) (fun _ _ _ h => h) (Or.inl ⟨by kernel_rfl, ?hy1⟩) (by assumption) ?rest1
        case hy1 => intro w hSw; (try dsimp only at hSw); go_simp; (first | done | with_reducible rfl)
        (try simp only [Act.put, List.getElem_toArray, List.getElem_cons_zero, List.getElem_cons_succ, List.setIfInBounds_toArray, List.set_cons_zero, List.set_cons_succ])
        refine wpAnyH_take (i := 1) (v := ?v2) rfl (by kernel_rfl) (by kernel_rfl) (by kernel_rfl) (fun _ _ _ h => h) (Or.inl ⟨by kernel_rfl, ?hy2⟩) (by assumption) ?rest2
        case hy2 => intro w hSw; (try dsimp only at hSw); go_simp; (first | done | with_reducible rfl)
        (try simp only [Act.put, List.getElem_toArray, List.getElem_cons_zero, List.getElem_cons_succ, List.setIfInBounds_toArray, List.set_cons_zero, List.set_cons_succ])
        refine wpAnyH_take (i := 3) (v := ?v3) rfl (by kernel_rfl) (by kernel_rfl) (by kernel_rfl) (fun _ _ _ h => h) (Or.inl ⟨by kernel_rfl, ?hy3⟩) (by assumption) ?rest3
        case hy3 => intro w hSw; (try dsimp only at hSw); go_simp; (first | done | with_reducible rfl)
        (try simp only [Act.put, List.getElem_toArray, List.getElem_cons_zero, List.getElem_cons_succ, List.setIfInBounds_toArray, List.set_cons_zero, List.set_cons_succ])
        refine wpAnyH_take (i := 4) (v := ?v4) rfl (by kernel_rfl) (by kernel_rfl) (by kernel_rfl) (fun _ _ _ h => h) (Or.inl ⟨by kernel_rfl, ?hy4⟩) (by assumption) ?rest4
        case hy4 => intro w hSw; (try dsimp only at hSw); go_simp; (first | done | with_reducible rfl)
        (try simp only [Act.put, List.getElem_toArray, List.getElem_cons_zero, List.getElem_cons_succ, List.setIfInBounds_toArray, List.set_cons_zero, List.set_cons_succ])
        refine wpAnyH_take (i := 5) (v := ?v5) rfl (by kernel_rfl) (by kernel_rfl) (by kernel_rfl) (fun _ _ _ h => h) (Or.inl ⟨by kernel_rfl, ?hy5⟩) (by assumption) ?rest5
        case hy5 => intro w hSw; (try dsimp only at hSw); go_simp; (first | done | with_reducible rfl)
        (try simp only [Act.put, List.getElem_toArray, List.getElem_cons_zero, List.getElem_cons_succ, List.setIfInBounds_toArray, List.set_cons_zero, List.set_cons_succ])
        refine wpAnyH_ready (rs := [2]) (by kernel_rfl) (by simp) ?_
        refine AllReadyH.cons rfl (fun K hK => ?_) AllReadyH.nil
        go_simp
        refine (IP.out _).mono ?_
        rintro e ux ⟨v1, rfl, hk1, bx⟩
        obtain ⟨p1, m1, c1, rfl⟩ := hk1.form
        (try go_wp2_with fail)
        have Bk2 := Bk.trans (bx.mono Bk.size)
        have hsz := Bk.size
        replace hk1 : KidsS ux (fun b => b < ux.heap.size ∧ W.heap.size + 1 ≤ b) (.slice p1 m1 c1) D1.ks := hk1.carry (fun b hb => ⟨⟨hb.1, by omega⟩, rfl⟩)
        refine hK.out _ _ trivial (fun hHeld2 => ?_)
        clear hK K hHeld
        have hHeld := hHeld2
        clear hHeld2
        (try simp only [Act.put, List.getElem_toArray, List.getElem_cons_zero, List.getElem_cons_succ, List.setIfInBounds_toArray, List.set_cons_zero, List.set_cons_succ])
        clear Bk bx hsz
        have Bk := Bk2
        clear Bk2
        generalize ux = u at *
        refine wpAnyH_ready (rs := [6]) (by kernel_rfl) (by simp) ?_
        refine AllReadyH.cons rfl (fun K hK => ?_) AllReadyH.nil
        go_simp
        refine (IQ.out _).mono ?_
        rintro e ux ⟨v2, rfl, hk2, bx⟩
        obtain ⟨p2, m2, c2, rfl⟩ := hk2.form
        (try go_wp2_with fail)
        have Bk2 := Bk.trans (bx.mono Bk.size)
        have hsz := Bk.size
        replace hk2 : KidsS ux (fun b => b < ux.heap.size ∧ W.heap.size + 1 ≤ b) (.slice p2 m2 c2) D2.ks := hk2.carry (fun b hb => ⟨⟨hb.1, by omega⟩, rfl⟩)
        replace hk1 : KidsS ux (fun b => b < ux.heap.size ∧ W.heap.size + 1 ≤ b) (.slice p1 m1 c1) D1.ks := hk1.carry (fun b hb => ⟨⟨Nat.lt_of_lt_of_le hb.1 bx.size, hb.2⟩, bx.block b hb.1⟩)
        refine hK.out _ _ trivial (fun hHeld2 => ?_)
        clear hK K hHeld
        have hHeld := hHeld2
        clear hHeld2
        (try simp only [Act.put, List.getElem_toArray, List.getElem_cons_zero, List.getElem_cons_succ, List.setIfInBounds_toArray, List.set_cons_zero, List.set_cons_succ])
        clear Bk bx hsz
        have Bk := Bk2
        clear Bk2
        generalize ux = u at *
        refine wpAnyH_ready (rs := [7]) (by kernel_rfl) (by simp) ?_
        refine AllReadyH.cons rfl (fun K hK => ?_) AllReadyH.nil
        go_simp
        have hn6 := heap_alloc_new u (.cells #[.int .i64 D1.k, .int .i64 D1.n, .slice p1 m1 c1, .int .i64 D2.k, .int .i64 D2.n, .slice p2 m2 c2] 24)
        have b6 := (Below.refl u.heap.size u).alloc (Nat.le_refl _) (.cells #[.int .i64 D1.k, .int .i64 D1.n, .slice p1 m1 c1, .int .i64 D2.k, .int .i64 D2.n, .slice p2 m2 c2] 24)
        have hs6 := World.size_alloc u (.cells #[.int .i64 D1.k, .int .i64 D1.n, .slice p1 m1 c1, .int .i64 D2.k, .int .i64 D2.n, .slice p2 m2 c2] 24)
        have hsz := Bk.size
        generalize u.alloc (.cells #[.int .i64 D1.k, .int .i64 D1.n, .slice p1 m1 c1, .int .i64 D2.k, .int .i64 D2.n, .slice p2 m2 c2] 24) = u6 at *
        have Bk2 := Bk.trans (b6.mono Bk.size)
        have HK := Lib.hid (show KidsS u6 (fun b => b < u6.heap.size ∧ W.heap.size + 1 ≤ b) (.slice (some ⟨u.heap.size, 0, none⟩) 2 2) (D1.fo (D2.fo .nil)) from kidsS_two hn6 ⟨by omega, by omega⟩ (hk1.carry (fun b hb => ⟨⟨Nat.lt_of_lt_of_le hb.1 b6.size, hb.2⟩, b6.block b hb.1⟩)) (hk2.carry (fun b hb => ⟨⟨Nat.lt_of_lt_of_le hb.1 b6.size, hb.2⟩, b6.block b hb.1⟩)) (Nat.le_refl _) (by unfold maxLen; omega))
        refine hK.out _ _ trivial (fun hHeld2 => ?_)
        clear hK K hHeld
        have hHeld := hHeld2
        clear hHeld2
        (try simp only [Act.put, List.getElem_toArray, List.getElem_cons_zero, List.getElem_cons_succ, List.setIfInBounds_toArray, List.set_cons_zero, List.set_cons_succ])
        generalize u.heap.size = g6 at *
        clear Bk b6 hn6 hs6 hk1 hk2 hsz
        have Bk := Bk2
        clear Bk2
        generalize u6 = u at *
        refine wpAnyH_ready (rs := [8]) (by kernel_rfl) (by simp) ?_
        refine AllReadyH.cons rfl (fun K hK => ?_) AllReadyH.nil
        go_simp
        refine (OF.out 4 _ _ _ _).mono ?_
        rintro e ux ⟨rfl, bx⟩
        (try go_wp2_with fail)
        have Bk2 := Bk.trans (bx.mono Bk.size)
        have HK2 := Lib.hid (HK.out.carry (w' := ux) (S' := fun b => b < ux.heap.size ∧ W.heap.size + 1 ≤ b) (fun b hb => ⟨⟨Nat.lt_of_lt_of_le hb.1 bx.size, hb.2⟩, bx.block b hb.1⟩))
        refine hK.out _ _ trivial (fun hHeld2 => ?_)
        clear hK K hHeld
        have hHeld := hHeld2
        clear hHeld2
        (try simp only [Act.put, List.getElem_toArray, List.getElem_cons_zero, List.getElem_cons_succ, List.setIfInBounds_toArray, List.set_cons_zero, List.set_cons_succ])
        clear Bk bx HK
        have Bk := Bk2
        clear Bk2
        generalize ux = u at *
        obtain ⟨x0, x1, x2, f0, f1, f2⟩ := row_cells3 (RX.out _ Bk)
        have HR := Lib.hid (row_put3 (a := .int .i64 4) (b := .int .i64 (n : Int)) (c := (.slice (some ⟨g6, 0, none⟩) 2 2)) (RX.out _ Bk))
        have HBF := Lib.hid (below_put3 (HB1.out.trans (Bk.mono HB1.out.size)) (Nat.le_refl _) (.int .i64 4) (.int .i64 (n : Int)) (.slice (some ⟨g6, 0, none⟩) 2 2))
        have HQ := Lib.hid (HK2.out.carry (w' := ((u.setCell ⟨W.heap.size, 0, none⟩ (.int .i64 4)).setCell ⟨W.heap.size, 1, none⟩ (.int .i64 (n : Int))).setCell ⟨W.heap.size, 2, none⟩ (.slice (some ⟨g6, 0, none⟩) 2 2)) (S' := fun b => b < (((u.setCell ⟨W.heap.size, 0, none⟩ (.int .i64 4)).setCell ⟨W.heap.size, 1, none⟩ (.int .i64 (n : Int))).setCell ⟨W.heap.size, 2, none⟩ (.slice (some ⟨g6, 0, none⟩) 2 2)).heap.size ∧ W.heap.size ≤ b) (fun b hb => ⟨⟨by simpa using hb.1, by omega⟩, by rw [Below.heap_setCell _ _ _ _ (by show b ≠ W.heap.size; omega), Below.heap_setCell _ _ _ _ (by show b ≠ W.heap.size; omega), Below.heap_setCell _ _ _ _ (by show b ≠ W.heap.size; omega)]⟩))
        refine wpAnyH_ready (rs := [9]) (by kernel_rfl) (by simp) ?_
        refine AllReadyH.cons rfl (fun K hK => ?_) AllReadyH.nil
        go_simp
        refine hK.out _ _ trivial (fun hHeld2 => ?_)
        clear hK K hHeld
        have hHeld := hHeld2
        clear hHeld2
        (try simp only [Act.put, List.getElem_toArray, List.getElem_cons_zero, List.getElem_cons_succ, List.setIfInBounds_toArray, List.set_cons_zero, List.set_cons_succ])
        refine wpAnyH_done (by kernel_rfl) ?_ _
        go_wp2_with fail
        refine bodyPost_ret (results_cell_row (p := 2) (ty := 24) rfl _ _ _ 24 #[.int .i64 4, .int .i64 (n : Int), (.slice (some ⟨g6, 0, none⟩) 2 2)] (0, 0) _ rfl HR.out Try.underlying24 rfl (by kernel_rfl)) rfl ?_
        exact ⟨_, rfl, HQ.out, HBF.out⟩
end Go.Proofs.Ytfjioflggkmhcaa
