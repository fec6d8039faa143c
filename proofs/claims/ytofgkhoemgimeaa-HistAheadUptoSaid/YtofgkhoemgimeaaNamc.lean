/- Names of tables: need.Right, Room, Cmp, and reference 15's. -/
import Derived.Test.YtofgkhoemgimeaaD11
namespace Go.Proofs.Ytofgkhoemgimeaa
open Go.ChangeShapes Go.WideShapes Go.ChangeAt Go.RowKit
set_option linter.unusedVariables false
theorem box4 (W : World) (k n m d : Int) (T : TypeId) : ∃ w0 : World, w0 = W.alloc (.cells #[.int .i64 k, .int .i64 n, .int .i64 m, .int .i64 d] T) ∧ w0.cell? ⟨W.heap.size, 0, none⟩ = some (.int .i64 k) ∧ w0.cell? ⟨W.heap.size, 1, none⟩ = some (.int .i64 n) ∧ w0.cell? ⟨W.heap.size, 2, none⟩ = some (.int .i64 m) ∧ w0.cell? ⟨W.heap.size, 3, none⟩ = some (.int .i64 d) ∧ Below W.heap.size W w0 ∧ W.heap.size < w0.heap.size := by
  have hn := heap_alloc_new W (.cells #[.int .i64 k, .int .i64 n, .int .i64 m, .int .i64 d] T)
  refine ⟨_, rfl, ?_, ?_, ?_, ?_, (Below.refl _ _).alloc (Nat.le_refl _) _, by simp⟩ <;> (rw [cell_of_row _ _ _ _ _ _ hn]; rfl)
/-- How two numbers stand. -/
def cmp3 (x y : Int) : Int := if x < y then -1 else if y < x then 1 else 0
theorem cmp3_lt {x y : Int} (h : x < y) : cmp3 x y = -1 := by unfold cmp3; rw [if_pos h]
theorem cmp3_gt {x y : Int} (h : y < x) : cmp3 x y = 1 := by unfold cmp3; rw [if_neg (by omega), if_pos h]
theorem cmp3_eq {x y : Int} (h : x = y) : cmp3 x y = 0 := by unfold cmp3; rw [if_neg (by omega), if_neg (by omega)]
theorem cmp_nan (x : Int) (W : World) : Calls Try.prog 61 #[.int .i64 x] W fun e w' => e = .returned (.bool false) ∧ W = w' := by
  have hx : (x != x) = false := by simp
  go_enter Try.func61, Try.ntmps61
  go_wp2_with fail
  go_ret
  exact ⟨rfl, rfl⟩
theorem cmp_compare (x y : Int) (W : World) : Calls Try.prog 34 #[.int .i64 x, .int .i64 y] W fun e w' => e = .returned (.int .i64 (cmp3 x y)) ∧ W = w' := by
  have NN := Lib.hid (fun x w => cmp_nan x w)
  rcases Int.lt_trichotomy x y with h | h | h
  · have E := Lib.hid (cmp3_lt h)
    have d1 : decide (x < y) = true := decide_eq_true h
    go_enter Try.func34, Try.ntmps34
    go_wp2_with fail
    refine (NN.out _ _).mono ?_
    rintro e w1 ⟨rfl, rfl⟩
    go_wp2_with fail
    refine (NN.out _ _).mono ?_
    rintro e w1 ⟨rfl, rfl⟩
    go_wp2_with fail
    go_ret
    exact ⟨by rw [E.out]; rfl, rfl⟩
  · have E := Lib.hid (cmp3_eq h)
    subst h
    have d1 : decide (x < x) = false := decide_eq_false (by omega)
    go_enter Try.func34, Try.ntmps34
    go_wp2_with fail
    refine (NN.out _ _).mono ?_
    rintro e w1 ⟨rfl, rfl⟩
    go_wp2_with fail
    refine (NN.out _ _).mono ?_
    rintro e w1 ⟨rfl, rfl⟩
    go_wp2_with fail
    go_ret
    exact ⟨by rw [E.out]; rfl, rfl⟩
  · have E := Lib.hid (cmp3_gt h)
    have d1 : decide (x < y) = false := decide_eq_false (by omega)
    have d2 : decide (y < x) = true := decide_eq_true h
    go_enter Try.func34, Try.ntmps34
    go_wp2_with fail
    refine (NN.out _ _).mono ?_
    rintro e w1 ⟨rfl, rfl⟩
    go_wp2_with fail
    refine (NN.out _ _).mono ?_
    rintro e w1 ⟨rfl, rfl⟩
    go_wp2_with fail
    go_ret
    exact ⟨by rw [E.out]; rfl, rfl⟩
/-- The first that is not nought. -/
def fz : List Int → Int
  | [] => 0
  | x :: r => if x = 0 then fz r else x
theorem fz_at : ∀ (xs : List Int) (k : Nat), k < xs.length → (∀ j, j < k → xs.getD j 0 = 0) → xs.getD k 0 ≠ 0 → fz xs = xs.getD k 0
  | [], k, h, _, _ => by simp at h
  | x :: r, 0, _, _, hk => by
    simp at hk ⊢
    rw [fz, if_neg hk]
  | x :: r, k + 1, h, h0, hk => by
    have e0 : x = 0 := by simpa using h0 0 (by omega)
    rw [fz, if_pos e0, fz_at r k (by simpa using h) (fun j hj => by simpa using h0 (j + 1) (by omega)) (by simpa using hk)]
    simp
theorem fz_none : ∀ (xs : List Int), (∀ j, j < xs.length → xs.getD j 0 = 0) → fz xs = 0
  | [], _ => rfl
  | x :: r, h => by
    have e0 : x = 0 := by simpa using h 0 (by simp)
    rw [fz, if_pos e0, fz_none r (fun j hj => by simpa using h (j + 1) (by simpa using hj))]
set_option maxRecDepth 100000 in
theorem cmp_or (p : Option Addr) (n c : Nat) (xs : List Int) (W : World) (hr : RowI W p n xs) :
    Calls Try.prog 57 #[.slice p n c] W fun e w' => e = .returned (.int .i64 (fz xs)) ∧ W = w' := by
  have HX := Lib.hid hr
  have hs := hr.small
  have FA := Lib.hid (fun k h => fz_at xs k (by rw [hr.len]; exact h))
  have FZ := Lib.hid (fz_none xs)
  generalize fz xs = z at *
  clear hr
  go_enter Try.func57, Try.ntmps57
  go_wp2_with fail
  go_loopw [8] (fun i wr => ∃ k : Nat, k ≤ n ∧ i = .int .i64 k ∧ Hid (∀ j, j < k → xs.getD j 0 = 0) ∧ W = wr) (fun i _ => n - (intOf i).toNat)
  case atStart => refine ⟨0, Nat.zero_le _, rfl, Lib.hid (fun j hj => by omega), ?_⟩; first | rfl | trivial
  case round =>
    obtain ⟨k, hk, rfl, HZ, rfl⟩ := hrel
    by_cases hlt : k < n
    · have hd : decide ((k : Int) < (n : Int)) = true := decide_eq_true (by omega)
      obtain ⟨b, off, rfl, hb, hc, x0, x1⟩ := HX.out.cell hlt
      have FA1 := Lib.hid (fun h => FA.out k hlt HZ.out h)
      have HZ2 := Lib.hid (fun (h : xs.getD k 0 = 0) j (hj : j < k + 1) => (show xs.getD j 0 = 0 by
        by_cases e : j = k
        · rw [e]; exact h
        · exact HZ.out j (by omega)))
      generalize xs.getD k 0 = x at *
      by_cases hx : x = 0
      · have HZ3 := Lib.hid (HZ2.out hx)
        subst hx
        go_wp2_with fail
        go_roundw
        case rel => exact ⟨k + 1, by omega, by go_num, HZ3, trivial⟩
        case measure => (first | (simp [intOf]; done) | (simp [intOf]; omega) | (simp only [intOf]; omega))
      · have E := Lib.hid (FA1.out hx)
        have hx0 : (x != 0) = true := by simp; omega
        go_wp2_with fail
        go_ret
        exact ⟨by rw [E.out]; rfl, rfl⟩
    · obtain rfl : k = n := by omega
      have hd : decide ((k : Int) < (k : Int)) = false := decide_eq_false (by omega)
      have E := Lib.hid (FZ.out (fun j hj => HZ.out j (by rw [HX.out.len] at hj; exact hj)))
      go_wp2_with fail
      go_ret
      exact ⟨by rw [E.out]; rfl, rfl⟩
/-- How two names stand. -/
def ncmp (k n m d k' n' m' d' : Int) : Int := fz [cmp3 k k', cmp3 n n', cmp3 m m', cmp3 d d']
theorem two_boxes (W : World) (k n m d k' n' m' d' : Int) (T : TypeId) : ∃ w0 : World, w0 = (W.alloc (.cells #[.int .i64 k, .int .i64 n, .int .i64 m, .int .i64 d] T)).alloc (.cells #[.int .i64 k', .int .i64 n', .int .i64 m', .int .i64 d'] T) ∧
    (w0.cell? ⟨W.heap.size, 0, none⟩ = some (.int .i64 k) ∧ w0.cell? ⟨W.heap.size, 1, none⟩ = some (.int .i64 n) ∧ w0.cell? ⟨W.heap.size, 2, none⟩ = some (.int .i64 m) ∧ w0.cell? ⟨W.heap.size, 3, none⟩ = some (.int .i64 d)) ∧
    (w0.cell? ⟨W.heap.size + 1, 0, none⟩ = some (.int .i64 k') ∧ w0.cell? ⟨W.heap.size + 1, 1, none⟩ = some (.int .i64 n') ∧ w0.cell? ⟨W.heap.size + 1, 2, none⟩ = some (.int .i64 m') ∧ w0.cell? ⟨W.heap.size + 1, 3, none⟩ = some (.int .i64 d')) ∧
    Below W.heap.size W w0 ∧ w0.heap.size = W.heap.size + 2 := by
  obtain ⟨w1, h1, a0, a1, a2, a3, b1, l1⟩ := box4 W k n m d T
  obtain ⟨w2, h2, c0, c1, c2, c3, b2, l2⟩ := box4 w1 k' n' m' d' T
  have e1 : w1.heap.size = W.heap.size + 1 := by rw [h1]; simp
  rw [e1] at c0 c1 c2 c3
  refine ⟨w2, by rw [h2, h1], ⟨?_, ?_, ?_, ?_⟩, ⟨c0, c1, c2, c3⟩, b1.trans (b2.mono b1.size), by rw [h2]; simp [e1]⟩
  · exact (b2.cell (p := ⟨W.heap.size, 0, none⟩) l1).trans a0
  · exact (b2.cell (p := ⟨W.heap.size, 1, none⟩) l1).trans a1
  · exact (b2.cell (p := ⟨W.heap.size, 2, none⟩) l1).trans a2
  · exact (b2.cell (p := ⟨W.heap.size, 3, none⟩) l1).trans a3
theorem cmp3_wf (x y : Int) : (Lit.int .i64 (cmp3 x y)).wf = true := by
  unfold cmp3
  split
  · rfl
  · split <;> rfl
theorem row4_lies (w : World) (T : TypeId) (a b c d : Int) (ha : (Lit.int .i64 a).wf = true) (hb : (Lit.int .i64 b).wf = true) (hc : (Lit.int .i64 c).wf = true) (hd : (Lit.int .i64 d).wf = true) :
    RowI (w.alloc (.cells #[.int .i64 a, .int .i64 b, .int .i64 c, .int .i64 d] T)) (some ⟨w.heap.size, 0, none⟩) 4 [a, b, c, d] := by
  refine ⟨rfl, .inr ⟨w.heap.size, 0, rfl, by simp, fun i hi => ?_⟩, fun z hz => ?_, by omega⟩
  · rw [cell_of_row _ _ _ _ _ _ (heap_alloc_new w _)]
    have : i = 0 ∨ i = 1 ∨ i = 2 ∨ i = 3 := by simp at hi; omega
    rcases this with rfl | rfl | rfl | rfl <;> rfl
  · simp only [List.mem_cons, List.not_mem_nil, or_false] at hz
    rcases hz with rfl | rfl | rfl | rfl <;> assumption
theorem four_at (a b c d : Int) {t : Nat} (ht : t < 4) : t = 0 ∨ t = 1 ∨ t = 2 ∨ t = 3 := by omega
theorem two_rows (W : World) (A B : Obj) (k n m d k' n' m' d' : Int) (T : TypeId) : ∃ w4 : World, w4 = (((W.alloc A).alloc B).alloc (.cells #[.int .i64 k, .int .i64 n, .int .i64 m, .int .i64 d] T)).alloc (.cells #[.int .i64 k', .int .i64 n', .int .i64 m', .int .i64 d'] T) ∧
    (∀ t, t < 4 → w4.cell? ⟨W.heap.size + 1 + 1, t, none⟩ = some (.int .i64 ([k, n, m, d].getD t 0))) ∧ (∀ t, t < 4 → w4.cell? ⟨W.heap.size + 1 + 1 + 1, t, none⟩ = some (.int .i64 ([k', n', m', d'].getD t 0))) ∧
    Below W.heap.size W w4 ∧ W.heap.size + 4 ≤ w4.heap.size := by
  have e2 : ((W.alloc A).alloc B).heap.size = W.heap.size + 1 + 1 := by simp
  obtain ⟨w1, h1, a0, a1, a2, a3, b1, l1⟩ := box4 ((W.alloc A).alloc B) k n m d T
  obtain ⟨w2, h2, c0, c1, c2, c3, b2, l2⟩ := box4 w1 k' n' m' d' T
  have e1 : w1.heap.size = W.heap.size + 1 + 1 + 1 := by rw [h1]; simp
  rw [e2] at a0 a1 a2 a3
  rw [e1] at c0 c1 c2 c3
  refine ⟨w2, by rw [h2, h1], fun t ht => ?_, fun t ht => ?_, ?_, by rw [h2]; simp [e1]⟩
  · refine (b2.cell (p := ⟨W.heap.size + 1 + 1, t, none⟩) (by show W.heap.size + 1 + 1 < _; omega)).trans ?_
    rcases four_at 0 0 0 0 ht with rfl | rfl | rfl | rfl
    · exact a0
    · exact a1
    · exact a2
    · exact a3
  · rcases four_at 0 0 0 0 ht with rfl | rfl | rfl | rfl
    · exact c0
    · exact c1
    · exact c2
    · exact c3
  · have b0 : Below W.heap.size W ((W.alloc A).alloc B) := ((Below.refl _ _).alloc (Nat.le_refl _) A).alloc (by simp) B
    exact (b0.trans (b1.mono (by rw [e2]; omega))).trans (b2.mono (by rw [e1]; omega))
theorem cmp3_neg (x y : Int) : cmp3 y x = - cmp3 x y := by
  rcases Int.lt_trichotomy x y with h | h | h
  · rw [cmp3_lt h, cmp3_gt h]; rfl
  · rw [cmp3_eq h, cmp3_eq h.symm]; rfl
  · rw [cmp3_gt h, cmp3_lt h]
theorem fz_neg : ∀ xs : List Int, fz (xs.map fun x => -x) = - fz xs
  | [] => rfl
  | x :: r => by
    rw [List.map_cons, fz, fz]
    by_cases h : x = 0
    · rw [if_pos h, if_pos (by omega), fz_neg r]
    · rw [if_neg h, if_neg (by omega)]
theorem ncmp_neg (k n m d k' n' m' d' : Int) : ncmp k' n' m' d' k n m d = - ncmp k n m d k' n' m' d' := by
  unfold ncmp
  rw [cmp3_neg k k', cmp3_neg n n', cmp3_neg m m', cmp3_neg d d', ← fz_neg]
  rfl
theorem ncmp_bd (k n m d k' n' m' d' : Int) : -1 ≤ ncmp k n m d k' n' m' d' ∧ ncmp k n m d k' n' m' d' ≤ 1 := by
  have c : ∀ x y, -1 ≤ cmp3 x y ∧ cmp3 x y ≤ 1 := fun x y => by unfold cmp3; split <;> (try split) <;> omega
  have f : ∀ xs : List Int, (∀ x ∈ xs, -1 ≤ x ∧ x ≤ 1) → -1 ≤ fz xs ∧ fz xs ≤ 1 := fun xs => by
    induction xs with
    | nil => intro _; unfold fz; omega
    | cons x r ih =>
      intro h
      unfold fz
      split
      · exact ih fun y hy => h y (List.mem_cons_of_mem _ hy)
      · exact h x (List.mem_cons_self ..)
  refine f _ fun x hx => ?_
  simp only [List.mem_cons, List.not_mem_nil, or_false] at hx
  rcases hx with rfl | rfl | rfl | rfl <;> exact c _ _
end Go.Proofs.Ytofgkhoemgimeaa
