/- Reference 19's one, two and Plain. -/
import Derived.Test.YtfjioflggkmhcaaCandc
namespace Go.Proofs.Ytfjioflggkmhcaa
open Go.ChangeShapes Go.WideShapes Go.ChangeAt Go.RowKit
set_option linter.unusedVariables false
set_option linter.unusedSimpArgs false
set_option maxRecDepth 100000 in
set_option maxHeartbeats 4000000 in
theorem r19_two (k : Int) (n p : Nat) (D1 D2 : Nd) (W : World) (hp : 2 ≤ p) (hn : n ≤ 16777216) (IP : Hid (∀ w, Calls Try.prog 44 #[.int .i64 (p : Int)] w (GivesD w D1))) (IQ : Hid (∀ w, Calls Try.prog 44 #[.int .i64 ((n / p : Nat) : Int)] w (GivesD w D2))) :
    Calls Try.prog 77 #[.int .i64 k, .int .i64 (n : Int), .int .i64 (p : Int)] W (GivesD W ⟨k, n, D1.fo (D2.fo .nil)⟩) := by
  obtain ⟨w1, hw1⟩ : ∃ w1, W.alloc (.cells #[.int .i64 0, .int .i64 0, .slice none 0 0] 24) = w1 := ⟨_, rfl⟩
  have r1 := heap_alloc_new W (.cells #[.int .i64 0, .int .i64 0, .slice none 0 0] 24)
  rw [hw1] at r1
  have HB1 := Lib.hid (show Below W.heap.size W w1 by rw [← hw1]; exact (Below.refl _ _).alloc (Nat.le_refl _) _)
  have hs1 : w1.heap.size = W.heap.size + 1 := by rw [← hw1]; simp
  have RX := Lib.hid (fun w (hb : Below w1.heap.size w1 w) => (hb.block W.heap.size (by omega)).trans r1)
  have hlw : W.heap.size + 1 ≤ w1.heap.size := by omega
  clear r1
  clear hs1
  have hz : ((p : Int) == 0) = false := by simp; omega
  have hz2 : ¬ ((p : Int) = 0) := by omega
  have hz3 : ¬ (p = 0) := by omega
  have hdv : ((n : Int)).tdiv (p : Int) = ((n / p : Nat) : Int) := rfl
  have hdv' : ((n : Int)) / (p : Int) = ((n / p : Nat) : Int) := rfl
  have hqn : n / p ≤ n := Nat.div_le_self _ _
  obtain ⟨nq, hnq⟩ : ∃ z, n / p = z := ⟨_, rfl⟩
  rw [hnq] at IQ hdv hdv' hqn
  clear hnq
  have wq : IntKind.i64.wrap (nq : Int) = (nq : Int) := IntWalk.i64_in _ (by omega)
  go_enter Try.func77, Try.ntmps77
  go_wp2_with fail
  (try rw [hw1])
  clear hw1
  refine wp_region_held_drew (S := fun _ => True) (by kernel_rfl) trivial (fun hHeld => ?_)
  have Bk : Below w1.heap.size w1 w1.drew := (Below.refl _ _).drew
  generalize w1.drew = u at *
  refine wpAnyH_take (i := 0) (v := ?v6) rfl (by kernel_rfl) (by kernel_rfl) (by kernel_rfl) (fun _ _ _ h => h) (Or.inl ⟨by kernel_rfl, ?hy6⟩) (by assumption) ?rest6
  case hy6 => intro w hSw; (try dsimp only at hSw); go_simp; (first | done | with_reducible rfl)
  (try simp only [Act.put, List.getElem_toArray, List.getElem_cons_zero, List.getElem_cons_succ, List.setIfInBounds_toArray, List.set_cons_zero, List.set_cons_succ])
  refine wpAnyH_take (i := 1) (v := ?v7) rfl (by kernel_rfl) (by kernel_rfl) (by kernel_rfl) (fun _ _ _ h => h) (Or.inl ⟨by kernel_rfl, ?hy7⟩) (by assumption) ?rest7
  case hy7 => intro w hSw; (try dsimp only at hSw); go_simp; (first | done | with_reducible rfl)
  (try simp only [Act.put, List.getElem_toArray, List.getElem_cons_zero, List.getElem_cons_succ, List.setIfInBounds_toArray, List.set_cons_zero, List.set_cons_succ])
  refine wpAnyH_take (i := 2) (v := ?v8) rfl (by kernel_rfl) (by kernel_rfl) (by kernel_rfl) (fun _ _ _ h => h) (Or.inl ⟨by kernel_rfl, ?hy8⟩) (by assumption) ?rest8
  case hy8 => intro w hSw; (try dsimp only at hSw); go_simp; (first | done | with_reducible rfl)
  (try simp only [Act.put, List.getElem_toArray, List.getElem_cons_zero, List.getElem_cons_succ, List.setIfInBounds_toArray, List.set_cons_zero, List.set_cons_succ])
  refine wpAnyH_take (i := 4) (v := ?v9) rfl (by kernel_rfl) (by kernel_rfl) (by kernel_rfl) (fun _ _ _ h => h) (Or.inl ⟨by kernel_rfl, ?hy9⟩) (by assumption) ?rest9
  case hy9 => intro w hSw; (try dsimp only at hSw); go_simp; (first | done | with_reducible rfl)
  (try simp only [Act.put, List.getElem_toArray, List.getElem_cons_zero, List.getElem_cons_succ, List.setIfInBounds_toArray, List.set_cons_zero, List.set_cons_succ])
  refine wpAnyH_take (i := 5) (v := ?v10) rfl (by kernel_rfl) (by kernel_rfl) (by kernel_rfl) (fun _ _ _ h => h) (Or.inl ⟨by kernel_rfl, ?hy10⟩) (by assumption) ?rest10
  case hy10 => intro w hSw; (try dsimp only at hSw); go_simp; (first | done | with_reducible rfl)
  (try simp only [Act.put, List.getElem_toArray, List.getElem_cons_zero, List.getElem_cons_succ, List.setIfInBounds_toArray, List.set_cons_zero, List.set_cons_succ])
  refine wpAnyH_take (i := 6) (v := ?v11) rfl (by kernel_rfl) (by kernel_rfl) (by kernel_rfl) (fun _ _ _ h => h) (Or.inl ⟨by kernel_rfl, ?hy11⟩) (by assumption) ?rest11
  case hy11 => intro w hSw; (try dsimp only at hSw); go_simp; (first | done | with_reducible rfl)
  (try simp only [Act.put, List.getElem_toArray, List.getElem_cons_zero, List.getElem_cons_succ, List.setIfInBounds_toArray, List.set_cons_zero, List.set_cons_succ])
  refine wpAnyH_ready (rs := [3]) (by kernel_rfl) (by simp) ?_
  refine AllReadyH.cons rfl (fun K hK => ?_) AllReadyH.nil
  go_simp
  refine (IP.out _).mono ?_
  rintro e ux ⟨v1, rfl, hk1, bx⟩
  obtain ⟨p1, m1, c1, rfl⟩ := hk1.form
  (try go_wp2_with fail)
  have Bk2 := Bk.trans (bx.mono Bk.size)
  have hsz := Bk.size
  replace hk1 : KidsS ux (fun b => b < ux.heap.size ∧ W.heap.size + 1 ≤ b) (.slice p1 m1 c1) D1.ks := hk1.carry (fun b hb => ⟨⟨hb.1, by omega⟩, rfl⟩)
  refine hK.out _ _ trivial (fun hHeld2 => ?_)
  clear hK K hHeld
  have hHeld := hHeld2
  clear hHeld2
  (try simp only [Act.put, List.getElem_toArray, List.getElem_cons_zero, List.getElem_cons_succ, List.setIfInBounds_toArray, List.set_cons_zero, List.set_cons_succ])
  clear Bk bx hsz
  have Bk := Bk2
  clear Bk2
  generalize ux = u at *
  refine wpAnyH_ready (rs := [7]) (by kernel_rfl) (by simp) ?_
  refine AllReadyH.cons rfl (fun K hK => ?_) AllReadyH.nil
  go_simp
  refine (IQ.out _).mono ?_
  rintro e ux ⟨v2, rfl, hk2, bx⟩
  obtain ⟨p2, m2, c2, rfl⟩ := hk2.form
  (try go_wp2_with fail)
  have Bk2 := Bk.trans (bx.mono Bk.size)
  have hsz := Bk.size
  replace hk2 : KidsS ux (fun b => b < ux.heap.size ∧ W.heap.size + 1 ≤ b) (.slice p2 m2 c2) D2.ks := hk2.carry (fun b hb => ⟨⟨hb.1, by omega⟩, rfl⟩)
  replace hk1 : KidsS ux (fun b => b < ux.heap.size ∧ W.heap.size + 1 ≤ b) (.slice p1 m1 c1) D1.ks := hk1.carry (fun b hb => ⟨⟨Nat.lt_of_lt_of_le hb.1 bx.size, hb.2⟩, bx.block b hb.1⟩)
  refine hK.out _ _ trivial (fun hHeld2 => ?_)
  clear hK K hHeld
  have hHeld := hHeld2
  clear hHeld2
  (try simp only [Act.put, List.getElem_toArray, List.getElem_cons_zero, List.getElem_cons_succ, List.setIfInBounds_toArray, List.set_cons_zero, List.set_cons_succ])
  clear Bk bx hsz
  have Bk := Bk2
  clear Bk2
  generalize ux = u at *
  refine wpAnyH_ready (rs := [8]) (by kernel_rfl) (by simp) ?_
  refine AllReadyH.cons rfl (fun K hK => ?_) AllReadyH.nil
  go_simp
  have hn6 := heap_alloc_new u (.cells #[.int .i64 D1.k, .int .i64 D1.n, .slice p1 m1 c1, .int .i64 D2.k, .int .i64 D2.n, .slice p2 m2 c2] 24)
  have b6 := (Below.refl u.heap.size u).alloc (Nat.le_refl _) (.cells #[.int .i64 D1.k, .int .i64 D1.n, .slice p1 m1 c1, .int .i64 D2.k, .int .i64 D2.n, .slice p2 m2 c2] 24)
  have hs6 := World.size_alloc u (.cells #[.int .i64 D1.k, .int .i64 D1.n, .slice p1 m1 c1, .int .i64 D2.k, .int .i64 D2.n, .slice p2 m2 c2] 24)
  have hsz := Bk.size
  generalize u.alloc (.cells #[.int .i64 D1.k, .int .i64 D1.n, .slice p1 m1 c1, .int .i64 D2.k, .int .i64 D2.n, .slice p2 m2 c2] 24) = u6 at *
  have Bk2 := Bk.trans (b6.mono Bk.size)
  have HK := Lib.hid (show KidsS u6 (fun b => b < u6.heap.size ∧ W.heap.size + 1 ≤ b) (.slice (some ⟨u.heap.size, 0, none⟩) 2 2) (D1.fo (D2.fo .nil)) from kidsS_two hn6 ⟨by omega, by omega⟩ (hk1.carry (fun b hb => ⟨⟨Nat.lt_of_lt_of_le hb.1 b6.size, hb.2⟩, b6.block b hb.1⟩)) (hk2.carry (fun b hb => ⟨⟨Nat.lt_of_lt_of_le hb.1 b6.size, hb.2⟩, b6.block b hb.1⟩)) (Nat.le_refl _) (by unfold maxLen; omega))
  refine hK.out _ _ trivial (fun hHeld2 => ?_)
  clear hK K hHeld
  have hHeld := hHeld2
  clear hHeld2
  (try simp only [Act.put, List.getElem_toArray, List.getElem_cons_zero, List.getElem_cons_succ, List.setIfInBounds_toArray, List.set_cons_zero, List.set_cons_succ])
  generalize u.heap.size = g6 at *
  clear Bk b6 hn6 hs6 hk1 hk2 hsz
  have Bk := Bk2
  clear Bk2
  generalize u6 = u at *
  refine wpAnyH_take (i := 9) (v := ?v12) rfl (by kernel_rfl) (by kernel_rfl) (by kernel_rfl) (fun _ _ _ h => h) (Or.inl ⟨by kernel_rfl, ?hy12⟩) (by assumption) ?rest12
  case hy12 => intro w hSw; (try dsimp only at hSw); go_simp; (first | done | with_reducible rfl)
  (try simp only [Act.put, List.getElem_toArray, List.getElem_cons_zero, List.getElem_cons_succ, List.setIfInBounds_toArray, List.set_cons_zero, List.set_cons_succ])
  have HK2 := HK
  obtain ⟨x0, x1, x2, f0, f1, f2⟩ := row_cells3 (RX.out _ Bk)
  have HR := Lib.hid (row_put3 (a := .int .i64 k) (b := .int .i64 (n : Int)) (c := (.slice (some ⟨g6, 0, none⟩) 2 2)) (RX.out _ Bk))
  have HBF := Lib.hid (below_put3 (HB1.out.trans (Bk.mono HB1.out.size)) (Nat.le_refl _) (.int .i64 k) (.int .i64 (n : Int)) (.slice (some ⟨g6, 0, none⟩) 2 2))
  have HQ := Lib.hid (HK2.out.carry (w' := ((u.setCell ⟨W.heap.size, 0, none⟩ (.int .i64 k)).setCell ⟨W.heap.size, 1, none⟩ (.int .i64 (n : Int))).setCell ⟨W.heap.size, 2, none⟩ (.slice (some ⟨g6, 0, none⟩) 2 2)) (S' := fun b => b < (((u.setCell ⟨W.heap.size, 0, none⟩ (.int .i64 k)).setCell ⟨W.heap.size, 1, none⟩ (.int .i64 (n : Int))).setCell ⟨W.heap.size, 2, none⟩ (.slice (some ⟨g6, 0, none⟩) 2 2)).heap.size ∧ W.heap.size ≤ b) (fun b hb => ⟨⟨by simpa using hb.1, by omega⟩, by rw [Below.heap_setCell _ _ _ _ (by show b ≠ W.heap.size; omega), Below.heap_setCell _ _ _ _ (by show b ≠ W.heap.size; omega), Below.heap_setCell _ _ _ _ (by show b ≠ W.heap.size; omega)]⟩))
  refine wpAnyH_ready (rs := [10]) (by kernel_rfl) (by simp) ?_
  refine AllReadyH.cons rfl (fun K hK => ?_) AllReadyH.nil
  go_simp
  refine hK.out _ _ trivial (fun hHeld2 => ?_)
  clear hK K hHeld
  have hHeld := hHeld2
  clear hHeld2
  (try simp only [Act.put, List.getElem_toArray, List.getElem_cons_zero, List.getElem_cons_succ, List.setIfInBounds_toArray, List.set_cons_zero, List.set_cons_succ])
  refine wpAnyH_done (by kernel_rfl) ?_ _
  go_wp2_with fail
  refine bodyPost_ret (results_cell_row (p := 6) (ty := 24) rfl _ _ _ 24 #[.int .i64 k, .int .i64 (n : Int), (.slice (some ⟨g6, 0, none⟩) 2 2)] (0, 0) _ rfl HR.out Try.underlying24 rfl (by kernel_rfl)) rfl ?_
  exact ⟨_, rfl, HQ.out, HBF.out⟩
set_option maxRecDepth 100000 in
theorem r19_one (k n k1 n1 : Int) (ks : Fo) (v : Value) (LB : Nat) (W : World) (hL : LB ≤ W.heap.size) (hk : KidsS W (fun b => b < W.heap.size ∧ LB ≤ b) v ks) :
    Calls Try.prog 80 #[.int .i64 k, .int .i64 n, .agg #[.int .i64 k1, .int .i64 n1, v]] W fun e w' => ∃ u, e = .returned (.agg #[.int .i64 k, .int .i64 n, u]) ∧ KidsS w' (fun b => b < w'.heap.size ∧ LB ≤ b) u (.cons k1 n1 ks .nil) ∧ Below W.heap.size W w' := by
  obtain ⟨p1, m1, c1, rfl⟩ := hk.form
  have r2 := heap_alloc_new (W.alloc (.cells #[.int .i64 k1, .int .i64 n1, .slice p1 m1 c1] 24)) (.cells #[.int .i64 k, .int .i64 n, .slice (some ⟨W.heap.size + 1 + 1, 0, none⟩) 1 1] 24)
  have r3 := heap_alloc_new ((W.alloc (.cells #[.int .i64 k1, .int .i64 n1, .slice p1 m1 c1] 24)).alloc (.cells #[.int .i64 k, .int .i64 n, .slice (some ⟨W.heap.size + 1 + 1, 0, none⟩) 1 1] 24)) (.cells #[.int .i64 k1, .int .i64 n1, .slice p1 m1 c1] 24)
  obtain ⟨wF, hwF⟩ : ∃ wF, ((W.alloc (.cells #[.int .i64 k1, .int .i64 n1, .slice p1 m1 c1] 24)).alloc (.cells #[.int .i64 k, .int .i64 n, .slice (some ⟨W.heap.size + 1 + 1, 0, none⟩) 1 1] 24)).alloc (.cells #[.int .i64 k1, .int .i64 n1, .slice p1 m1 c1] 24) = wF := ⟨_, rfl⟩
  simp only [World.size_alloc] at r2 r3
  have HR := Lib.hid (show wF.heap[W.heap.size + 1]? = some (.cells #[.int .i64 k, .int .i64 n, .slice (some ⟨W.heap.size + 1 + 1, 0, none⟩) 1 1] 24 (0, 0)) by rw [← hwF, Below.heap_alloc _ _ _ (by simp)]; exact r2)
  have hB : Below W.heap.size W wF := by rw [← hwF]; exact (((Below.refl _ _).alloc (Nat.le_refl _) _).alloc (by simp) _).alloc (by simp; omega) _
  have hsF : wF.heap.size = W.heap.size + 3 := by rw [← hwF]; simp
  rw [hwF] at r3
  have HK := Lib.hid (show KidsS wF (fun b => b < wF.heap.size ∧ LB ≤ b) (.slice (some ⟨W.heap.size + 1 + 1, 0, none⟩) 1 1) (.cons k1 n1 ks .nil) from kidsS_one r3 ⟨by omega, by omega⟩ (hk.carry (fun b hb => ⟨⟨by omega, hb.2⟩, hB.block b hb.1⟩)) (Nat.le_refl _) (by unfold maxLen; omega))
  have HWF := Lib.hid hwF
  have HB := Lib.hid hB
  clear hwF r2 r3 hB hsF hk
  go_enter Try.func80, Try.ntmps80
  go_wp2_with fail
  rw [HWF.out]
  refine bodyPost_ret (results_cell_row (p := 6) (ty := 24) rfl _ _ _ 24 #[.int .i64 k, .int .i64 n, .slice (some ⟨W.heap.size + 1 + 1, 0, none⟩) 1 1] (0, 0) _ rfl HR.out Try.underlying24 rfl (by kernel_rfl)) rfl ?_
  exact ⟨_, rfl, HK.out, HB.out⟩
set_option maxRecDepth 100000 in
set_option maxHeartbeats 8000000 in
/-- Reference 19's plan without a choice. -/
theorem r19_plain (f : Nat) : ∀ (n : Nat) (W : World), 1 ≤ n → n ≤ f → n ≤ 16777216 → Calls Try.prog 44 #[.int .i64 (n : Int)] W (GivesD W (plT f n)) := by
  induction f with
  | zero => intro n W h1 hf _; omega
  | succ f ih =>
    intro n W h1 hf h2
    have IH := Lib.hid (fun (m : Nat) (a : 1 ≤ m) (b : m < n) w => ih m w a (by omega) (by omega))
    clear ih
    have ST := fun w => r8_power (n : Int) w (by omega)
    have FP := fun w => r3_prime (n : Int) w (by omega)
    have PR := Lib.hid (fun w => r3_primes n w h1 h2)
    have OF := Lib.hid (fun k w => r19_leaf k (n : Int) w)
    obtain ⟨w1, hw1⟩ : ∃ w1, W.alloc (.cells #[.int .i64 0, .int .i64 0, .slice none 0 0] 24) = w1 := ⟨_, rfl⟩
    have r1 := heap_alloc_new W (.cells #[.int .i64 0, .int .i64 0, .slice none 0 0] 24)
    rw [hw1] at r1
    have HB1 := Lib.hid (show Below W.heap.size W w1 by rw [← hw1]; exact (Below.refl _ _).alloc (Nat.le_refl _) _)
    have hs1 : w1.heap.size = W.heap.size + 1 := by rw [← hw1]; simp
    have RX := Lib.hid (fun w (hb : Below w1.heap.size w1 w) => (hb.block W.heap.size (by omega)).trans r1)
    have hlw : W.heap.size + 1 ≤ w1.heap.size := by omega
    clear r1
    have Bk : Below w1.heap.size w1 w1 := Below.refl _ _
    have HW1 := Lib.hid hs1
    clear hs1
    by_cases c1 : 2 ≤ n ∧ n ≤ 5
    · have E : plT (f + 1) n = ⟨2, n, .nil⟩ := by rw [plT, if_pos c1]
      rw [E]
      have d1 : decide ((2 : Int) ≤ (n : Int)) = true := decide_eq_true (by omega)
      have d1' : decide (2 ≤ n) = true := decide_eq_true (by omega)
      have d0 : decide ((n : Int) ≤ 5) = true := decide_eq_true (by omega)
      have d0' : decide (n ≤ 5) = true := decide_eq_true (by omega)
      clear E ST FP PR IH
      have hu0 : w1 = w1 := rfl
      go_enter Try.func44, Try.ntmps44
      go_wp2_with fail
      (try rw [hw1])
      clear hw1
      (try go_wp2_with fail)
      refine (OF.out 2 _).mono ?_
      rintro e ux ⟨rfl, bx⟩
      have Bk2 := Bk.trans (bx.mono Bk.size)
      clear Bk
      have Bk := Bk2
      clear Bk2 bx
      generalize ux = u at *
      have HK := Lib.hid (KidsS.nought u (fun b => b < u.heap.size ∧ W.heap.size + 1 ≤ b))
      obtain ⟨x0, x1, x2, f0, f1, f2⟩ := row_cells3 (RX.out _ Bk)
      have HR := Lib.hid (row_put3 (a := .int .i64 2) (b := .int .i64 (n : Int)) (c := (.slice none 0 0)) (RX.out _ Bk))
      have HBF := Lib.hid (below_put3 (HB1.out.trans (Bk.mono HB1.out.size)) (Nat.le_refl _) (.int .i64 2) (.int .i64 (n : Int)) (.slice none 0 0))
      have HQ := Lib.hid (HK.out.carry (w' := ((u.setCell ⟨W.heap.size, 0, none⟩ (.int .i64 2)).setCell ⟨W.heap.size, 1, none⟩ (.int .i64 (n : Int))).setCell ⟨W.heap.size, 2, none⟩ (.slice none 0 0)) (S' := fun b => b < (((u.setCell ⟨W.heap.size, 0, none⟩ (.int .i64 2)).setCell ⟨W.heap.size, 1, none⟩ (.int .i64 (n : Int))).setCell ⟨W.heap.size, 2, none⟩ (.slice none 0 0)).heap.size ∧ W.heap.size ≤ b) (fun b hb => ⟨⟨by simpa using hb.1, by omega⟩, by rw [Below.heap_setCell _ _ _ _ (by show b ≠ W.heap.size; omega), Below.heap_setCell _ _ _ _ (by show b ≠ W.heap.size; omega), Below.heap_setCell _ _ _ _ (by show b ≠ W.heap.size; omega)]⟩))
      go_wp2_with fail
      refine bodyPost_ret (results_cell_row (p := 2) (ty := 24) rfl _ _ _ 24 #[.int .i64 2, .int .i64 (n : Int), (.slice none 0 0)] (0, 0) _ rfl HR.out Try.underlying24 rfl (by kernel_rfl)) rfl ?_
      exact ⟨_, rfl, HQ.out, HBF.out⟩
    by_cases c20 : n = 1
    · have E : plT (f + 1) n = ⟨1, n, .nil⟩ := by rw [plT, if_neg (by omega), if_pos (.inl c20)]
      rw [E]
      have d1 : decide ((2 : Int) ≤ (n : Int)) = false := decide_eq_false (by omega)
      have d1' : decide (2 ≤ n) = false := decide_eq_false (by omega)
      have d2 : ((n : Int) == 1) = true := by simp; omega
      clear E ST FP PR IH c1 c20
      go_enter Try.func44, Try.ntmps44
      go_wp2_with fail
      (try rw [hw1])
      clear hw1
      (try go_wp2_with fail)
      refine (OF.out 1 _).mono ?_
      rintro e ux ⟨rfl, bx⟩
      have Bk2 := Bk.trans (bx.mono Bk.size)
      clear Bk
      have Bk := Bk2
      clear Bk2 bx
      generalize ux = u at *
      have HK := Lib.hid (KidsS.nought u (fun b => b < u.heap.size ∧ W.heap.size + 1 ≤ b))
      obtain ⟨x0, x1, x2, f0, f1, f2⟩ := row_cells3 (RX.out _ Bk)
      have HR := Lib.hid (row_put3 (a := .int .i64 1) (b := .int .i64 (n : Int)) (c := (.slice none 0 0)) (RX.out _ Bk))
      have HBF := Lib.hid (below_put3 (HB1.out.trans (Bk.mono HB1.out.size)) (Nat.le_refl _) (.int .i64 1) (.int .i64 (n : Int)) (.slice none 0 0))
      have HQ := Lib.hid (HK.out.carry (w' := ((u.setCell ⟨W.heap.size, 0, none⟩ (.int .i64 1)).setCell ⟨W.heap.size, 1, none⟩ (.int .i64 (n : Int))).setCell ⟨W.heap.size, 2, none⟩ (.slice none 0 0)) (S' := fun b => b < (((u.setCell ⟨W.heap.size, 0, none⟩ (.int .i64 1)).setCell ⟨W.heap.size, 1, none⟩ (.int .i64 (n : Int))).setCell ⟨W.heap.size, 2, none⟩ (.slice none 0 0)).heap.size ∧ W.heap.size ≤ b) (fun b hb => ⟨⟨by simpa using hb.1, by omega⟩, by rw [Below.heap_setCell _ _ _ _ (by show b ≠ W.heap.size; omega), Below.heap_setCell _ _ _ _ (by show b ≠ W.heap.size; omega), Below.heap_setCell _ _ _ _ (by show b ≠ W.heap.size; omega)]⟩))
      go_wp2_with fail
      refine bodyPost_ret (results_cell_row (p := 2) (ty := 24) rfl _ _ _ 24 #[.int .i64 1, .int .i64 (n : Int), (.slice none 0 0)] (0, 0) _ rfl HR.out Try.underlying24 rfl (by kernel_rfl)) rfl ?_
      exact ⟨_, rfl, HQ.out, HBF.out⟩
    have hn6 : 6 ≤ n := by omega
    have d1 : decide ((2 : Int) ≤ (n : Int)) = true := decide_eq_true (by omega)
    have d1' : decide (2 ≤ n) = true := decide_eq_true (by omega)
    have d0 : decide ((n : Int) ≤ 5) = false := decide_eq_false (by omega)
    have d0' : decide (n ≤ 5) = false := decide_eq_false (by omega)
    have d2 : ((n : Int) == 1) = false := by simp; omega
    have d2' : ¬ ((n : Int) = 1) := by omega
    have d2'' : ¬ (n = 1) := by omega
    cases hpw : pwb (n : Int) with
    | true =>
      have E : plT (f + 1) n = ⟨3, n, .nil⟩ := by rw [plT, if_neg (by omega), if_neg (by rw [hpw]; simp; omega), if_pos hpw]
      rw [E]
      rw [hpw] at ST
      have ST := Lib.hid ST
      clear E FP PR IH hpw
      by_cases h64 : n ≤ 64
      · have d3 : decide ((n : Int) ≤ 64) = true := decide_eq_true (by omega)
        have d3' : decide (n ≤ 64) = true := decide_eq_true h64
        go_enter Try.func44, Try.ntmps44
        go_wp2_with fail
        (try rw [hw1])
        clear hw1
        refine (ST.out _).mono ?_
        rintro e uq ⟨rfl, rfl⟩
        go_wp2_with fail
        refine (ST.out _).mono ?_
        rintro e uq ⟨rfl, rfl⟩
        (try go_wp2_with fail)
        refine (OF.out 3 _).mono ?_
        rintro e ux ⟨rfl, bx⟩
        have Bk2 := Bk.trans (bx.mono Bk.size)
        clear Bk
        have Bk := Bk2
        clear Bk2 bx
        generalize ux = u at *
        have HK := Lib.hid (KidsS.nought u (fun b => b < u.heap.size ∧ W.heap.size + 1 ≤ b))
        obtain ⟨x0, x1, x2, f0, f1, f2⟩ := row_cells3 (RX.out _ Bk)
        have HR := Lib.hid (row_put3 (a := .int .i64 3) (b := .int .i64 (n : Int)) (c := (.slice none 0 0)) (RX.out _ Bk))
        have HBF := Lib.hid (below_put3 (HB1.out.trans (Bk.mono HB1.out.size)) (Nat.le_refl _) (.int .i64 3) (.int .i64 (n : Int)) (.slice none 0 0))
        have HQ := Lib.hid (HK.out.carry (w' := ((u.setCell ⟨W.heap.size, 0, none⟩ (.int .i64 3)).setCell ⟨W.heap.size, 1, none⟩ (.int .i64 (n : Int))).setCell ⟨W.heap.size, 2, none⟩ (.slice none 0 0)) (S' := fun b => b < (((u.setCell ⟨W.heap.size, 0, none⟩ (.int .i64 3)).setCell ⟨W.heap.size, 1, none⟩ (.int .i64 (n : Int))).setCell ⟨W.heap.size, 2, none⟩ (.slice none 0 0)).heap.size ∧ W.heap.size ≤ b) (fun b hb => ⟨⟨by simpa using hb.1, by omega⟩, by rw [Below.heap_setCell _ _ _ _ (by show b ≠ W.heap.size; omega), Below.heap_setCell _ _ _ _ (by show b ≠ W.heap.size; omega), Below.heap_setCell _ _ _ _ (by show b ≠ W.heap.size; omega)]⟩))
        go_wp2_with fail
        refine bodyPost_ret (results_cell_row (p := 2) (ty := 24) rfl _ _ _ 24 #[.int .i64 3, .int .i64 (n : Int), (.slice none 0 0)] (0, 0) _ rfl HR.out Try.underlying24 rfl (by kernel_rfl)) rfl ?_
        exact ⟨_, rfl, HQ.out, HBF.out⟩
      · have d3 : decide ((n : Int) ≤ 64) = false := decide_eq_false (by omega)
        have d3' : decide (n ≤ 64) = false := decide_eq_false h64
        go_enter Try.func44, Try.ntmps44
        go_wp2_with fail
        (try rw [hw1])
        clear hw1
        refine (ST.out _).mono ?_
        rintro e uq ⟨rfl, rfl⟩
        (try go_wp2_with fail)
        refine (OF.out 3 _).mono ?_
        rintro e ux ⟨rfl, bx⟩
        have Bk2 := Bk.trans (bx.mono Bk.size)
        clear Bk
        have Bk := Bk2
        clear Bk2 bx
        generalize ux = u at *
        have HK := Lib.hid (KidsS.nought u (fun b => b < u.heap.size ∧ W.heap.size + 1 ≤ b))
        obtain ⟨x0, x1, x2, f0, f1, f2⟩ := row_cells3 (RX.out _ Bk)
        have HR := Lib.hid (row_put3 (a := .int .i64 3) (b := .int .i64 (n : Int)) (c := (.slice none 0 0)) (RX.out _ Bk))
        have HBF := Lib.hid (below_put3 (HB1.out.trans (Bk.mono HB1.out.size)) (Nat.le_refl _) (.int .i64 3) (.int .i64 (n : Int)) (.slice none 0 0))
        have HQ := Lib.hid (HK.out.carry (w' := ((u.setCell ⟨W.heap.size, 0, none⟩ (.int .i64 3)).setCell ⟨W.heap.size, 1, none⟩ (.int .i64 (n : Int))).setCell ⟨W.heap.size, 2, none⟩ (.slice none 0 0)) (S' := fun b => b < (((u.setCell ⟨W.heap.size, 0, none⟩ (.int .i64 3)).setCell ⟨W.heap.size, 1, none⟩ (.int .i64 (n : Int))).setCell ⟨W.heap.size, 2, none⟩ (.slice none 0 0)).heap.size ∧ W.heap.size ≤ b) (fun b hb => ⟨⟨by simpa using hb.1, by omega⟩, by rw [Below.heap_setCell _ _ _ _ (by show b ≠ W.heap.size; omega), Below.heap_setCell _ _ _ _ (by show b ≠ W.heap.size; omega), Below.heap_setCell _ _ _ _ (by show b ≠ W.heap.size; omega)]⟩))
        go_wp2_with fail
        refine bodyPost_ret (results_cell_row (p := 2) (ty := 24) rfl _ _ _ 24 #[.int .i64 3, .int .i64 (n : Int), (.slice none 0 0)] (0, 0) _ rfl HR.out Try.underlying24 rfl (by kernel_rfl)) rfl ?_
        exact ⟨_, rfl, HQ.out, HBF.out⟩
    | false =>
      rw [hpw] at ST
      have ST := Lib.hid ST
      by_cases h64 : n ≤ 64
      · have E : plT (f + 1) n = ⟨1, n, .nil⟩ := by rw [plT, if_neg (by omega), if_pos (.inr ⟨h64, hpw⟩)]
        rw [E]
        have d3 : decide ((n : Int) ≤ 64) = true := decide_eq_true (by omega)
        have d3' : decide (n ≤ 64) = true := decide_eq_true h64
        clear E FP PR IH hpw
        go_enter Try.func44, Try.ntmps44
        go_wp2_with fail
        (try rw [hw1])
        clear hw1
        refine (ST.out _).mono ?_
        rintro e uq ⟨rfl, rfl⟩
        (try go_wp2_with fail)
        refine (OF.out 1 _).mono ?_
        rintro e ux ⟨rfl, bx⟩
        have Bk2 := Bk.trans (bx.mono Bk.size)
        clear Bk
        have Bk := Bk2
        clear Bk2 bx
        generalize ux = u at *
        have HK := Lib.hid (KidsS.nought u (fun b => b < u.heap.size ∧ W.heap.size + 1 ≤ b))
        obtain ⟨x0, x1, x2, f0, f1, f2⟩ := row_cells3 (RX.out _ Bk)
        have HR := Lib.hid (row_put3 (a := .int .i64 1) (b := .int .i64 (n : Int)) (c := (.slice none 0 0)) (RX.out _ Bk))
        have HBF := Lib.hid (below_put3 (HB1.out.trans (Bk.mono HB1.out.size)) (Nat.le_refl _) (.int .i64 1) (.int .i64 (n : Int)) (.slice none 0 0))
        have HQ := Lib.hid (HK.out.carry (w' := ((u.setCell ⟨W.heap.size, 0, none⟩ (.int .i64 1)).setCell ⟨W.heap.size, 1, none⟩ (.int .i64 (n : Int))).setCell ⟨W.heap.size, 2, none⟩ (.slice none 0 0)) (S' := fun b => b < (((u.setCell ⟨W.heap.size, 0, none⟩ (.int .i64 1)).setCell ⟨W.heap.size, 1, none⟩ (.int .i64 (n : Int))).setCell ⟨W.heap.size, 2, none⟩ (.slice none 0 0)).heap.size ∧ W.heap.size ≤ b) (fun b hb => ⟨⟨by simpa using hb.1, by omega⟩, by rw [Below.heap_setCell _ _ _ _ (by show b ≠ W.heap.size; omega), Below.heap_setCell _ _ _ _ (by show b ≠ W.heap.size; omega), Below.heap_setCell _ _ _ _ (by show b ≠ W.heap.size; omega)]⟩))
        go_wp2_with fail
        refine bodyPost_ret (results_cell_row (p := 2) (ty := 24) rfl _ _ _ 24 #[.int .i64 1, .int .i64 (n : Int), (.slice none 0 0)] (0, 0) _ rfl HR.out Try.underlying24 rfl (by kernel_rfl)) rfl ?_
        exact ⟨_, rfl, HQ.out, HBF.out⟩
      have d3 : decide ((n : Int) ≤ 64) = false := decide_eq_false (by omega)
      have d3' : decide (n ≤ 64) = false := decide_eq_false h64
      by_cases hpr : prb (n : Int) = true
      · have E : plT (f + 1) n = ⟨6, n, (plT f (n - 1)).fo .nil⟩ := by rw [plT, if_neg (by omega), if_neg (by rw [hpw]; simp; omega), if_neg (by rw [hpw]; simp), if_pos hpr]
        rw [E]
        rw [hpr] at FP
        have FP := Lib.hid FP
        have IP := Lib.hid (IH.out (n - 1) (by omega) (by omega))
        have wn : IntKind.i64.wrap ((n : Int) - 1) = ((n - 1 : Nat) : Int) := by rw [IntWalk.i64_in _ (by omega)]; omega
        have wn' : ((n : Int) - 1) = ((n - 1 : Nat) : Int) := by omega
        generalize plT f (n - 1) = D1 at *
        generalize n - 1 = n1 at *
        clear E PR IH hpw hpr
        go_enter Try.func44, Try.ntmps44
        go_wp2_with fail
        (try rw [hw1])
        clear hw1
        refine (ST.out _).mono ?_
        rintro e uq ⟨rfl, rfl⟩
        go_wp2_with fail
        refine (FP.out _).mono ?_
        rintro e uq ⟨rfl, rfl⟩
        go_wp2_with fail
        refine (IP.out _).mono ?_
        rintro e ux ⟨v1, rfl, hk1, bx⟩
        have hs1 := HW1.out
        have hsx := bx.size
        have Bk2 := Bk.trans (bx.mono (by omega))
        have ON := Lib.hid (r19_one 6 (n : Int) D1.k D1.n D1.ks v1 (W.heap.size + 1) ux (by omega) (hk1.carry (fun b hb => ⟨⟨hb.1, by omega⟩, rfl⟩)))
        clear hk1 Bk bx
        have Bk := Bk2
        clear Bk2 hsx hs1
        go_wp2_with fail
        refine ON.out.mono ?_
        rintro e uy ⟨v2, rfl, hk2, bx⟩
        obtain ⟨p2, m2, c2', rfl⟩ := hk2.form
        have Bk2 := Bk.trans (bx.mono Bk.size)
        clear Bk
        have Bk := Bk2
        clear Bk2 bx ON
        generalize uy = u at *
        have HK := Lib.hid (show KidsS u (fun b => b < u.heap.size ∧ W.heap.size + 1 ≤ b) (.slice p2 m2 c2') (D1.fo .nil) from hk2)
        obtain ⟨x0, x1, x2, f0, f1, f2⟩ := row_cells3 (RX.out _ Bk)
        have HR := Lib.hid (row_put3 (a := .int .i64 6) (b := .int .i64 (n : Int)) (c := (.slice p2 m2 c2')) (RX.out _ Bk))
        have HBF := Lib.hid (below_put3 (HB1.out.trans (Bk.mono HB1.out.size)) (Nat.le_refl _) (.int .i64 6) (.int .i64 (n : Int)) (.slice p2 m2 c2'))
        have HQ := Lib.hid (HK.out.carry (w' := ((u.setCell ⟨W.heap.size, 0, none⟩ (.int .i64 6)).setCell ⟨W.heap.size, 1, none⟩ (.int .i64 (n : Int))).setCell ⟨W.heap.size, 2, none⟩ (.slice p2 m2 c2')) (S' := fun b => b < (((u.setCell ⟨W.heap.size, 0, none⟩ (.int .i64 6)).setCell ⟨W.heap.size, 1, none⟩ (.int .i64 (n : Int))).setCell ⟨W.heap.size, 2, none⟩ (.slice p2 m2 c2')).heap.size ∧ W.heap.size ≤ b) (fun b hb => ⟨⟨by simpa using hb.1, by omega⟩, by rw [Below.heap_setCell _ _ _ _ (by show b ≠ W.heap.size; omega), Below.heap_setCell _ _ _ _ (by show b ≠ W.heap.size; omega), Below.heap_setCell _ _ _ _ (by show b ≠ W.heap.size; omega)]⟩))
        go_wp2_with fail
        refine bodyPost_ret (results_cell_row (p := 2) (ty := 24) rfl _ _ _ 24 #[.int .i64 6, .int .i64 (n : Int), (.slice p2 m2 c2')] (0, 0) _ rfl HR.out Try.underlying24 rfl (by kernel_rfl)) rfl ?_
        exact ⟨_, rfl, HQ.out, HBF.out⟩
      · have E : plT (f + 1) n = ⟨4, n, (plT f (lastP n)).fo ((plT f (n / lastP n)).fo .nil)⟩ := by rw [plT, if_neg (by omega), if_neg (by rw [hpw]; simp; omega), if_neg (by rw [hpw]; simp), if_neg hpr]
        rw [E]
        obtain ⟨q1, q2, q3, q4⟩ := prb_fa h1 h2 hpr (by omega)
        have hq := fsts_last q1
        rw [Bool.not_eq_true] at hpr
        rw [hpr] at FP
        have FP := Lib.hid FP
        have hqd : n / lastP n < n := Nat.div_lt_self (by omega) (by omega)
        have hqd1 : 1 ≤ n / lastP n := Nat.div_pos (Nat.le_of_dvd h1 q3) (by omega)
        have IP := Lib.hid (IH.out (lastP n) (by omega) q4)
        have IQ := Lib.hid (IH.out (n / lastP n) hqd1 hqd)
        have TW := Lib.hid (fun w => r19_two 4 n (lastP n) _ _ w q2 h2 IP IQ)
        clear hqd hqd1 IP IQ q3 q4
        generalize plT f (n / lastP n) = D2 at *
        generalize plT f (lastP n) = D1 at *
        generalize hl0 : fsts (fa n) = ys at *
        have hL25 := fa_len h1 h2
        generalize (fa n).length = L0 at *
        generalize lastP n = p at *
        obtain ⟨L, rfl⟩ : ∃ z, L0 = z + 1 := ⟨L0 - 1, by omega⟩
        have wL : IntKind.i64.wrap (((L + 1 : Nat) : Int) - 1) = (L : Int) := by rw [IntWalk.i64_in _ (by omega)]; omega
        have wL' : IntKind.i64.wrap ((L : Int) + 1 - 1) = (L : Int) := by rw [IntWalk.i64_in _ (by omega)]; omega
        rw [Nat.add_sub_cancel] at hq
        clear E IH hpw hpr hl0
        go_enter Try.func44, Try.ntmps44
        go_wp2_with fail
        (try rw [hw1])
        clear hw1
        refine (ST.out _).mono ?_
        rintro e uq ⟨rfl, rfl⟩
        go_wp2_with fail
        refine (FP.out _).mono ?_
        rintro e uq ⟨rfl, rfl⟩
        go_wp2_with fail
        refine (PR.out _).mono ?_
        rintro e ux ⟨pa, pc, rfl, hr, bx⟩
        have hs1 := HW1.out
        have hsx := bx.size
        have Bk2 := Bk.trans (bx.mono (by omega))
        obtain ⟨pb, po, rfl, hpb, hpc, _⟩ := hr.cell (k := L) (by omega)
        rw [hq] at hpc
        clear hr hq Bk bx
        have Bk := Bk2
        clear Bk2
        go_wp2_with fail
        clear hpc hpb
        refine (TW.out _).mono ?_
        rintro e uy ⟨v2, rfl, hk2, bx⟩
        obtain ⟨p2, m2, c2', rfl⟩ := hk2.form
        have Bk2 := Bk.trans (bx.mono Bk.size)
        have HK := Lib.hid (hk2.carry (w' := uy) (S' := fun b => b < uy.heap.size ∧ W.heap.size + 1 ≤ b) (fun b hb => ⟨⟨hb.1, by omega⟩, rfl⟩))
        clear Bk hk2 bx hsx hs1
        have Bk := Bk2
        clear Bk2
        generalize uy = u at *
        obtain ⟨x0, x1, x2, f0, f1, f2⟩ := row_cells3 (RX.out _ Bk)
        have HR := Lib.hid (row_put3 (a := .int .i64 4) (b := .int .i64 (n : Int)) (c := (.slice p2 m2 c2')) (RX.out _ Bk))
        have HBF := Lib.hid (below_put3 (HB1.out.trans (Bk.mono HB1.out.size)) (Nat.le_refl _) (.int .i64 4) (.int .i64 (n : Int)) (.slice p2 m2 c2'))
        have HQ := Lib.hid (HK.out.carry (w' := ((u.setCell ⟨W.heap.size, 0, none⟩ (.int .i64 4)).setCell ⟨W.heap.size, 1, none⟩ (.int .i64 (n : Int))).setCell ⟨W.heap.size, 2, none⟩ (.slice p2 m2 c2')) (S' := fun b => b < (((u.setCell ⟨W.heap.size, 0, none⟩ (.int .i64 4)).setCell ⟨W.heap.size, 1, none⟩ (.int .i64 (n : Int))).setCell ⟨W.heap.size, 2, none⟩ (.slice p2 m2 c2')).heap.size ∧ W.heap.size ≤ b) (fun b hb => ⟨⟨by simpa using hb.1, by omega⟩, by rw [Below.heap_setCell _ _ _ _ (by show b ≠ W.heap.size; omega), Below.heap_setCell _ _ _ _ (by show b ≠ W.heap.size; omega), Below.heap_setCell _ _ _ _ (by show b ≠ W.heap.size; omega)]⟩))
        go_wp2_with fail
        refine bodyPost_ret (results_cell_row (p := 2) (ty := 24) rfl _ _ _ 24 #[.int .i64 4, .int .i64 (n : Int), (.slice p2 m2 c2')] (0, 0) _ rfl HR.out Try.underlying24 rfl (by kernel_rfl)) rfl ?_
        exact ⟨_, rfl, HQ.out, HBF.out⟩
end Go.Proofs.Ytfjioflggkmhcaa
