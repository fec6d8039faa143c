/- The numbers of the least work of all candidates; package cand's Best. -/
import Derived.Test.YtfjioflggkmhcaaLCandRight
import Derived.Test.YtfjioflggkmhcaaLCostLeast
namespace Go.Proofs.Ytfjioflggkmhcaa
open Go.ChangeShapes Go.WideShapes Go.ChangeAt Go.RowKit
set_option linter.unusedVariables false
set_option linter.unusedSimpArgs false
theorem lst_min (F : Fo) (M : Nat) (hC : ∀ i, i < M → chkd (F.k i) (F.n i) (F.kids i) = 0) : ∀ i, i < M → ∃ a, lst F (i + 1) = some a ∧ a < i + 1 ∧ ∀ j, j < i + 1 → estN (F.k a) (F.n a) (F.kids a) ≤ estN (F.k j) (F.n j) (F.kids j)
  | 0, h => ⟨0, lst_first (hC 0 h) rfl, by omega, fun j hj => by obtain rfl : j = 0 := by omega
                                                                 exact Int.le_refl _⟩
  | i + 1, h => by
    obtain ⟨a, e, ha, hm⟩ := lst_min F M hC i (by omega)
    have ci := hC (i + 1) h
    have ca := hC a (by omega)
    have ri : rankC (F.k (i + 1)) (F.n (i + 1)) (F.kids (i + 1)) = estN (F.k (i + 1)) (F.n (i + 1)) (F.kids (i + 1)) := if_pos ci
    have ra : rankC (F.k a) (F.n a) (F.kids a) = estN (F.k a) (F.n a) (F.kids a) := if_pos ca
    by_cases hd : cmpC (F.k (i + 1)) (F.n (i + 1)) (F.kids (i + 1)) (F.k a) (F.n a) (F.kids a) < 0
    · have hle : estN (F.k (i + 1)) (F.n (i + 1)) (F.kids (i + 1)) ≤ estN (F.k a) (F.n a) (F.kids a) := by
        rcases Int.lt_or_le (estN (F.k a) (F.n a) (F.kids a)) (estN (F.k (i + 1)) (F.n (i + 1)) (F.kids (i + 1))) with hl | hl
        · have := cmpC_gt (k := F.k (i + 1)) (n := F.n (i + 1)) (ks := F.kids (i + 1)) (k' := F.k a) (n' := F.n a) (ks' := F.kids a) (by rw [ri, ra]; exact hl)
          omega
        · exact hl
      refine ⟨i + 1, lst_less ci e hd, by omega, fun j hj => ?_⟩
      by_cases hj1 : j < i + 1
      · exact Int.le_trans hle (hm j hj1)
      · obtain rfl : j = i + 1 := by omega
        exact Int.le_refl _
    · have hle : estN (F.k a) (F.n a) (F.kids a) ≤ estN (F.k (i + 1)) (F.n (i + 1)) (F.kids (i + 1)) := by
        rcases Int.lt_or_le (estN (F.k (i + 1)) (F.n (i + 1)) (F.kids (i + 1))) (estN (F.k a) (F.n a) (F.kids a)) with hl | hl
        · have := cmpC_lt (k := F.k (i + 1)) (n := F.n (i + 1)) (ks := F.kids (i + 1)) (k' := F.k a) (n' := F.n a) (ks' := F.kids a) (by rw [ri, ra]; exact hl)
          omega
        · exact hl
      refine ⟨a, lst_stay ci e hd, by omega, fun j hj => ?_⟩
      by_cases hj1 : j < i + 1
      · exact hm j hj1
      · obtain rfl : j = i + 1 := by omega
        exact hle
theorem ofL_bulk {n : Nat} (h2 : n ≤ 16777216) : ∀ l : List Nd, (∀ d, d ∈ l → okB n d = true) → (ofL l).wf ∧ (ofL l).cnt ≤ 61 * l.length
  | [], _ => ⟨trivial, Nat.zero_le _⟩
  | d :: l, h => by
    obtain ⟨g1, g2⟩ := ofL_bulk h2 l (fun x hx => h x (List.mem_cons_of_mem _ hx))
    obtain ⟨o1, o2, o3, o4, o5, o6⟩ := okB_ok h2 (h d List.mem_cons_self)
    refine ⟨⟨o3, o4, o5, g1⟩, ?_⟩
    simp only [ofL, Fo.cnt, List.length_cons]
    omega
/-- Of a size: the row of all candidates, each a plan, and one of the least work. -/
theorem best_of {n : Nat} (hh : hasb n = true) : ∃ M a, (candL n).length = M ∧ 1 ≤ M ∧ M ≤ 12 ∧ (ofL (candL n)).len = M ∧ a < M ∧ lst (ofL (candL n)) M = some a ∧ (ofL (candL n)).wf ∧ (ofL (candL n)).cnt ≤ 1048576 ∧
    (∀ i, i < M → chkd ((ofL (candL n)).k i) ((ofL (candL n)).n i) ((ofL (candL n)).kids i) = 0 ∧ (-9223372036854775808 ≤ (ofL (candL n)).k i ∧ (ofL (candL n)).k i ≤ 9223372036854775807) ∧ (-9223372036854775808 ≤ (ofL (candL n)).n i ∧ (ofL (candL n)).n i ≤ 9223372036854775807) ∧ ((ofL (candL n)).kids i).wf ∧ ((ofL (candL n)).kids i).cnt ≤ 60) ∧
    (∀ j, j < M → estN ((ofL (candL n)).k a) ((ofL (candL n)).n a) ((ofL (candL n)).kids a) ≤ estN ((ofL (candL n)).k j) ((ofL (candL n)).n j) ((ofL (candL n)).kids j)) := by
  obtain ⟨h1, h2, h3⟩ := hasb_dvd hh
  have h1 : 1 ≤ n := by omega
  have h2 : n ≤ 16777216 := by omega
  have hn : n ∣ 18446744069414584320 := Nat.dvd_of_mod_eq_zero (has_mod h3)
  have hR := right_all h1 h2 hn
  unfold rightB at hR
  rw [← cand_C h1 h2 hn] at hR
  simp only [Bool.and_eq_true, decide_eq_true_eq, List.all_eq_true] at hR
  obtain ⟨⟨⟨⟨r1, r2⟩, -⟩, r4⟩, -⟩ := hR
  have HO : ∀ i, i < (candL n).length → _ := fun i (hi : i < (candL n).length) => okB_ok h2 (r4 _ (List.mem_of_getElem? (ofL_at (candL n) i hi)))
  obtain ⟨b1, b2⟩ := ofL_bulk h2 (candL n) r4
  have hl := ofL_len (candL n)
  generalize ofL (candL n) = F at *
  obtain ⟨M, hM⟩ : ∃ M, (candL n).length = M := ⟨_, rfl⟩
  rw [hM] at r1 r2 HO b2 hl
  obtain ⟨m, rfl⟩ : ∃ m, M = m + 1 := ⟨M - 1, by omega⟩
  obtain ⟨a, e, ha, hm⟩ := lst_min F (m + 1) (fun i hi => (HO i hi).2.1) m (by omega)
  exact ⟨m + 1, a, hM, r1, r2, hl, ha, e, b1, by omega, fun i hi => (HO i hi).2, hm⟩
theorem Fo.AtS.get : ∀ {f : Fo} {w : World} {S : Nat → Prop} {b o : Nat} (h : f.AtS w S b o) {i : Nat} (hi : i < f.len),
    S b ∧ w.cell? ⟨b, o + i * 3, none⟩ = some (.int .i64 (f.k i)) ∧ w.cell? ⟨b, o + i * 3 + 1, none⟩ = some (.int .i64 (f.n i)) ∧ ∃ v, w.cell? ⟨b, o + i * 3 + 2, none⟩ = some v ∧ KidsS w S v (f.kids i)
  | .nil, _, _, _, _, _, _, hi => by simp [Fo.len] at hi
  | .cons _ _ ks r, w, S, b, o, ⟨hb, c0, c1, ⟨a, c, c2, h1, h2, h3⟩, hr⟩, 0, _ => by
    refine ⟨hb, by simpa [Fo.k] using c0, by simpa [Fo.n] using c1, .slice a ks.len c, by simpa using c2, a, c, rfl, h1, h2, h3⟩
  | .cons _ _ ks r, w, S, b, o, ⟨hb, _, _, _, hr⟩, i + 1, hi => by
    have h' : i < r.len := by simp [Fo.len] at hi; omega
    have := Fo.AtS.get hr h'
    rw [show o + (i + 1) * 3 = o + 3 + i * 3 by omega]
    exact this
theorem KidsS.get {w : World} {S : Nat → Prop} {a : Option Addr} {m c : Nat} {f : Fo} (h : KidsS w S (.slice a m c) f) {i : Nat} (hi : i < m) :
    ∃ b o v, a = some ⟨b, o, none⟩ ∧ S b ∧ w.cell? ⟨b, o + i * 3, none⟩ = some (.int .i64 (f.k i)) ∧ w.cell? ⟨b, o + i * 3 + 1, none⟩ = some (.int .i64 (f.n i)) ∧ w.cell? ⟨b, o + i * 3 + 2, none⟩ = some v ∧ KidsS w S v (f.kids i) := by
  obtain ⟨a', c', e, h1, h2, h3⟩ := h
  cases e
  rcases h3 with h3 | ⟨b, o, rfl, h3⟩
  · omega
  · obtain ⟨hb, c0, c1, v, c2, hk⟩ := h3.get hi
    exact ⟨b, o, v, rfl, hb, c0, c1, c2, hk⟩
set_option maxRecDepth 100000 in
theorem cand_best (n : Nat) (W : World) (hh : hasb n = true) (F : Fo) (hF : F.top = candL n) (a M : Nat) (hM : F.len = M) (ha : a < M) (hs : lst F M = some a) (wf : F.wf) (hN : F.cnt ≤ 1048576) : Calls Try.prog 46 #[.int .i64 (n : Int)] W fun e w' => ∃ p m c, e = .returned (.tuple #[.agg #[.int .i64 (F.k a), .int .i64 (F.n a), .slice p m c], .int .i64 0]) ∧ Kids w' w'.heap.size (.slice p m c) (F.kids a) ∧ Below W.heap.size W w' := by
  have LN := Lib.hid (fun w => cand_list n w hh)
  rw [← hF] at LN
  have LE := Lib.hid (fun v lim w hK hl => cost_least F v lim w hK hl wf hN)
  rw [hM, hs] at LE
  rw [show (some a).isSome = true from rfl, show ob (some a) = (a : Int) from rfl] at LE
  clear hh hF hs wf hN
  have HM := Lib.hid hM
  obtain ⟨w1, hw1⟩ : ∃ w1, W.alloc (.cells #[.int .i64 0, .int .i64 0, .slice none 0 0] 24) = w1 := ⟨_, rfl⟩
  have r1 := heap_alloc_new W (.cells #[.int .i64 0, .int .i64 0, .slice none 0 0] 24)
  rw [hw1] at r1
  have HB1 := Lib.hid (show Below W.heap.size W w1 by rw [← hw1]; exact (Below.refl _ _).alloc (Nat.le_refl _) _)
  have hs1 : w1.heap.size = W.heap.size + 1 := by rw [← hw1]; simp
  have RX := Lib.hid (fun w (hb : Below w1.heap.size w1 w) => (hb.block W.heap.size (by omega)).trans r1)
  have HS1 := Lib.hid hs1
  clear r1 hs1 hM
  go_enter Try.func46, Try.ntmps46
  go_wp2_with fail
  (try rw [hw1])
  clear hw1
  refine (LN.out _).mono ?_
  rintro e w3 ⟨v5, rfl, hOw, b3⟩
  have hKL : Kids w3 w3.heap.size v5 F := OwnT.kids (lim := 0) (B := w1.heap.size + 1) hOw
  obtain ⟨p5, c5, rfl, _, _⟩ := hKL.form
  rw [HM.out] at hKL hOw ⊢
  have HKL := Lib.hid hKL
  have HB3 := Lib.hid b3
  have HKS := Lib.hid hOw.kidsS
  have LEi := Lib.hid (LE.out _ _ w3 hKL (Nat.le_refl _))
  clear hOw hKL b3
  go_wp2_with fail
  refine LEi.out.mono ?_
  rintro e u ⟨rfl, bx⟩
  clear LEi
  have hsS : w1.heap.size = W.heap.size + 1 := HS1.out
  obtain ⟨ab, ao, av, rfl, hab, a0, a1, a2, hKa⟩ := (HKS.out.carry (w' := u) (S' := fun b => b < u.heap.size ∧ W.heap.size + 2 ≤ b) (fun b hb => ⟨⟨Nat.lt_of_lt_of_le hb.1 bx.size, by have := hb.2; omega⟩, bx.block b hb.1⟩)).get ha
  obtain ⟨ap, am, ac, rfl⟩ := hKa.form
  have Bk := HB3.out.trans (bx.mono HB3.out.size)
  have hs1 := HS1.out
  obtain ⟨x0, x1, x2, f0, f1, f2⟩ := row_cells3 (RX.out _ Bk)
  have HR := Lib.hid (row_put3 (a := .int .i64 (F.k a)) (b := .int .i64 (F.n a)) (c := .slice ap am ac) (RX.out _ Bk))
  have HBF := Lib.hid (below_put3 (HB1.out.trans (Bk.mono HB1.out.size)) (Nat.le_refl _) (.int .i64 (F.k a)) (.int .i64 (F.n a)) (.slice ap am ac))
  have HQ := Lib.hid (hKa.carry (w' := ((u.setCell ⟨W.heap.size, 0, none⟩ (.int .i64 (F.k a))).setCell ⟨W.heap.size, 1, none⟩ (.int .i64 (F.n a))).setCell ⟨W.heap.size, 2, none⟩ (.slice ap am ac)) (S' := fun b => b < (((u.setCell ⟨W.heap.size, 0, none⟩ (.int .i64 (F.k a))).setCell ⟨W.heap.size, 1, none⟩ (.int .i64 (F.n a))).setCell ⟨W.heap.size, 2, none⟩ (.slice ap am ac)).heap.size) (fun b hb => ⟨by simpa using hb.1, by rw [Below.heap_setCell _ _ _ _ (by show b ≠ W.heap.size; omega), Below.heap_setCell _ _ _ _ (by show b ≠ W.heap.size; omega), Below.heap_setCell _ _ _ _ (by show b ≠ W.heap.size; omega)]⟩))
  clear hKa HKL bx Bk HB3 HKS hsS
  go_wp2_with fail
  refine bodyPost_ret (results_cell_tmp' (p := 2) (a := 3) (ty := 24) rfl _ _ _ 24 #[.int .i64 (F.k a), .int .i64 (F.n a), .slice ap am ac] (0, 0) _ (.int .i64 0) rfl rfl HR.out Try.underlying24 rfl (by kernel_rfl)) rfl ?_
  exact ⟨_, _, _, rfl, HQ.out.to (fun _ hb => hb), HBF.out⟩
set_option maxRecDepth 100000 in
theorem cand_bestno (n : Int) (W : World) (h0 : -9223372036854775808 ≤ n) (h1 : n ≤ 9223372036854775807) (hh : hasb n = false) : Calls Try.prog 46 #[.int .i64 n] W fun e w' => e = .returned (.tuple #[.agg #[.int .i64 0, .int .i64 0, .slice none 0 0], .int .i64 4]) ∧ Below W.heap.size W w' := by
  have LN := Lib.hid (fun w => cand_listno n w h0 h1 hh)
  obtain ⟨w1, hw1⟩ : ∃ w1, W.alloc (.cells #[.int .i64 0, .int .i64 0, .slice none 0 0] 24) = w1 := ⟨_, rfl⟩
  have r1 := heap_alloc_new W (.cells #[.int .i64 0, .int .i64 0, .slice none 0 0] 24)
  rw [hw1] at r1
  have HB1 := Lib.hid (show Below W.heap.size W w1 by rw [← hw1]; exact (Below.refl _ _).alloc (Nat.le_refl _) _)
  obtain ⟨x0, x1, x2, f0, f1, f2⟩ := row_cells3 r1
  have HR := Lib.hid (row_put3 (a := .int .i64 0) (b := .int .i64 0) (c := .slice none 0 0) r1)
  have HBF := Lib.hid (below_put3 HB1.out (Nat.le_refl _) (.int .i64 0) (.int .i64 0) (.slice none 0 0))
  clear r1
  go_enter Try.func46, Try.ntmps46
  go_wp2_with fail
  (try rw [hw1])
  clear hw1
  refine (LN.out _).mono ?_
  rintro e uq ⟨rfl, rfl⟩
  go_wp2_with fail
  refine bodyPost_ret (results_cell_tmp' (p := 2) (a := 3) (ty := 24) rfl _ _ _ 24 #[.int .i64 0, .int .i64 0, .slice none 0 0] (0, 0) _ (.int .i64 4) rfl rfl HR.out Try.underlying24 rfl (by kernel_rfl)) rfl ?_
  exact ⟨rfl, HBF.out⟩
end Go.Proofs.Ytfjioflggkmhcaa
