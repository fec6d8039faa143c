/- slim.Head; the reference's. -/
import Derived.Test.YthnpbfboedgmpaaSld
namespace Go.Proofs.Ythnpbfboedgmpaa
open Go.ChangeShapes Go.WideShapes Go.ChangeAt Go.RowKit
set_option linter.unusedVariables false
set_option linter.unusedSimpArgs false
theorem RowI.takeN {w : World} {p : Option Addr} {xs : List Int} (h : RowI w p xs.length xs) (m : Nat) : RowI w p (xs.take m).length (xs.take m) := by
  refine ⟨rfl, ?_, fun x hx => h.wf x (List.mem_of_mem_take hx), by have := h.small; rw [List.length_take]; omega⟩
  rcases h.reads with h0 | ⟨b, o, rfl, hl, hc⟩
  · left; rw [h0]; simp
  · refine .inr ⟨b, o, rfl, hl, fun i hi => ?_⟩
    have hi' : i < xs.length := by rw [List.length_take] at hi; omega
    have h1 := hc i hi'
    have e : (xs.take m).getD i 0 = xs.getD i 0 := by
      rw [List.length_take] at hi
      simp only [List.getD_eq_getElem?_getD]
      rw [List.getElem?_take, if_pos (by omega)]
    rw [e]; exact h1
/-- How many of the first ones there are. -/
def clampN (n : Int) (k : Nat) : Nat := if n < 0 then 0 else if n ≤ k then n.toNat else k
theorem clampN_le (n : Int) (k : Nat) : clampN n k ≤ k := by unfold clampN; split <;> (try split) <;> omega
theorem slim_head_box {w : World} {b : Nat} {a c d e f v : Value} {T : TypeId} (h : w.heap[b]? = some (.cells #[a, c, d, e, f] T (0, 0))) : (w.setCell ⟨b, 3, none⟩ v).heap[b]? = some (.cells #[a, c, d, v, f] T (0, 0)) := row_setC h v
set_option maxRecDepth 100000 in
set_option maxHeartbeats 8000000 in
theorem slim_head (st rm : Int) (cp pp tp : Option Addr) (ck pk tk : Nat) (cs : List (List Cl)) (ps ts : List Int) (n : Int) (W : World) (hC : RowCC W (.slice cp cs.length ck) cs) (hP : RowI W pp ps.length ps) (hT : RowI W tp ts.length ts) (hs : Sml cs ps ts) (hpk : ps.length ≤ pk)
    (hn : -9223372036854775808 ≤ n ∧ n ≤ 9223372036854775807) :
    Calls Try.prog 5 #[.agg #[.int .i64 st, .int .i64 rm, .slice cp cs.length ck, .slice pp ps.length pk, .slice tp ts.length tk], .int .i64 n] W (ScrG W.heap.size W st rm cs (ps.take (clampN n ps.length)) ts) := by
  obtain ⟨w0, hw0, r0, hB0, hs0⟩ := boxG W #[.int .i64 st, .int .i64 rm, .slice cp cs.length ck, .slice pp ps.length pk, .slice tp ts.length tk] 25
  obtain ⟨w1, hw1, r1, hB1, hs1⟩ := boxG w0 #[.int .i64 0, .int .i64 0, .slice none 0 0, .slice none 0 0, .slice none 0 0] 25
  rw [hs0] at r1
  have HB1 := Lib.hid (hB0.trans (hB1.mono hB0.size))
  have q0 := (hB1.block W.heap.size (by omega)).trans r0
  obtain ⟨m0, m1, m2, m3, m4⟩ := sc_cells5 q0
  obtain ⟨f0, f1, f2, f3, f4⟩ := frz5 q0
  have hcl := clampN_le n ps.length
  obtain ⟨m, hm⟩ : ∃ m, clampN n ps.length = m := ⟨_, rfl⟩
  rw [hm] at hcl ⊢
  have hlen : (ps.take m).length = m := by rw [List.length_take]; omega
  have HT5 := Lib.hid (hP.takeN m)
  obtain ⟨qs, hqs⟩ : ∃ qs, ps.take m = qs := ⟨_, rfl⟩
  rw [hqs] at HT5 hlen ⊢
  subst hlen
  have Q0 := Lib.hid (slim_head_box (v := .slice pp qs.length pk) q0)
  have Q1 := Lib.hid ((heap_setCell_other w1 ⟨W.heap.size, 3, none⟩ (W.heap.size + 1) (.slice pp qs.length pk) (by show W.heap.size + 1 ≠ W.heap.size; omega)).trans r1)
  have HBY := Lib.hid (HB1.out.setCell (p := ⟨W.heap.size, 3, none⟩) (Nat.le_refl _) (.slice pp qs.length pk))
  have hsm : Sml cs qs ts := ⟨hs.c, hs.l, hs.x, by have := hs.p; omega, hs.t⟩
  have CN := Lib.hid (slim_clone st rm cp pp tp ck pk tk cs qs ts _ (hC.below HBY.out) (HT5.out.below HBY.out) (hT.below HBY.out) hsm)
  have HSZ := Lib.hid (show W.heap.size + 2 = w1.heap.size by omega)
  have hq0 : (0 : Int) ≤ (qs.length : Int) := by omega
  have hqk : (qs.length : Int) ≤ (pk : Int) := by omega
  have hcase : (n < 0 ∧ (qs.length : Int) = 0) ∨ (¬ n < 0 ∧ n ≤ (ps.length : Int) ∧ (qs.length : Int) = n) ∨ (¬ n < 0 ∧ ¬ n ≤ (ps.length : Int) ∧ qs.length = ps.length) := by
    unfold clampN at hm
    by_cases h1 : n < 0
    · rw [if_pos h1] at hm; exact .inl ⟨h1, by omega⟩
    · rw [if_neg h1] at hm
      by_cases h2 : n ≤ (ps.length : Int)
      · rw [if_pos h2] at hm; exact .inr (.inl ⟨h1, h2, by omega⟩)
      · rw [if_neg h2] at hm; exact .inr (.inr ⟨h1, h2, by omega⟩)
  clear hC hP hT hs r0 r1 hB0 hB1 hcl hm hqs hsm q0 hpk hn
  rcases hcase with ⟨h1, h2⟩ | ⟨h1, h2, h3⟩ | ⟨h1, h2, h3⟩
  · obtain rfl : qs = [] := List.length_eq_zero_iff.1 (by omega)
    simp only [List.length_nil] at CN Q0 Q1 HBY
    clear h2 hq0 hqk
    go_enter Try.func5, Try.ntmps5
    go_upto_region 2 with fail
    obtain ⟨y, hy⟩ : ∃ y, w1.setCell ⟨W.heap.size, 3, none⟩ (.slice pp 0 pk) = y := ⟨_, rfl⟩
    rw [hy] at CN Q0 Q1 HBY ⊢
    have HZ := Lib.hid (show W.heap.size + 2 ≤ y.heap.size by rw [← hy]; have := HSZ.out; simp; omega)
    clear hy m0 m1 m2 m3 m4 f0 f1 f2 f3 f4
    obtain ⟨m0, m1, m2, m3, m4⟩ := sc_cells5 Q0.out
    go_wp2_with fail
    refine CN.out.mono ?_
    rintro e x3 ⟨c3, k3, p3, j3, t3, l3, rfl, hk, hp, ht, hb⟩
    have q1 : x3.heap[W.heap.size + 1]? = _ := (hb.block (W.heap.size + 1) (by have := HZ.out; omega)).trans Q1.out
    obtain ⟨n0, n1, n2, n3, n4⟩ := sc_cells5 q1
    obtain ⟨g0, g1, g2, g3, g4⟩ := frz5 q1
    have HQ1 := Lib.hid q1
    have HFIN := Lib.hid (And.intro hk (And.intro hp (And.intro ht hb)))
    clear hk hp ht hb q1 m0 m1 m2 m3 m4
    go_wp2_with fail
    refine bodyPost_ret (results_cell_row (p := 4) (ty := 25) rfl _ _ _ 25 #[.int .i64 st, .int .i64 rm, .slice c3 cs.length k3, .slice p3 0 j3, .slice t3 ts.length l3] (0, 0) _ rfl (s5_row HQ1.out) Try.underlying25 rfl (by kernel_rfl)) rfl ?_
    have hz := HZ.out
    have hn : ¬ (y.heap.size ≤ W.heap.size + 1) := by omega
    have hM : ∀ (w : World) (t : Nat), t < w.heap.size → y.heap.size ≤ t → W.heap.size ≤ t := fun w t _ ht => by omega
    exact ⟨c3, k3, p3, j3, t3, l3, rfl, (HFIN.out.1.keep (s5_exL hn)).mono (hM _), (HFIN.out.2.1.keep (s5_exL hn)).mono (hM _), (HFIN.out.2.2.1.keep (s5_exL hn)).mono (hM _), s5_below (HBY.out.trans (HFIN.out.2.2.2.mono (by omega))) (Nat.le_succ _)⟩
  · go_enter Try.func5, Try.ntmps5
    go_upto_region 2 with fail
    rw [show n.toNat = qs.length by omega]
    clear h1 h2 h3 hq0 hqk
    obtain ⟨y, hy⟩ : ∃ y, w1.setCell ⟨W.heap.size, 3, none⟩ (.slice pp qs.length pk) = y := ⟨_, rfl⟩
    rw [hy] at CN Q0 Q1 HBY ⊢
    have HZ := Lib.hid (show W.heap.size + 2 ≤ y.heap.size by rw [← hy]; have := HSZ.out; simp; omega)
    clear hy m0 m1 m2 m3 m4 f0 f1 f2 f3 f4
    obtain ⟨m0, m1, m2, m3, m4⟩ := sc_cells5 Q0.out
    go_wp2_with fail
    refine CN.out.mono ?_
    rintro e x3 ⟨c3, k3, p3, j3, t3, l3, rfl, hk, hp, ht, hb⟩
    have q1 : x3.heap[W.heap.size + 1]? = _ := (hb.block (W.heap.size + 1) (by have := HZ.out; omega)).trans Q1.out
    obtain ⟨n0, n1, n2, n3, n4⟩ := sc_cells5 q1
    obtain ⟨g0, g1, g2, g3, g4⟩ := frz5 q1
    have HQ1 := Lib.hid q1
    have HFIN := Lib.hid (And.intro hk (And.intro hp (And.intro ht hb)))
    clear hk hp ht hb q1 m0 m1 m2 m3 m4
    go_wp2_with fail
    refine bodyPost_ret (results_cell_row (p := 4) (ty := 25) rfl _ _ _ 25 #[.int .i64 st, .int .i64 rm, .slice c3 cs.length k3, .slice p3 qs.length j3, .slice t3 ts.length l3] (0, 0) _ rfl (s5_row HQ1.out) Try.underlying25 rfl (by kernel_rfl)) rfl ?_
    have hz := HZ.out
    have hn : ¬ (y.heap.size ≤ W.heap.size + 1) := by omega
    have hM : ∀ (w : World) (t : Nat), t < w.heap.size → y.heap.size ≤ t → W.heap.size ≤ t := fun w t _ ht => by omega
    exact ⟨c3, k3, p3, j3, t3, l3, rfl, (HFIN.out.1.keep (s5_exL hn)).mono (hM _), (HFIN.out.2.1.keep (s5_exL hn)).mono (hM _), (HFIN.out.2.2.1.keep (s5_exL hn)).mono (hM _), s5_below (HBY.out.trans (HFIN.out.2.2.2.mono (by omega))) (Nat.le_succ _)⟩
  · have h4 : (ps.length : Int) < n := by omega
    go_enter Try.func5, Try.ntmps5
    go_upto_region 2 with fail
    rw [← h3]
    clear h1 h2 h3 h4 hq0 hqk
    obtain ⟨y, hy⟩ : ∃ y, w1.setCell ⟨W.heap.size, 3, none⟩ (.slice pp qs.length pk) = y := ⟨_, rfl⟩
    rw [hy] at CN Q0 Q1 HBY ⊢
    have HZ := Lib.hid (show W.heap.size + 2 ≤ y.heap.size by rw [← hy]; have := HSZ.out; simp; omega)
    clear hy m0 m1 m2 m3 m4 f0 f1 f2 f3 f4
    obtain ⟨m0, m1, m2, m3, m4⟩ := sc_cells5 Q0.out
    go_wp2_with fail
    refine CN.out.mono ?_
    rintro e x3 ⟨c3, k3, p3, j3, t3, l3, rfl, hk, hp, ht, hb⟩
    have q1 : x3.heap[W.heap.size + 1]? = _ := (hb.block (W.heap.size + 1) (by have := HZ.out; omega)).trans Q1.out
    obtain ⟨n0, n1, n2, n3, n4⟩ := sc_cells5 q1
    obtain ⟨g0, g1, g2, g3, g4⟩ := frz5 q1
    have HQ1 := Lib.hid q1
    have HFIN := Lib.hid (And.intro hk (And.intro hp (And.intro ht hb)))
    clear hk hp ht hb q1 m0 m1 m2 m3 m4
    go_wp2_with fail
    refine bodyPost_ret (results_cell_row (p := 4) (ty := 25) rfl _ _ _ 25 #[.int .i64 st, .int .i64 rm, .slice c3 cs.length k3, .slice p3 qs.length j3, .slice t3 ts.length l3] (0, 0) _ rfl (s5_row HQ1.out) Try.underlying25 rfl (by kernel_rfl)) rfl ?_
    have hz := HZ.out
    have hn : ¬ (y.heap.size ≤ W.heap.size + 1) := by omega
    have hM : ∀ (w : World) (t : Nat), t < w.heap.size → y.heap.size ≤ t → W.heap.size ≤ t := fun w t _ ht => by omega
    exact ⟨c3, k3, p3, j3, t3, l3, rfl, (HFIN.out.1.keep (s5_exL hn)).mono (hM _), (HFIN.out.2.1.keep (s5_exL hn)).mono (hM _), (HFIN.out.2.2.1.keep (s5_exL hn)).mono (hM _), s5_below (HBY.out.trans (HFIN.out.2.2.2.mono (by omega))) (Nat.le_succ _)⟩
/-- The reference's. -/
theorem RowI.goodL {w : World} {p : Option Addr} {n : Nat} {xs : List Int} (h : RowI w p n xs) : ∀ x ∈ xs, i64r x := fun x hx => by
  have h1 := h.wf x hx
  simp [Lit.wf, IntKind.min, IntKind.max, IntKind.signed, IntKind.bits] at h1
  exact ⟨by omega, by omega⟩
theorem take_clamp {xs : List Int} {n : Int} {q : Nat} (hq : q = xs.length ∨ (n ≤ (q : Int))) (hq2 : q ≤ xs.length) (h0 : q = 0 ∨ (q : Int) ≤ n) : xs.take (clampN n xs.length) = xs.take q := by
  have e : clampN n xs.length = q := by
    unfold clampN
    rcases h0 with h0 | h0
    · split
      · omega
      · split <;> omega
    · rw [if_neg (by omega)]
      split <;> omega
  rw [e]
set_option maxRecDepth 100000 in
set_option maxHeartbeats 8000000 in
theorem r46_head (p : Option Addr) (k : Nat) (xs : List Int) (n : Int) (W : World) (hr : RowI W p xs.length xs) (hl : xs.length ≤ 2000000) (hn : -9223372036854775808 ≤ n ∧ n ≤ 9223372036854775807) :
    Calls Try.prog 10 #[.slice p xs.length k, .int .i64 n] W fun e w' => ∃ v', e = .returned v' ∧ PK (fun t => W.heap.size ≤ t) w' v' (xs.take (clampN n xs.length)) ∧ Below W.heap.size W w' := by
  have HR := Lib.hid hr
  have HL := Lib.hid hl
  clear hr hl
  go_enter Try.func10, Try.ntmps10
  go_wp2_with fail
  go_loopw [5, 6] (fun u j wr => ∃ q : Nat, j = .int .i64 q ∧ Hid (q ≤ xs.length ∧ (q = 0 ∨ (q : Int) ≤ n)) ∧ Hid (Owns wr W.heap.size 3 .i64 u (xs.take q)) ∧ Hid (Below W.heap.size W wr)) (fun _ j _ => xs.length - (intOf j).toNat)
  case atStart => exact ⟨0, rfl, Lib.hid ⟨Nat.zero_le _, .inl rfl⟩, Lib.hid (Owns.nil _ _ _ _), Lib.hid (Below.refl _ _)⟩
  case round =>
    obtain ⟨q, rfl, HQ, HO, HB⟩ := hrel
    obtain ⟨x1, rfl⟩ : ∃ w, w = wr := ⟨_, rfl⟩
    by_cases hc : q < xs.length ∧ (q : Int) < n
    · obtain ⟨hq, hqn⟩ := hc
      have hq0 : (0 : Int) ≤ (q : Int) := by omega
      have hqi : (q : Int) < (xs.length : Int) := by omega
      have WK := Lib.hid (show wrap64 ((q : Int) + 1) = ((q + 1 : Nat) : Int) by have := HL.out; simp only [wrap64]; omega)
      have HQL := Lib.hid (And.intro hq hqn)
      rcases HR.out.reads with h0 | ⟨b, o, rfl, hb, hcell⟩
      · rw [h0] at hq; simp at hq
      have m0 := (HB.out.cell (p := ⟨b, o + q, none⟩) hb).trans (hcell q hq)
      obtain ⟨y, hy⟩ : ∃ y, xs.getD q 0 = y := ⟨_, rfl⟩
      rw [hy] at m0
      have HT := Lib.hid (show xs.take (q + 1) = xs.take q ++ [y] by
        rw [← hy, List.take_add_one, List.getElem?_eq_getElem hq, List.getD_eq_getElem?_getD, List.getElem?_eq_getElem hq]; rfl)
      have hsz := HB.out.size
      have hkn : (xs.take q).length < 17592186044415 := by have := HL.out; rw [List.length_take]; omega
      clear hcell hy hq
      go_wp2_with (at_builtin; (refine append_one (T := 23) (E := 3) (k := .i64) (B := W.heap.size) (ys := xs.take q) (y := y) Try.underlying23 info_i64c rfl _ _ rfl rfl HO.out rfl hsz hkn ?_); intro v4 x4 hO4 hb4; have HO4 := Lib.hid (show Owns x4 W.heap.size 3 .i64 v4 (xs.take (q + 1)) by rw [HT.out]; exact hO4); have HB4 := Lib.hid (HB.out.trans hb4); clear hO4 hb4)
      go_roundw
      case rel => exact ⟨q + 1, by first | rw [WK.out] | simp, Lib.hid ⟨HQL.out.1, .inr (by have := HQL.out.2; omega)⟩, HO4, HB4⟩
      case measure => first | (rw [WK.out]; have := HQL.out.1; simp only [intOf]; omega) | (have := HQL.out.1; simp only [intOf]; omega)
    · have HF := Lib.hid (take_clamp (xs := xs) (n := n) (q := q) (by have := HQ.out; omega) HQ.out.1 HQ.out.2)
      have hcase : (¬ (q : Int) < (xs.length : Int)) ∨ ((q : Int) < (xs.length : Int) ∧ ¬ (q : Int) < n) := by omega
      have HP := Lib.hid (pk_own HO.out (fun x hx => HR.out.goodL x (List.mem_of_mem_take hx)) (by have := HL.out; rw [List.length_take]; omega))
      clear hc
      rcases hcase with h1 | ⟨h1, h2⟩
      all_goals
        go_wp2_with fail
        go_ret
        exact ⟨_, rfl, by rw [HF.out]; exact HP.out, HB.out⟩
end Go.Proofs.Ythnpbfboedgmpaa
