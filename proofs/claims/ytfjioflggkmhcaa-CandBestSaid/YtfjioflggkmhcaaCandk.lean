/- Package cand's Plain; the page's example of layer 19. -/
import Derived.Test.YtfjioflggkmhcaaCandj
namespace Go.Proofs.Ytfjioflggkmhcaa
open Go.ChangeShapes Go.WideShapes Go.ChangeAt Go.RowKit
set_option linter.unusedVariables false
set_option linter.unusedSimpArgs false
/-- A row of trees. -/
def ofL : List Nd → Fo
  | [] => .nil
  | d :: l => .cons d.k d.n d.ks (ofL l)
theorem ofL_top : ∀ l : List Nd, (ofL l).top = l
  | [] => rfl
  | d :: l => by rw [ofL, Fo.top, ofL_top l]
theorem ofL_len (l : List Nd) : (ofL l).len = l.length := by rw [← Fo.top_len, ofL_top]
set_option maxRecDepth 100000 in
theorem cand_Plain (n : Nat) (W : World) (hh : hasb n = true) : Calls Try.prog 39 #[.int .i64 (n : Int)] W fun e w' => ∃ v, e = .returned (.tuple #[.agg #[.int .i64 (plT 16777216 n).k, .int .i64 (plT 16777216 n).n, v], .int .i64 0]) ∧ KidsS w' (fun b => b < w'.heap.size ∧ W.heap.size ≤ b) v (plT 16777216 n).ks ∧ Below W.heap.size W w' := by
  obtain ⟨h1, h2, -⟩ := hasb_dvd hh
  have RH := fun w => root_has (n : Int) w (by omega) (by omega)
  rw [hh] at RH
  have RH := Lib.hid RH
  have PL := Lib.hid (fun w => cand_plain 16777216 n w (by omega) (by omega) (by omega))
  generalize plT 16777216 n = D1 at *
  obtain ⟨w1, hw1⟩ : ∃ w1, W.alloc (.cells #[.int .i64 0, .int .i64 0, .slice none 0 0] 24) = w1 := ⟨_, rfl⟩
  have r1 := heap_alloc_new W (.cells #[.int .i64 0, .int .i64 0, .slice none 0 0] 24)
  rw [hw1] at r1
  have HB1 := Lib.hid (show Below W.heap.size W w1 by rw [← hw1]; exact (Below.refl _ _).alloc (Nat.le_refl _) _)
  have hs1 : w1.heap.size = W.heap.size + 1 := by rw [← hw1]; simp
  have RX := Lib.hid (fun w (hb : Below w1.heap.size w1 w) => (hb.block W.heap.size (by omega)).trans r1)
  clear r1
  have HS1 := Lib.hid hs1
  clear hs1
  go_enter Try.func39, Try.ntmps39
  go_wp2_with fail
  (try rw [hw1])
  clear hw1
  refine (RH.out _).mono ?_
  rintro e uq ⟨rfl, rfl⟩
  go_wp2_with fail
  refine (PL.out _).mono ?_
  rintro e ux ⟨v1, rfl, hk1, bx⟩
  obtain ⟨p1, m1, c1', rfl⟩ := hk1.form
  obtain ⟨x0, x1, x2, f0, f1, f2⟩ := row_cells3 (RX.out _ bx)
  have hs1 := HS1.out
  have HR := Lib.hid (row_put3 (a := .int .i64 D1.k) (b := .int .i64 D1.n) (c := .slice p1 m1 c1') (RX.out _ bx))
  have HBF := Lib.hid (below_put3 (HB1.out.trans (bx.mono HB1.out.size)) (Nat.le_refl _) (.int .i64 D1.k) (.int .i64 D1.n) (.slice p1 m1 c1'))
  have HQ := Lib.hid (hk1.carry (w' := ((ux.setCell ⟨W.heap.size, 0, none⟩ (.int .i64 D1.k)).setCell ⟨W.heap.size, 1, none⟩ (.int .i64 D1.n)).setCell ⟨W.heap.size, 2, none⟩ (.slice p1 m1 c1')) (S' := fun b => b < (((ux.setCell ⟨W.heap.size, 0, none⟩ (.int .i64 D1.k)).setCell ⟨W.heap.size, 1, none⟩ (.int .i64 D1.n)).setCell ⟨W.heap.size, 2, none⟩ (.slice p1 m1 c1')).heap.size ∧ W.heap.size ≤ b) (fun b hb => ⟨⟨by simpa using hb.1, by omega⟩, by rw [Below.heap_setCell _ _ _ _ (by show b ≠ W.heap.size; omega), Below.heap_setCell _ _ _ _ (by show b ≠ W.heap.size; omega), Below.heap_setCell _ _ _ _ (by show b ≠ W.heap.size; omega)]⟩))
  clear hk1 bx hs1
  go_wp2_with fail
  refine bodyPost_ret (results_cell_tmp' (p := 2) (a := 3) (ty := 24) rfl _ _ _ 24 #[.int .i64 D1.k, .int .i64 D1.n, .slice p1 m1 c1'] (0, 0) _ (.int .i64 0) rfl rfl HR.out Try.underlying24 rfl (by kernel_rfl)) rfl ?_
  exact ⟨_, rfl, HQ.out, HBF.out⟩
set_option maxRecDepth 100000 in
theorem cand_Plainno (n : Int) (W : World) (h0 : -9223372036854775808 ≤ n) (h1 : n ≤ 9223372036854775807) (hh : hasb n = false) : Calls Try.prog 39 #[.int .i64 n] W fun e w' => e = .returned (.tuple #[.agg #[.int .i64 0, .int .i64 0, .slice none 0 0], .int .i64 4]) ∧ Below W.heap.size W w' := by
  have RH := fun w => root_has n w h0 h1
  rw [hh] at RH
  have RH := Lib.hid RH
  obtain ⟨w1, hw1⟩ : ∃ w1, W.alloc (.cells #[.int .i64 0, .int .i64 0, .slice none 0 0] 24) = w1 := ⟨_, rfl⟩
  have r1 := heap_alloc_new W (.cells #[.int .i64 0, .int .i64 0, .slice none 0 0] 24)
  rw [hw1] at r1
  have HB1 := Lib.hid (show Below W.heap.size W w1 by rw [← hw1]; exact (Below.refl _ _).alloc (Nat.le_refl _) _)
  obtain ⟨x0, x1, x2, f0, f1, f2⟩ := row_cells3 r1
  have HR := Lib.hid (row_put3 (a := .int .i64 0) (b := .int .i64 0) (c := .slice none 0 0) r1)
  have HBF := Lib.hid (below_put3 HB1.out (Nat.le_refl _) (.int .i64 0) (.int .i64 0) (.slice none 0 0))
  clear r1
  go_enter Try.func39, Try.ntmps39
  go_wp2_with fail
  (try rw [hw1])
  clear hw1
  refine (RH.out _).mono ?_
  rintro e uq ⟨rfl, rfl⟩
  go_wp2_with fail
  refine bodyPost_ret (results_cell_tmp' (p := 2) (a := 3) (ty := 24) rfl _ _ _ 24 #[.int .i64 0, .int .i64 0, .slice none 0 0] (0, 0) _ (.int .i64 4) rfl rfl HR.out Try.underlying24 rfl (by kernel_rfl)) rfl ?_
  exact ⟨rfl, HBF.out⟩
set_option maxRecDepth 100000 in
theorem cand_listno (n : Int) (W : World) (h0 : -9223372036854775808 ≤ n) (h1 : n ≤ 9223372036854775807) (hh : hasb n = false) : Calls Try.prog 40 #[.int .i64 n] W fun e w' => e = .returned (.tuple #[.slice none 0 0, .int .i64 4]) ∧ W = w' := by
  have RH := fun w => root_has n w h0 h1
  rw [hh] at RH
  have RH := Lib.hid RH
  go_enter Try.func40, Try.ntmps40
  go_wp2_with fail
  refine (RH.out _).mono ?_
  rintro e uq ⟨rfl, rfl⟩
  go_wp2_with fail
  go_ret2
  exact ⟨rfl, rfl⟩
theorem has96 : hasb ((96 : Nat) : Int) = true := by decide
theorem has5 : hasb ((5 : Nat) : Int) = true := by decide
theorem pl96 : (plT 16777216 96).k = 4 ∧ (plT 16777216 96).ks.len = 2 ∧ (plT 16777216 96).ks.n 1 = 32 := by decide +kernel
theorem l5 : (ofL (candL 5)).len = 4 ∧ (ofL (candL 5)).k 2 = 6 := by decide +kernel
end Go.Proofs.Ytfjioflggkmhcaa
