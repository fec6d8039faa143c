/- package desc's Clone of a leaf, At, and the live example of layer 13. -/
import Derived.Test.YtfjioflggkmhcaaNodesl
import Derived.Test.YtfjioflggkmhcaaDepthd
namespace Go.Proofs.Ytfjioflggkmhcaa
open Go.ChangeShapes Go.WideShapes Go.ChangeAt Go.RowKit
set_option linter.unusedVariables false
theorem desc_nodes0 (k n : Int) (c : Nat) (p : Option Addr) (W : World) (hc2 : c ≤ 9223372036854775807) :
    Calls Try.prog 17 #[.agg #[.int .i64 k, .int .i64 n, .slice p 0 c]] W fun e w' => e = .returned (.int .i64 1) ∧ Below W.heap.size W w' := by
  by_cases hm : c ≤ maxLen
  · exact desc_nodes1 k n 0 c 0 p .nil W (fun i h => by omega) (Nat.zero_le _) hc2 ⟨p, c, rfl, Nat.zero_le _, hm, .inl rfl⟩ (Nat.zero_le _) (by omega)
  · exact absurd hc2 (by unfold maxLen at hm; omega)
theorem clone_part0 (c : Nat) (p : Option Addr) (q : Value) (W : World) :
    Calls Try.prog 50 #[.slice p 0 c, q] W fun e w' => e = .returned (.slice none 0 0) ∧ W = w' := by
  go_enter Try.func50, Try.ntmps50
  go_wp2_with fail
  go_ret
  exact ⟨rfl, rfl⟩
theorem make_desc0 (w : World) : ∃ w', (Instr.makeSlice 22 (.int .i64 0) (.int .i64 0)).run Try.prog w = .ok (.slice (some ⟨w.heap.size, 0, none⟩) 0 0) w' ∧ Below w.heap.size w w' := by
  obtain ⟨i, hi, hz, hs, hb⟩ := info_parts (show (Try.prog.info? 24).map (fun i => (i.zero, i.size, i.bytes)) = some (some (.agg #[.int .i64 0, .int .i64 0, .slice none 0 0]), 3, 40) by kernel_rfl)
  have := run_make w 22 24 i _ Try.underlying22 hi hz .i64 .i64 0 0 (by omega) (by omega) (by omega) (by omega)
  exact ⟨_, this, (Below.refl _ _).alloc (Nat.le_refl _) _⟩
theorem row_setCell3 {w : World} {g o : Nat} {cs : Array Value} {T : TypeId} {fr : Nat × Nat} (h : w.heap[g]? = some (.cells cs T fr)) (v : Value) : (w.setCell ⟨g, o, none⟩ v).heap[g]? = some (.cells (cs.setIfInBounds o v) T fr) := by
  simp [World.setCell, Array.getElem?_modify, h]
theorem row_cells3 {w : World} {g : Nat} {a b c : Value} {T : TypeId} (h : w.heap[g]? = some (.cells #[a, b, c] T (0, 0))) : w.cell? ⟨g, 0, none⟩ = some a ∧ w.cell? ⟨g, 1, none⟩ = some b ∧ w.cell? ⟨g, 2, none⟩ = some c ∧ w.frozen? ⟨g, 0, none⟩ = false ∧ w.frozen? ⟨g, 1, none⟩ = false ∧ w.frozen? ⟨g, 2, none⟩ = false :=
  ⟨by rw [cell_of_row _ _ _ _ _ _ h]; rfl, by rw [cell_of_row _ _ _ _ _ _ h]; rfl, by rw [cell_of_row _ _ _ _ _ _ h]; rfl, frozen_of_row _ _ _ _ _ h, frozen_of_row _ _ _ _ _ h, frozen_of_row _ _ _ _ _ h⟩
theorem clone_start (W : World) (a b c a' b' c' : Value) (T : TypeId) : ∃ w0 : World, w0 = (W.alloc (.cells #[a, b, c] T)).alloc (.cells #[a', b', c'] T) ∧ w0.heap[W.heap.size]? = some (.cells #[a, b, c] T (0, 0)) ∧ w0.heap[W.heap.size + 1]? = some (.cells #[a', b', c'] T (0, 0)) ∧ Below W.heap.size W w0 ∧ w0.heap.size = W.heap.size + 2 := by
  have h1 := heap_alloc_new W (.cells #[a, b, c] T)
  have h2 := heap_alloc_new (W.alloc (.cells #[a, b, c] T)) (.cells #[a', b', c'] T)
  simp only [World.size_alloc] at h2
  exact ⟨_, rfl, by rw [Below.heap_alloc _ _ _ (by simp)]; exact h1, h2, ((Below.refl _ _).alloc (Nat.le_refl _) _).alloc (by simp) _, by simp⟩
set_option maxRecDepth 100000 in
set_option maxHeartbeats 2000000 in
theorem desc_clone0 (k n : Int) (c : Nat) (p : Option Addr) (W : World) (hc2 : c ≤ 9223372036854775807) :
    Calls Try.prog 21 #[.agg #[.int .i64 k, .int .i64 n, .slice p 0 c]] W fun e w' => e = .returned (.agg #[.int .i64 k, .int .i64 n, .slice none 0 0]) ∧ Below W.heap.size W w' := by
  have ND := Lib.hid (fun w => desc_nodes0 k n c p w hc2)
  have CP := Lib.hid (fun q w => clone_part0 c p q w)
  obtain ⟨w0, hw0, r0, r1, hB, hs⟩ := clone_start W (.int .i64 k) (.int .i64 n) (.slice p 0 c) (.int .i64 0) (.int .i64 0) (.slice none 0 0) 24
  have l0 : W.heap.size < w0.heap.size := by omega
  have l1 : W.heap.size + 1 < w0.heap.size := by omega
  go_enter Try.func21, Try.ntmps21
  go_wp2_with fail
  rw [← hw0]
  clear hw0
  refine (ND.out _).mono ?_
  rintro e w1 ⟨rfl, b1⟩
  obtain ⟨w2, mk, b2⟩ := make_desc0 w1
  obtain ⟨w3, hw3⟩ : ∃ w3, w2.alloc (.cells #[.slice (some ⟨w1.heap.size, 0, none⟩) 0 0] 22) = w3 := ⟨_, rfl⟩
  have b3 : Below w1.heap.size w1 w3 := by rw [← hw3]; exact b2.alloc b2.size _
  have z0 : w3.cell? ⟨w2.heap.size, 0, none⟩ = some (.slice (some ⟨w1.heap.size, 0, none⟩) 0 0) := by
    have hn := heap_alloc_new w2 (.cells #[.slice (some ⟨w1.heap.size, 0, none⟩) 0 0] 22)
    rw [hw3] at hn
    rw [cell_of_row _ _ _ _ _ _ hn]; rfl
  have b4 := b1.trans (b3.mono b1.size)
  have s0 : w3.heap[W.heap.size]? = _ := (b4.block _ l0).trans r0
  have s1 : w3.heap[W.heap.size + 1]? = _ := (b4.block _ l1).trans r1
  have hB3 := hB.trans (b4.mono hB.size)
  have m0 := Nat.lt_of_lt_of_le l0 b4.size
  have m1 := Nat.lt_of_lt_of_le l1 b4.size
  have m2 := block_lt_of_cell z0
  have m3 : w2.heap.size ≠ W.heap.size := by have := b1.size; have := b2.size; omega
  have m4 : w2.heap.size ≠ W.heap.size + 1 := by have := b1.size; have := b2.size; omega
  clear b1 b2 b3 b4 r0 r1 hB l0 l1 hs
  obtain ⟨x0, x1, x2, f0, f1, f2⟩ := row_cells3 s0
  obtain ⟨y0, y1, y2, g0, g1, g2⟩ := row_cells3 s1
  go_wp2_with fail
  refine (CP.out _ _).mono ?_
  rintro e w4 ⟨rfl, rfl⟩
  obtain ⟨w5, hw5⟩ : ∃ w5, w3.setCell ⟨W.heap.size, 2, none⟩ (.slice none 0 0) = w5 := ⟨_, rfl⟩
  have q0 : w5.heap[W.heap.size]? = some (.cells #[.int .i64 k, .int .i64 n, .slice none 0 0] 24 (0, 0)) := by rw [← hw5, row_setCell3 s0]; rfl
  have q1 : w5.heap[W.heap.size + 1]? = some (.cells #[.int .i64 0, .int .i64 0, .slice none 0 0] 24 (0, 0)) := by rw [← hw5, Below.heap_setCell _ _ _ _ (by show W.heap.size + 1 ≠ W.heap.size; omega)]; exact s1
  have q2 : w5.cell? ⟨w2.heap.size, 0, none⟩ = some (.slice (some ⟨w1.heap.size, 0, none⟩) 0 0) := by rw [← hw5, World.cell?_setCell_far _ _ _ _ (by show W.heap.size ≠ w2.heap.size; omega)]; exact z0
  have hB5 : Below W.heap.size W w5 := by rw [← hw5]; exact hB3.setCell (Nat.le_refl _) _
  have HR := Lib.hid (show (((w5.setCell ⟨W.heap.size + 1, 0, none⟩ (.int .i64 k)).setCell ⟨W.heap.size + 1, 1, none⟩ (.int .i64 n)).setCell ⟨W.heap.size + 1, 2, none⟩ (.slice none 0 0)).heap[W.heap.size + 1]? = some (.cells #[.int .i64 k, .int .i64 n, .slice none 0 0] 24 (0, 0)) by rw [row_setCell3 (row_setCell3 (row_setCell3 q1 _) _) _]; rfl)
  have HB := Lib.hid (((hB5.setCell (p := ⟨W.heap.size + 1, 0, none⟩) (show W.heap.size ≤ W.heap.size + 1 by omega) (.int .i64 k)).setCell (p := ⟨W.heap.size + 1, 1, none⟩) (show W.heap.size ≤ W.heap.size + 1 by omega) (.int .i64 n)).setCell (p := ⟨W.heap.size + 1, 2, none⟩) (show W.heap.size ≤ W.heap.size + 1 by omega) (.slice none 0 0))
  go_wp2_with fail
  clear x0 x1 x2 f0 f1 f2 y0 y1 y2 g0 g1 g2 hw5 hw3 s0 s1 z0 mk hB3 hB5
  obtain ⟨x0, x1, x2, f0, f1, f2⟩ := row_cells3 q0
  obtain ⟨y0, y1, y2, g0, g1, g2⟩ := row_cells3 q1
  go_loopw [5] (fun x wr => x = .int .i64 0 ∧ w5 = wr) (fun _ _ => 0)
  case atStart => exact ⟨rfl, rfl⟩
  case round =>
    obtain ⟨rfl, rfl⟩ := hrel
    go_wp2_with fail
    refine bodyPost_ret (results_cell_row (p := 2) (ty := 24) rfl _ _ _ 24 #[.int .i64 k, .int .i64 n, .slice none 0 0] (0, 0) _ rfl HR.out Try.underlying24 rfl (by kernel_rfl)) rfl ⟨rfl, HB.out⟩
end Go.Proofs.Ytfjioflggkmhcaa
