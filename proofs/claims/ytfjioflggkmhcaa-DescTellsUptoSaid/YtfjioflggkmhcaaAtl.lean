/- package desc's At of one step to a leaf; the live example of layer 13. -/
import Derived.Test.YtfjioflggkmhcaaClonel
import Derived.BigRegion
import Derived.Deep.DeepCutAuto
namespace Go.Proofs.Ytfjioflggkmhcaa
open Go.ChangeShapes Go.WideShapes Go.ChangeAt Go.RowKit
set_option linter.unusedVariables false
theorem results_cell_tmp {P : Program} {fn : Func} {p a : Tmp} {ty : TypeId} (h : fn.results = #[.cell p ty, .tmp a]) (tmps : Array Value) (w : World) (g : Nat) (t : TypeId) (cs : Array Value) (fr : Nat × Nat) (d : TypeDesc) (x : Value)
    (hp : tmps.getD p undef = .pointer (some ⟨g, 0, none⟩)) (ha : tmps.getD a undef = x) (hg : w.heap[g]? = some (.cells cs t fr))
    (hu : P.underlying ty = some d) (hd : (match d with | .struct _ | .array _ _ => true | _ => false) = true) (hi : (P.info? ty).map (·.size) = some cs.size) :
    (results fn tmps).run P w = .ok (.tuple #[.agg cs, x]) w := by
  have e : tmps[p]?.getD undef = .pointer (some ⟨g, 0, none⟩) := by simpa using hp
  have ea : tmps[a]?.getD undef = x := by simpa using ha
  simp [results, h, e, ea, asAddr, run_loadVar_row w g t ty cs fr d hg hu hd hi]
set_option maxRecDepth 100000 in
set_option maxHeartbeats 2000000 in
theorem desc_at1 (k n : Int) (c lim B : Nat) (p : Option Addr) (f : Fo) (W : World) (hK : Kids W lim (.slice p 2 c) f) (hl : lim ≤ W.heap.size) (h1 : (f.kids 1).len = 0) (hB1 : W.cell? ⟨B, 0, none⟩ = some (.int .i64 1)) :
    Calls Try.prog 25 #[.agg #[.int .i64 k, .int .i64 n, .slice p 2 c], .slice (some ⟨B, 0, none⟩) 1 1] W fun e w' => e = .returned (.tuple #[.agg #[.int .i64 (f.k 1), .int .i64 (f.n 1), .slice none 0 0], .bool true]) ∧ Below W.heap.size W w' := by
  obtain ⟨w0, hw0, r0, r1, hB, hs⟩ := clone_start W (.int .i64 k) (.int .i64 n) (.slice p 2 c) (.int .i64 0) (.int .i64 0) (.slice none 0 0) 24
  have lB := block_lt_of_cell hB1
  have hK0 := (hK.mono hl).below (Nat.le_refl _) hB
  obtain ⟨b, o, v, rfl, hb, k0, k1, k2, hKi⟩ := hK0.get (i := 1) (by omega)
  obtain ⟨a', c', rfl, hc1, hc2⟩ := hKi.form
  rw [h1] at k2
  have hc3 : c' ≤ 9223372036854775807 := by unfold maxLen at hc2; omega
  have p0 := (hB.cell (p := ⟨B, 0, none⟩) lB).trans hB1
  generalize f.k 1 = kk at *
  generalize f.n 1 = nn at *
  have CL := Lib.hid (fun w => desc_clone0 kk nn c' a' w hc3)
  have l0 : W.heap.size < w0.heap.size := by omega
  have l1 : W.heap.size + 1 < w0.heap.size := by omega
  obtain ⟨w5, hw5⟩ : ∃ w5, ((w0.setCell ⟨W.heap.size, 0, none⟩ (.int .i64 kk)).setCell ⟨W.heap.size, 1, none⟩ (.int .i64 nn)).setCell ⟨W.heap.size, 2, none⟩ (.slice a' 0 c') = w5 := ⟨_, rfl⟩
  have q0 : w5.heap[W.heap.size]? = some (.cells #[.int .i64 kk, .int .i64 nn, .slice a' 0 c'] 24 (0, 0)) := by rw [← hw5, row_setCell3 (row_setCell3 (row_setCell3 r0 _) _) _]; rfl
  have hne : W.heap.size + 1 ≠ W.heap.size := by omega
  have q1 : w5.heap[W.heap.size + 1]? = some (.cells #[.int .i64 0, .int .i64 0, .slice none 0 0] 24 (0, 0)) := by rw [← hw5, Below.heap_setCell _ _ _ _ hne, Below.heap_setCell _ _ _ _ hne, Below.heap_setCell _ _ _ _ hne]; exact r1
  have hB5 : Below W.heap.size W w5 := by rw [← hw5]; exact ((hB.setCell (Nat.le_refl _) _).setCell (Nat.le_refl _) _).setCell (Nat.le_refl _) _
  clear hK hK0 hKi h1 hs r1 hc1 hc2
  go_enter Try.func25, Try.ntmps25
  go_wp2_with fail
  rw [← hw0]
  clear hw0
  obtain ⟨x0, x1, x2, f0, f1, f2⟩ := row_cells3 r0
  go_loopw [10] (fun x wr => (x = .int .i64 0 ∧ w0 = wr) ∨ (x = .int .i64 1 ∧ w5 = wr)) (fun x _ => (1 - intOf x).toNat)
  case atStart => exact .inl ⟨rfl, rfl⟩
  case round =>
    obtain ⟨rfl, rfl⟩ | ⟨rfl, rfl⟩ := hrel
    · go_wp2_with fail
      go_roundw
      case rel => exact .inr ⟨rfl, trivial⟩
      case measure => decide
    · clear x0 x1 x2 f0 f1 f2 hw5 p0 k0 k1 k2
      obtain ⟨x0, x1, x2, f0, f1, f2⟩ := row_cells3 q0
      go_wp2_with fail
      refine (CL.out _).mono ?_
      rintro e w6 ⟨rfl, b6⟩
      have s1 : w6.heap[W.heap.size + 1]? = some (.cells #[.int .i64 0, .int .i64 0, .slice none 0 0] 24 (0, 0)) := (b6.block _ (Array.getElem?_eq_some_iff.1 q1).1).trans q1
      have hB6 := hB5.trans (b6.mono hB5.size)
      clear x0 x1 x2 f0 f1 f2 b6 hB5 q1 q0
      obtain ⟨y0, y1, y2, g0, g1, g2⟩ := row_cells3 s1
      have HR := Lib.hid (show (((w6.setCell ⟨W.heap.size + 1, 0, none⟩ (.int .i64 kk)).setCell ⟨W.heap.size + 1, 1, none⟩ (.int .i64 nn)).setCell ⟨W.heap.size + 1, 2, none⟩ (.slice none 0 0)).heap[W.heap.size + 1]? = some (.cells #[.int .i64 kk, .int .i64 nn, .slice none 0 0] 24 (0, 0)) by rw [row_setCell3 (row_setCell3 (row_setCell3 s1 _) _) _]; rfl)
      have HB := Lib.hid (((hB6.setCell (p := ⟨W.heap.size + 1, 0, none⟩) (show W.heap.size ≤ W.heap.size + 1 by omega) (.int .i64 kk)).setCell (p := ⟨W.heap.size + 1, 1, none⟩) (show W.heap.size ≤ W.heap.size + 1 by omega) (.int .i64 nn)).setCell (p := ⟨W.heap.size + 1, 2, none⟩) (show W.heap.size ≤ W.heap.size + 1 by omega) (.slice none 0 0))
      clear s1 hB6
      go_wp2_with fail
      refine bodyPost_ret (results_cell_tmp (p := 4) (a := 5) (ty := 24) rfl _ _ _ 24 #[.int .i64 kk, .int .i64 nn, .slice none 0 0] (0, 0) _ (.bool true) rfl rfl HR.out Try.underlying24 rfl (by kernel_rfl)) rfl ?_
      exact ⟨rfl, HB.out⟩
def f13 : Fo := .cons 2 2 .nil (.cons 2 3 .nil .nil)
theorem start13 (W : World) : ∃ w0 : World, ((W.alloc (.cells #[.int .i64 2, .int .i64 2, .slice none 0 0, .int .i64 2, .int .i64 3, .slice none 0 0] 24)).alloc (.cells #[.int .i64 4, .int .i64 6, .slice (some ⟨W.heap.size, 0, none⟩) 2 2] 24)).alloc (.cells #[.int .i64 1] 3) = w0 ∧ Kids w0 (W.heap.size + 1) (.slice (some ⟨W.heap.size, 0, none⟩) 2 2) f13 ∧ w0.heap[W.heap.size + 1]? = some (.cells #[.int .i64 4, .int .i64 6, .slice (some ⟨W.heap.size, 0, none⟩) 2 2] 24 (0, 0)) ∧ w0.cell? ⟨W.heap.size + 1 + 1, 0, none⟩ = some (.int .i64 1) ∧ Below W.heap.size W w0 ∧ w0.heap.size = W.heap.size + 3 := by
  have h1 := heap_alloc_new W (.cells #[.int .i64 2, .int .i64 2, .slice none 0 0, .int .i64 2, .int .i64 3, .slice none 0 0] 24)
  have h2 := heap_alloc_new (W.alloc (.cells #[.int .i64 2, .int .i64 2, .slice none 0 0, .int .i64 2, .int .i64 3, .slice none 0 0] 24)) (.cells #[.int .i64 4, .int .i64 6, .slice (some ⟨W.heap.size, 0, none⟩) 2 2] 24)
  have h3 := heap_alloc_new ((W.alloc (.cells #[.int .i64 2, .int .i64 2, .slice none 0 0, .int .i64 2, .int .i64 3, .slice none 0 0] 24)).alloc (.cells #[.int .i64 4, .int .i64 6, .slice (some ⟨W.heap.size, 0, none⟩) 2 2] 24)) (.cells #[.int .i64 1] 3)
  simp only [World.size_alloc] at h2 h3
  obtain ⟨w0, hw0⟩ : ∃ w0, ((W.alloc (.cells #[.int .i64 2, .int .i64 2, .slice none 0 0, .int .i64 2, .int .i64 3, .slice none 0 0] 24)).alloc (.cells #[.int .i64 4, .int .i64 6, .slice (some ⟨W.heap.size, 0, none⟩) 2 2] 24)).alloc (.cells #[.int .i64 1] 3) = w0 := ⟨_, rfl⟩
  have g1 : w0.heap[W.heap.size]? = some (.cells #[.int .i64 2, .int .i64 2, .slice none 0 0, .int .i64 2, .int .i64 3, .slice none 0 0] 24 (0, 0)) := by rw [← hw0, Below.heap_alloc _ _ _ (by simp; omega), Below.heap_alloc _ _ _ (by simp)]; exact h1
  have g2 : w0.heap[W.heap.size + 1]? = some (.cells #[.int .i64 4, .int .i64 6, .slice (some ⟨W.heap.size, 0, none⟩) 2 2] 24 (0, 0)) := by rw [← hw0, Below.heap_alloc _ _ _ (by simp)]; exact h2
  have g3 : w0.heap[W.heap.size + 1 + 1]? = some (.cells #[.int .i64 1] 3 (0, 0)) := by rw [← hw0]; exact h3
  have hB : Below W.heap.size W w0 := by rw [← hw0]; exact (((Below.refl _ _).alloc (Nat.le_refl _) _).alloc (by simp) _).alloc (by simp; omega) _
  have hs : w0.heap.size = W.heap.size + 3 := by rw [← hw0]; simp
  have cc := fun j => cell_of_row _ _ j _ _ _ g1
  refine ⟨w0, hw0, Kids.of2 (by omega) (by rw [cc 0]; rfl) (by rw [cc 1]; rfl) (by rw [cc 2]; rfl) (Kids.nought _ _) (by rw [cc 3]; rfl) (by rw [cc 4]; rfl) (by rw [cc 5]; rfl) (Kids.nought _ _) (by omega) (by omega), g2, by rw [cell_of_row _ _ _ _ _ _ g3]; rfl, hB, hs⟩
theorem live13 (W : World) : Calls Try.prog 14 #[] W fun e w' => e = .returned (.bool true) ∧ Below W.heap.size W w' := by
  obtain ⟨w0, hw0, hK, hr, hc, hB, hs⟩ := start13 W
  have AT := Lib.hid (show Calls Try.prog 25 #[.agg #[.int .i64 4, .int .i64 6, .slice (some ⟨W.heap.size, 0, none⟩) 2 2], .slice (some ⟨W.heap.size + 1 + 1, 0, none⟩) 1 1] w0 fun e w' => e = .returned (.tuple #[.agg #[.int .i64 2, .int .i64 3, .slice none 0 0], .bool true]) ∧ Below w0.heap.size w0 w' from desc_at1 4 6 2 (W.heap.size + 1) (W.heap.size + 1 + 1) _ f13 w0 hK (by omega) rfl hc)
  have lk : W.heap.size + 1 < w0.heap.size := by omega
  have ND := Lib.hid (fun w (hb : Below w0.heap.size w0 w) => (show Calls Try.prog 17 #[.agg #[.int .i64 4, .int .i64 6, .slice (some ⟨W.heap.size, 0, none⟩) 2 2]] w fun e w' => e = .returned (.int .i64 3) ∧ Below w.heap.size w w' from desc_nodes1 4 6 2 2 (W.heap.size + 1) _ f13 w (fun i h => by rcases (show i = 0 ∨ i = 1 by omega) with rfl | rfl <;> rfl) (Nat.le_refl _) (by omega) (hK.carry (hb.mono (by omega))) (by have := hb.size; omega) (by omega)))
  have DP := Lib.hid (fun w (hb : Below w0.heap.size w0 w) => (show Calls Try.prog 18 #[.agg #[.int .i64 4, .int .i64 6, .slice (some ⟨W.heap.size, 0, none⟩) 2 2]] w fun e w' => e = .returned (.int .i64 2) ∧ Below w.heap.size w w' from desc_depth 2 f13 _ 4 6 (W.heap.size + 1) w (by decide) (by omega) (hK.carry (hb.mono (by omega))) (by have := hb.size; omega)))
  obtain ⟨x0, x1, x2, _, _, _⟩ := row_cells3 hr
  have MK := Lib.hid (fun w (hb : Below w0.heap.size w0 w) => (show w.cell? ⟨W.heap.size + 1, 0, none⟩ = some (.int .i64 4) ∧ w.cell? ⟨W.heap.size + 1, 1, none⟩ = some (.int .i64 6) ∧ w.cell? ⟨W.heap.size + 1, 2, none⟩ = some (.slice (some ⟨W.heap.size, 0, none⟩) 2 2) from ⟨(hb.cell (p := ⟨W.heap.size + 1, 0, none⟩) lk).trans x0, (hb.cell (p := ⟨W.heap.size + 1, 1, none⟩) lk).trans x1, (hb.cell (p := ⟨W.heap.size + 1, 2, none⟩) lk).trans x2⟩))
  clear x0 x1 x2 hr hc hK hs
  go_enter Try.func14, Try.ntmps14
  go_wp2_with fail
  refine AT.out.mono ?_
  rintro e w1 ⟨rfl, b1⟩
  obtain ⟨w2, hw2, y0, y1, y2, b2, s2⟩ := box3 w1 2 3 (.slice none 0 0) 24
  have HW2 := Lib.hid hw2
  clear hw2
  have b2 := b1.trans (b2.mono b1.size)
  have ly : w1.heap.size < w2.heap.size := by omega
  obtain ⟨x0, x1, x2⟩ := MK.out _ b2
  clear b1 s2
  go_upto_region 3 with fail
  rw [← HW2.out]
  clear HW2 hw0
  go_wp2_with fail
  refine (ND.out _ b2).mono ?_
  rintro e w3 ⟨rfl, b3⟩
  have b4 := b2.trans (b3.mono b2.size)
  have y1 := (b3.cell (p := ⟨w1.heap.size, 1, none⟩) ly).trans y1
  have ly := Nat.lt_of_lt_of_le ly b3.size
  obtain ⟨x0, x1, x2⟩ := MK.out _ b4
  clear b3 b2
  go_wp2_with fail
  refine (DP.out _ b4).mono ?_
  rintro e w4 ⟨rfl, b5⟩
  have b6 := b4.trans (b5.mono b4.size)
  have y1 := (b5.cell (p := ⟨w1.heap.size, 1, none⟩) ly).trans y1
  clear b5 b4
  go_wp2_with fail
  go_ret
  exact ⟨rfl, hB.trans (b6.mono hB.size)⟩
end Go.Proofs.Ytfjioflggkmhcaa
