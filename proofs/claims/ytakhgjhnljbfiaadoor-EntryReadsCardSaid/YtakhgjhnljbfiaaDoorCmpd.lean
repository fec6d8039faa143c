/- How two trees stand: package desc's Cmp and Same. -/
import Derived.Test.YtakhgjhnljbfiaaDoorCmpt
namespace Go.Proofs.YtakhgjhnljbfiaaDoor
open Go.ChangeShapes Go.WideShapes Go.ChangeAt Go.RowKit
set_option linter.unusedVariables false
theorem row3_lies (w : World) (T : TypeId) (a b c : Int) (ha : (Lit.int .i64 a).wf = true) (hb : (Lit.int .i64 b).wf = true) (hc : (Lit.int .i64 c).wf = true) :
    RowI (w.alloc (.cells #[.int .i64 a, .int .i64 b, .int .i64 c] T)) (some ⟨w.heap.size, 0, none⟩) 3 [a, b, c] := by
  refine ⟨rfl, .inr ⟨w.heap.size, 0, rfl, by simp, fun i hi => ?_⟩, fun z hz => ?_, by omega⟩
  · rw [cell_of_row _ _ _ _ _ _ (heap_alloc_new w _)]
    have : i = 0 ∨ i = 1 ∨ i = 2 := by simp at hi; omega
    rcases this with rfl | rfl | rfl <;> rfl
  · simp only [List.mem_cons, List.not_mem_nil, or_false] at hz
    rcases hz with rfl | rfl | rfl <;> assumption
/-- Two blocks of three cells, one behind the other. -/
theorem two3 (W : World) (k n k' n' : Int) (v v' : Value) (T : TypeId) : ∃ w2 : World, w2 = (W.alloc (.cells #[.int .i64 k, .int .i64 n, v] T)).alloc (.cells #[.int .i64 k', .int .i64 n', v'] T) ∧
    (w2.cell? ⟨W.heap.size, 0, none⟩ = some (.int .i64 k) ∧ w2.cell? ⟨W.heap.size, 1, none⟩ = some (.int .i64 n) ∧ w2.cell? ⟨W.heap.size, 2, none⟩ = some v) ∧
    (w2.cell? ⟨W.heap.size + 1, 0, none⟩ = some (.int .i64 k') ∧ w2.cell? ⟨W.heap.size + 1, 1, none⟩ = some (.int .i64 n') ∧ w2.cell? ⟨W.heap.size + 1, 2, none⟩ = some v') ∧ Below W.heap.size W w2 ∧ w2.heap.size = W.heap.size + 2 := by
  obtain ⟨w1, h1, a0, a1, a2, b1, s1⟩ := box3 W k n v T
  obtain ⟨w2, h2, c0, c1, c2, b2, s2⟩ := box3 w1 k' n' v' T
  have lt : W.heap.size < w1.heap.size := by omega
  rw [s1] at c0 c1 c2
  refine ⟨w2, by rw [h2, h1], ⟨?_, ?_, ?_⟩, ⟨c0, c1, c2⟩, b1.trans (b2.mono b1.size), by omega⟩
  · exact (b2.cell (p := ⟨W.heap.size, 0, none⟩) lt).trans a0
  · exact (b2.cell (p := ⟨W.heap.size, 1, none⟩) lt).trans a1
  · exact (b2.cell (p := ⟨W.heap.size, 2, none⟩) lt).trans a2
theorem cmp3_zero {x y : Int} (h : cmp3 x y = 0) : x = y := by unfold cmp3 at h; split at h; · cases h
                                                               · split at h; · cases h
                                                                 · omega
theorem cmpN_part (k n : Int) (ks : Fo) (k' n' : Int) (ks' : Fo) : cmpN k n ks k' n' ks' = if fz [cmp3 k k', cmp3 n n', cmp3 (ks.len : Int) (ks'.len : Int)] = 0 then ks.cmpF ks' else fz [cmp3 k k', cmp3 n n', cmp3 (ks.len : Int) (ks'.len : Int)] := by
  unfold cmpN
  simp only [fz_cons]
  generalize cmp3 k k' = x1
  generalize cmp3 n n' = x2
  generalize cmp3 (ks.len : Int) (ks'.len : Int) = x3
  generalize ks.cmpF ks' = x4
  unfold fz
  by_cases h1 : x1 = 0 <;> by_cases h2 : x2 = 0 <;> by_cases h3 : x3 = 0 <;> by_cases h4 : x4 = 0 <;> simp [h1, h2, h3, h4]
theorem fz3_zero {k k' n n' m m' : Int} (h : fz [cmp3 k k', cmp3 n n', cmp3 m m'] = 0) : m = m' := by
  simp only [fz_cons] at h
  unfold fz at h
  split at h
  · split at h
    · split at h
      · rename_i h3; exact cmp3_zero h3
      · exact absurd h (by assumption)
    · exact absurd h (by assumption)
  · exact absurd h (by assumption)
end Go.Proofs.YtakhgjhnljbfiaaDoor
