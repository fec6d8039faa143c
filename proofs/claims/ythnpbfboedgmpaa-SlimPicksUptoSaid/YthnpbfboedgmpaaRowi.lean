/- Rows of ints that a call makes and fills place by place. -/
import Derived.Test.YthnpbfboedgmpaaBase
namespace Go.Proofs.Ythnpbfboedgmpaa
open Go.ChangeShapes Go.WideShapes Go.ChangeAt Go.RowKit
set_option linter.unusedVariables false

/-- A row of n places, of which the first k hold those of ys, the others nought. -/
def filli (ys : List Int) (k n : Nat) : Array Value := ((ys.take k ++ List.replicate (n - k) 0).map (Value.int .i64)).toArray
theorem filli_zero (ys : List Int) (n : Nat) : filli ys 0 n = Array.replicate n (.int .i64 0) := by
  unfold filli; simp
theorem filli_step (ys : List Int) (k n : Nat) (hk : k < n) (hn : ys.length = n) : (filli ys k n).setIfInBounds k (.int .i64 (ys.getD k 0)) = filli ys (k + 1) n := by
  have hky : k < ys.length := by omega
  have e : ys.getD k 0 = ys[k] := by simp [List.getD, hky]
  unfold filli
  rw [e, List.setIfInBounds_toArray]
  congr 1
  apply List.ext_getElem?
  intro i
  rw [List.getElem?_set]
  simp only [List.getElem?_map, List.getElem?_append, List.length_take, List.length_map, List.length_append, List.length_replicate, List.getElem?_take, List.getElem?_replicate]
  by_cases h1 : k = i
  · subst h1
    have h2 : k < min (k + 1) ys.length := by omega
    have h3 : k < min k ys.length + (n - k) := by omega
    simp [h2, h3, List.getElem?_eq_getElem hky]
  · by_cases h2 : i < k
    · have h3 : i < min k ys.length := by omega
      have h4 : i < min (k + 1) ys.length := by omega
      have h5 : i < k + 1 := by omega
      simp [h1, h2, h3, h4, h5]
    · have h3 : ¬ i < min k ys.length := by omega
      have h4 : ¬ i < min (k + 1) ys.length := by omega
      have e1 : min k ys.length = k := by omega
      have e2 : min (k + 1) ys.length = k + 1 := by omega
      simp only [h1, h3, h4, if_false, e1, e2]
      have h8 : ¬ i < k + 1 := by omega
      by_cases h5 : i < n
      · have h6 : i - k < n - k := by omega
        have h7 : i - (k + 1) < n - (k + 1) := by omega
        simp [h2, h8, h6, h7]
      · have h6 : ¬ i - k < n - k := by omega
        have h7 : ¬ i - (k + 1) < n - (k + 1) := by omega
        simp [h2, h8, h6, h7]
theorem filli_full (ys : List Int) (n : Nat) (hn : ys.length = n) : filli ys n n = (ys.map (Value.int .i64)).toArray := by
  unfold filli; rw [← hn]; simp
theorem filli_at (ys : List Int) (k n i : Nat) (hk : k ≤ n) (hi : i < n) (hn : ys.length = n) : ∃ v, (filli ys k n)[i]? = some v := by
  have : i < (filli ys k n).size := by unfold filli; simp; omega
  exact ⟨_, Array.getElem?_eq_getElem this⟩

/-- Block B holds the numbers ys, and no more. -/
def RowAtI (w : World) (B : Nat) (T : TypeId) (ys : List Int) : Prop := w.heap[B]? = some (.cells ((ys.map (Value.int .i64)).toArray) T (0, 0))
theorem RowAtI.lt {w : World} {B : Nat} {T : TypeId} {ys : List Int} (h : RowAtI w B T ys) : B < w.heap.size := by
  unfold RowAtI at h
  by_cases hlt : B < w.heap.size
  · exact hlt
  · have : w.heap[B]? = none := by simp; omega
    rw [this] at h; simp at h
theorem RowAtI.reads {w : World} {B : Nat} {T : TypeId} {ys : List Int} (h : RowAtI w B T ys) : Reads .i64 w (some ⟨B, 0, none⟩) ys :=
  .inr ⟨B, 0, rfl, h.lt, fun i hi => by
    rw [cell_of_row w B (0 + i) _ _ _ h]
    simp [List.getD, hi]⟩
theorem RowAtI.below {w w' : World} {B : Nat} {T : TypeId} {ys : List Int} (h : RowAtI w B T ys) (hb : Below w.heap.size w w') : RowAtI w' B T ys := by
  unfold RowAtI; rw [hb.block B h.lt]; exact h
theorem RowAtI.alloc {w : World} {B : Nat} {T : TypeId} {ys : List Int} (h : RowAtI w B T ys) (o : Obj) : RowAtI (w.alloc o) B T ys := by
  unfold RowAtI; rw [Below.heap_alloc w o B h.lt]; exact h

theorem made_cells_i (v : Value) (n : Nat) : madeCells #[v] n = Array.replicate n v := by
  unfold madeCells
  apply Array.ext
  · simp
  · intro i h1 h2
    simp [Nat.mod_one]

theorem info_i64 : (Try.prog.info? 3).map (fun i => (i.zero, i.size, i.bytes)) = some (some (.int .i64 0), 1, 8) := by kernel_rfl
theorem make_i64 (n : Nat) (hn : n ≤ 35184372088832) (w : World) :
    (Instr.makeSlice 23 (.int .i64 (n : Int)) (.int .i64 (n : Int))).run Try.prog w = .ok (.slice (some ⟨w.heap.size, 0, none⟩) n n) (w.alloc (.cells (Array.replicate n (.int .i64 0)) 3)) := by
  obtain ⟨i, hi, hz, hs, hb⟩ := info_parts info_i64
  rw [run_make w 23 3 i (.int .i64 0) Try.underlying23 hi hz .i64 .i64 (n : Int) (n : Int) (by omega) (by omega) (by rw [hb]; omega) (by omega), hs, Int.toNat_natCast, Nat.mul_one]
  rw [show (Value.int .i64 0).cells = #[.int .i64 0] from rfl, made_cells_i]

/-- A row that is being filled: block B. -/
def FillingI (w : World) (B : Nat) (T : TypeId) (ys : List Int) (k n : Nat) : Prop := w.heap[B]? = some (.cells (filli ys k n) T (0, 0))
theorem FillingI.lt {w : World} {B : Nat} {T : TypeId} {ys : List Int} {k n : Nat} (h : FillingI w B T ys k n) : B < w.heap.size := by
  unfold FillingI at h
  by_cases hlt : B < w.heap.size
  · exact hlt
  · have : w.heap[B]? = none := by simp; omega
    rw [this] at h; simp at h
theorem FillingI.below {w w' : World} {B : Nat} {T : TypeId} {ys : List Int} {k n : Nat} (h : FillingI w B T ys k n) (hb : Below w.heap.size w w') : FillingI w' B T ys k n := by
  unfold FillingI; rw [hb.block B h.lt]; exact h
theorem FillingI.start (w : World) (T : TypeId) (ys : List Int) (n : Nat) : FillingI (w.alloc (.cells (Array.replicate n (.int .i64 0)) T)) w.heap.size T ys 0 n := by
  unfold FillingI; rw [heap_alloc_new, filli_zero]
theorem FillingI.cell {w : World} {B : Nat} {T : TypeId} {ys : List Int} {k n : Nat} (h : FillingI w B T ys k n) (hk : k < n) (hn : ys.length = n) : ∃ v, w.cell? ⟨B, k, none⟩ = some v := by
  obtain ⟨v, hv⟩ := filli_at ys k n k (by omega) hk hn
  exact ⟨v, by rw [cell_of_row w B k _ _ _ h]; exact hv⟩
theorem FillingI.free {w : World} {B : Nat} {T : TypeId} {ys : List Int} {k n : Nat} (h : FillingI w B T ys k n) (j : Nat) : w.frozen? ⟨B, j, none⟩ = false := frozen_of_row w B j _ _ h
theorem FillingI.step {w : World} {B : Nat} {T : TypeId} {ys : List Int} {k n : Nat} (h : FillingI w B T ys k n) (hk : k < n) (hn : ys.length = n) {y : Int} (hy : ys.getD k 0 = y) : FillingI (w.setCell ⟨B, k, none⟩ (.int .i64 y)) B T ys (k + 1) n := by
  unfold FillingI
  rw [heap_setCell_same w B k _ T _ h, ← hy, filli_step ys k n hk hn]
theorem FillingI.done {w : World} {B : Nat} {T : TypeId} {ys : List Int} {n : Nat} (h : FillingI w B T ys n n) (hn : ys.length = n) : RowAtI w B T ys := by
  unfold FillingI at h; unfold RowAtI; rw [h, filli_full ys n hn]


end Go.Proofs.Ythnpbfboedgmpaa
