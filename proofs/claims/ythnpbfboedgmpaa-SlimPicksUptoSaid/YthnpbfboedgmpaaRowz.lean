/- Rows that a call makes and fills place by place. -/
import Derived.Test.YthnpbfboedgmpaaBase
namespace Go.Proofs.Ythnpbfboedgmpaa
open Go.ChangeShapes Go.WideShapes Go.ChangeAt Go.RowKit
set_option linter.unusedVariables false

/-- A row of n places, of which the first k hold those of ys, the others nought. -/
def fill (ys : List Int) (k n : Nat) : Array Value := ((ys.take k ++ List.replicate (n - k) 0).map (Value.int .u64)).toArray
theorem fill_zero (ys : List Int) (n : Nat) : fill ys 0 n = Array.replicate n (.int .u64 0) := by
  unfold fill; simp
theorem fill_step (ys : List Int) (k n : Nat) (hk : k < n) (hn : ys.length = n) : (fill ys k n).setIfInBounds k (.int .u64 (ys.getD k 0)) = fill ys (k + 1) n := by
  have hky : k < ys.length := by omega
  have e : ys.getD k 0 = ys[k] := by simp [List.getD, hky]
  unfold fill
  rw [e, List.setIfInBounds_toArray]
  congr 1
  apply List.ext_getElem?
  intro i
  rw [List.getElem?_set]
  simp only [List.getElem?_map, List.getElem?_append, List.length_take, List.length_map, List.length_append, List.length_replicate, List.getElem?_take, List.getElem?_replicate]
  by_cases h1 : k = i
  · subst h1
    have h2 : k < min (k + 1) ys.length := by omega
    have h3 : k < min k ys.length + (n - k) := by omega
    simp [h2, h3, List.getElem?_eq_getElem hky]
  · by_cases h2 : i < k
    · have h3 : i < min k ys.length := by omega
      have h4 : i < min (k + 1) ys.length := by omega
      have h5 : i < k + 1 := by omega
      simp [h1, h2, h3, h4, h5]
    · have h3 : ¬ i < min k ys.length := by omega
      have h4 : ¬ i < min (k + 1) ys.length := by omega
      have e1 : min k ys.length = k := by omega
      have e2 : min (k + 1) ys.length = k + 1 := by omega
      simp only [h1, h3, h4, if_false, e1, e2]
      have h8 : ¬ i < k + 1 := by omega
      by_cases h5 : i < n
      · have h6 : i - k < n - k := by omega
        have h7 : i - (k + 1) < n - (k + 1) := by omega
        simp [h2, h8, h6, h7]
      · have h6 : ¬ i - k < n - k := by omega
        have h7 : ¬ i - (k + 1) < n - (k + 1) := by omega
        simp [h2, h8, h6, h7]
theorem fill_full (ys : List Int) (n : Nat) (hn : ys.length = n) : fill ys n n = (ys.map (Value.int .u64)).toArray := by
  unfold fill; rw [← hn]; simp
theorem fill_at (ys : List Int) (k n i : Nat) (hk : k ≤ n) (hi : i < n) (hn : ys.length = n) : ∃ v, (fill ys k n)[i]? = some v := by
  have : i < (fill ys k n).size := by unfold fill; simp; omega
  exact ⟨_, Array.getElem?_eq_getElem this⟩

/-- Block B holds the numbers ys, and no more. -/
def RowAt (w : World) (B : Nat) (T : TypeId) (ys : List Int) : Prop := w.heap[B]? = some (.cells ((ys.map (Value.int .u64)).toArray) T (0, 0))
theorem RowAt.lt {w : World} {B : Nat} {T : TypeId} {ys : List Int} (h : RowAt w B T ys) : B < w.heap.size := by
  unfold RowAt at h
  by_cases hlt : B < w.heap.size
  · exact hlt
  · have : w.heap[B]? = none := by simp; omega
    rw [this] at h; simp at h
theorem RowAt.reads {w : World} {B : Nat} {T : TypeId} {ys : List Int} (h : RowAt w B T ys) : Reads .u64 w (some ⟨B, 0, none⟩) ys :=
  .inr ⟨B, 0, rfl, h.lt, fun i hi => by
    rw [cell_of_row w B (0 + i) _ _ _ h]
    simp [List.getD, hi]⟩
theorem RowAt.below {w w' : World} {B : Nat} {T : TypeId} {ys : List Int} (h : RowAt w B T ys) (hb : Below w.heap.size w w') : RowAt w' B T ys := by
  unfold RowAt; rw [hb.block B h.lt]; exact h
theorem RowAt.alloc {w : World} {B : Nat} {T : TypeId} {ys : List Int} (h : RowAt w B T ys) (o : Obj) : RowAt (w.alloc o) B T ys := by
  unfold RowAt; rw [Below.heap_alloc w o B h.lt]; exact h

theorem made_cells (v : Value) (n : Nat) : madeCells #[v] n = Array.replicate n v := by
  unfold madeCells
  apply Array.ext
  · simp
  · intro i h1 h2
    simp [Nat.mod_one]

theorem info_u64 : (Try.prog.info? 66).map (fun i => (i.zero, i.size, i.bytes)) = some (some (.int .u64 0), 1, 8) := by kernel_rfl
theorem make_u64 (n : Nat) (hn : n ≤ 35184372088832) (w : World) :
    (Instr.makeSlice 48 (.int .i64 (n : Int)) (.int .i64 (n : Int))).run Try.prog w = .ok (.slice (some ⟨w.heap.size, 0, none⟩) n n) (w.alloc (.cells (Array.replicate n (.int .u64 0)) 66)) := by
  obtain ⟨i, hi, hz, hs, hb⟩ := info_parts info_u64
  rw [run_make w 48 66 i (.int .u64 0) Try.underlying48 hi hz .i64 .i64 (n : Int) (n : Int) (by omega) (by omega) (by rw [hb]; omega) (by omega), hs, Int.toNat_natCast, Nat.mul_one]
  rw [show (Value.int .u64 0).cells = #[.int .u64 0] from rfl, made_cells]

/-- A row that is being filled: block B. -/
def Filling (w : World) (B : Nat) (T : TypeId) (ys : List Int) (k n : Nat) : Prop := w.heap[B]? = some (.cells (fill ys k n) T (0, 0))
theorem Filling.lt {w : World} {B : Nat} {T : TypeId} {ys : List Int} {k n : Nat} (h : Filling w B T ys k n) : B < w.heap.size := by
  unfold Filling at h
  by_cases hlt : B < w.heap.size
  · exact hlt
  · have : w.heap[B]? = none := by simp; omega
    rw [this] at h; simp at h
theorem Filling.below {w w' : World} {B : Nat} {T : TypeId} {ys : List Int} {k n : Nat} (h : Filling w B T ys k n) (hb : Below w.heap.size w w') : Filling w' B T ys k n := by
  unfold Filling; rw [hb.block B h.lt]; exact h
theorem Filling.start (w : World) (T : TypeId) (ys : List Int) (n : Nat) : Filling (w.alloc (.cells (Array.replicate n (.int .u64 0)) T)) w.heap.size T ys 0 n := by
  unfold Filling; rw [heap_alloc_new, fill_zero]
theorem Filling.cell {w : World} {B : Nat} {T : TypeId} {ys : List Int} {k n : Nat} (h : Filling w B T ys k n) (hk : k < n) (hn : ys.length = n) : ∃ v, w.cell? ⟨B, k, none⟩ = some v := by
  obtain ⟨v, hv⟩ := fill_at ys k n k (by omega) hk hn
  exact ⟨v, by rw [cell_of_row w B k _ _ _ h]; exact hv⟩
theorem Filling.free {w : World} {B : Nat} {T : TypeId} {ys : List Int} {k n : Nat} (h : Filling w B T ys k n) (j : Nat) : w.frozen? ⟨B, j, none⟩ = false := frozen_of_row w B j _ _ h
theorem Filling.step {w : World} {B : Nat} {T : TypeId} {ys : List Int} {k n : Nat} (h : Filling w B T ys k n) (hk : k < n) (hn : ys.length = n) {y : Int} (hy : ys.getD k 0 = y) : Filling (w.setCell ⟨B, k, none⟩ (.int .u64 y)) B T ys (k + 1) n := by
  unfold Filling
  rw [heap_setCell_same w B k _ T _ h, ← hy, fill_step ys k n hk hn]
theorem Filling.done {w : World} {B : Nat} {T : TypeId} {ys : List Int} {n : Nat} (h : Filling w B T ys n n) (hn : ys.length = n) : RowAt w B T ys := by
  unfold Filling at h; unfold RowAt; rw [h, fill_full ys n hn]

/-- A row of n places that is filled in whatever order: what is done holds ys. -/
def pfill (ys : List Int) (d : Nat → Bool) (n : Nat) : Array Value := ((List.range n).map fun j => Value.int .u64 (if d j then ys.getD j 0 else 0)).toArray
theorem pfill_none (ys : List Int) (d : Nat → Bool) (n : Nat) (h : ∀ j, j < n → d j = false) : pfill ys d n = Array.replicate n (.int .u64 0) := by
  unfold pfill
  apply Array.ext
  · simp
  · intro i h1 h2
    have hi : i < n := by simpa using h2
    simp [h i hi]
theorem pfill_all (ys : List Int) (d : Nat → Bool) (n : Nat) (hn : ys.length = n) (h : ∀ j, j < n → d j = true) : pfill ys d n = (ys.map (Value.int .u64)).toArray := by
  unfold pfill
  congr 1
  apply List.ext_getElem
  · simp [hn]
  · intro i h1 h2
    have hi : i < n := by simpa using h1
    have hi' : i < ys.length := by omega
    simp [h i hi, List.getD, hi']
theorem pfill_set (ys : List Int) (d d' : Nat → Bool) (n i : Nat) (h : ∀ j, j < n → d' j = (d j || j == i)) : (pfill ys d n).setIfInBounds i (.int .u64 (ys.getD i 0)) = pfill ys d' n := by
  unfold pfill
  rw [List.setIfInBounds_toArray]
  congr 1
  apply List.ext_getElem?
  intro j
  rw [List.getElem?_set]
  simp only [List.length_map, List.length_range, List.getElem?_map]
  by_cases hij : i = j
  · subst hij
    by_cases hi : i < n
    · simp [hi, h i hi]
    · simp [hi]
  · by_cases hj : j < n
    · have : (j == i) = false := by simp; omega
      simp [hij, hj, h j hj, this]
    · simp [hij, hj]
theorem pfill_at (ys : List Int) (d : Nat → Bool) (n i : Nat) (hi : i < n) : ∃ v, (pfill ys d n)[i]? = some v := by
  have : i < (pfill ys d n).size := by unfold pfill; simp; omega
  exact ⟨_, Array.getElem?_eq_getElem this⟩

/-- Block B is such a row. -/
def PF (w : World) (B : Nat) (T : TypeId) (ys : List Int) (d : Nat → Bool) (n : Nat) : Prop := w.heap[B]? = some (.cells (pfill ys d n) T (0, 0))
theorem PF.lt {w : World} {B : Nat} {T : TypeId} {ys : List Int} {d : Nat → Bool} {n : Nat} (h : PF w B T ys d n) : B < w.heap.size := by
  unfold PF at h
  by_cases hlt : B < w.heap.size
  · exact hlt
  · have : w.heap[B]? = none := by simp; omega
    rw [this] at h; simp at h
theorem PF.below {w w' : World} {B : Nat} {T : TypeId} {ys : List Int} {d : Nat → Bool} {n : Nat} (h : PF w B T ys d n) (hb : Below w.heap.size w w') : PF w' B T ys d n := by
  unfold PF; rw [hb.block B h.lt]; exact h
theorem PF.start (w : World) (T : TypeId) (ys : List Int) (d : Nat → Bool) (n : Nat) (h : ∀ j, j < n → d j = false) : PF (w.alloc (.cells (Array.replicate n (.int .u64 0)) T)) w.heap.size T ys d n := by
  unfold PF; rw [heap_alloc_new, pfill_none ys d n h]
theorem PF.cell {w : World} {B : Nat} {T : TypeId} {ys : List Int} {d : Nat → Bool} {n : Nat} (h : PF w B T ys d n) {i : Nat} (hi : i < n) : ∃ v, w.cell? ⟨B, i, none⟩ = some v := by
  obtain ⟨v, hv⟩ := pfill_at ys d n i hi
  exact ⟨v, by rw [cell_of_row w B i _ _ _ h]; exact hv⟩
theorem PF.free {w : World} {B : Nat} {T : TypeId} {ys : List Int} {d : Nat → Bool} {n : Nat} (h : PF w B T ys d n) (j : Nat) : w.frozen? ⟨B, j, none⟩ = false := frozen_of_row w B j _ _ h
theorem PF.step {w : World} {B : Nat} {T : TypeId} {ys : List Int} {d d' : Nat → Bool} {n i : Nat} (h : PF w B T ys d n) (hd : ∀ j, j < n → d' j = (d j || j == i)) {y : Int} (hy : ys.getD i 0 = y) : PF (w.setCell ⟨B, i, none⟩ (.int .u64 y)) B T ys d' n := by
  unfold PF
  rw [heap_setCell_same w B i _ T _ h, ← hy, pfill_set ys d d' n i hd]
theorem PF.done {w : World} {B : Nat} {T : TypeId} {ys : List Int} {d : Nat → Bool} {n : Nat} (h : PF w B T ys d n) (hn : ys.length = n) (hd : ∀ j, j < n → d j = true) : RowAt w B T ys := by
  unfold PF at h; unfold RowAt; rw [h, pfill_all ys d n hn hd]

end Go.Proofs.Ythnpbfboedgmpaa
