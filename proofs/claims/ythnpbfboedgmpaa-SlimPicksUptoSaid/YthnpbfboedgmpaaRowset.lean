/- Rows of ints: as they are read, and written in place. -/
import Derived.Test.YthnpbfboedgmpaaOwni
namespace Go.Proofs.Ythnpbfboedgmpaa
open Go.ChangeShapes Go.WideShapes Go.ChangeAt Go.RowKit
set_option linter.unusedVariables false
/-- What a slice of ints is: what it reads as, that each is in order, how many. -/
structure RowI (w : World) (a : Option Addr) (n : Nat) (xs : List Int) : Prop where
  len : xs.length = n
  reads : Reads .i64 w a xs
  wf : ∀ x ∈ xs, (Lit.int .i64 x).wf = true
  small : n ≤ 17592186044415
theorem readsI_below {k : IntKind} {w w' : World} {a : Option Addr} {xs : List Int} (h : Reads k w a xs) (hb : Below w.heap.size w w') : Reads k w' a xs := by
  rcases h with h | ⟨b, off, rfl, hlt, hc⟩
  · exact .inl h
  · exact .inr ⟨b, off, rfl, by have := hb.size; omega, fun i hi => by rw [hb.cell (p := ⟨b, off + i, none⟩) hlt]; exact hc i hi⟩
theorem RowI.below {w w' : World} {a : Option Addr} {n : Nat} {xs : List Int} (h : RowI w a n xs) (hb : Below w.heap.size w w') : RowI w' a n xs := ⟨h.len, readsI_below h.reads hb, h.wf, h.small⟩
theorem RowI.alloc {w : World} {a : Option Addr} {n : Nat} {xs : List Int} (h : RowI w a n xs) (o : Obj) : RowI (w.alloc o) a n xs := h.below ((Below.refl _ _).alloc (Nat.le_refl _) o)
theorem RowI.bd {w : World} {a : Option Addr} {n : Nat} {xs : List Int} (h : RowI w a n xs) {k : Nat} (hk : k < n) : -9223372036854775808 ≤ xs.getD k 0 ∧ xs.getD k 0 ≤ 9223372036854775807 := by
  have hl := h.len
  have e : xs.getD k 0 = xs[k]'(by omega) := by simp [List.getD, show k < xs.length by omega]
  rw [e]; exact bounds_i64 (h.wf _ (List.getElem_mem _))
theorem RowI.cell {w : World} {a : Option Addr} {n : Nat} {xs : List Int} (h : RowI w a n xs) {k : Nat} (hk : k < n) : ∃ b off, a = some ⟨b, off, none⟩ ∧ b < w.heap.size ∧ w.cell? ⟨b, off + k, none⟩ = some (.int .i64 (xs.getD k 0)) ∧ -9223372036854775808 ≤ xs.getD k 0 ∧ xs.getD k 0 ≤ 9223372036854775807 := by
  rcases h.reads with hn | ⟨b, off, e, hb, hc⟩
  · have := h.len; rw [hn] at this; simp at this; omega
  · exact ⟨b, off, e, hb, hc k (by rw [h.len]; exact hk), h.bd hk⟩
theorem RowI.of_isRow {w : World} {a : Option Addr} {n c : Nat} (h : IsRow .i64 w a n c) (hs : n ≤ 17592186044415) : ∃ xs, RowI w a n xs := by
  obtain ⟨xs, hn, _, _, hr, hw⟩ := h
  exact ⟨xs, hn, hr, hw, hs⟩
theorem RowI.of_at {w : World} {B : Nat} {ys : List Int} {T : TypeId} (h : RowAtI w B T ys) (hw : ∀ x ∈ ys, (Lit.int .i64 x).wf = true) {n : Nat} (hn : ys.length = n) (hs : n ≤ 17592186044415) : RowI w (some ⟨B, 0, none⟩) n ys := ⟨hn, h.reads, hw, hs⟩
/-- The answer is a slice of n ints that reads as ys; nothing that was there has turned. -/
def GivesI (w : World) (n : Nat) (ys : List Int) (e : Ending) (w' : World) : Prop := ∃ a c, e = .returned (.slice a n c) ∧ RowI w' a n ys ∧ Below w.heap.size w w'
def GivesIOk (w : World) (n : Nat) (ys : List Int) (e : Ending) (w' : World) : Prop := ∃ a c, e = .returned (.tuple #[.slice a n c, .int .i64 0]) ∧ RowI w' a n ys ∧ Below w.heap.size w w'
theorem givesI_own {w w' : World} {n B : Nat} {T : TypeId} {ys : List Int} {e : Ending} {v : Value} (he : e = .returned v) (h : Owns w' B T .i64 v ys) (hb : Below w.heap.size w w') (hw : ∀ x ∈ ys, (Lit.int .i64 x).wf = true) (hn : ys.length = n) (hs : n ≤ 17592186044415) : GivesI w n ys e w' := by
  obtain ⟨a, c, hv, hr, _, _⟩ := h.shape
  exact ⟨a, c, by rw [he, hv, hn], ⟨hn, hr, hw, hs⟩, hb⟩

/-- One place written. -/
theorem RowAtI.set {w : World} {B : Nat} {T : TypeId} {ys : List Int} (h : RowAtI w B T ys) (k : Nat) (y : Int) : RowAtI (w.setCell ⟨B, k, none⟩ (.int .i64 y)) B T (ys.set k y) := by
  unfold RowAtI
  rw [heap_setCell_same w B k _ T _ h]
  congr 2
  rw [List.setIfInBounds_toArray]
  congr 1
  rw [List.map_set]
theorem RowAtI.other {w : World} {B : Nat} {T : TypeId} {ys : List Int} (h : RowAtI w B T ys) {p : Addr} (hp : p.block ≠ B) (v : Value) : RowAtI (w.setCell p v) B T ys := by
  unfold RowAtI at *
  rw [← h]
  exact heap_setCell_other w p B v (fun e => hp e.symm)
theorem RowAtI.cell {w : World} {B : Nat} {T : TypeId} {ys : List Int} (h : RowAtI w B T ys) {k : Nat} (hk : k < ys.length) : w.cell? ⟨B, k, none⟩ = some (.int .i64 (ys.getD k 0)) := by
  rw [cell_of_row w B k _ _ _ h]
  simp [List.getD, hk]
theorem RowAtI.free {w : World} {B : Nat} {T : TypeId} {ys : List Int} (h : RowAtI w B T ys) (j : Nat) : w.frozen? ⟨B, j, none⟩ = false := frozen_of_row w B j _ _ h
theorem RowAtI.made (w : World) (T : TypeId) (n : Nat) : RowAtI (w.alloc (.cells (Array.replicate n (.int .i64 0)) T)) w.heap.size T (List.replicate n 0) := by
  unfold RowAtI; rw [heap_alloc_new]; simp
theorem RowAtI.drewN {w : World} {B : Nat} {T : TypeId} {ys : List Int} (h : RowAtI w B T ys) (q : Nat) : RowAtI (w.drewN q) B T ys := h
theorem RowAtI.drew {w : World} {B : Nat} {T : TypeId} {ys : List Int} (h : RowAtI w B T ys) : RowAtI w.drew B T ys := h
/-- A function's values, one by one. -/
def tab (n : Nat) (f : Nat → Int) : List Int := (List.range n).map f
theorem tab_len (n : Nat) (f : Nat → Int) : (tab n f).length = n := by unfold tab; simp
theorem tab_at (n : Nat) (f : Nat → Int) (k : Nat) (h : k < n) : (tab n f).getD k 0 = f k := by unfold tab; simp [List.getD, h]
theorem tab_set (n : Nat) (f g : Nat → Int) (k : Nat) (y : Int) (h : ∀ j, j < n → g j = if j = k then y else f j) : (tab n f).set k y = tab n g := by
  unfold tab
  apply List.ext_getElem
  · simp
  · intro i h1 h2
    have hi : i < n := by simpa using h2
    rw [List.getElem_set]
    simp only [List.getElem_map, List.getElem_range, h i hi]
    by_cases e : k = i
    · subst e; simp
    · rw [if_neg e, if_neg (fun x => e x.symm)]
theorem tab_congr (n : Nat) (f g : Nat → Int) (h : ∀ j, j < n → g j = f j) : tab n f = tab n g := by
  unfold tab
  apply List.map_congr_left
  intro i hi
  exact (h i (by simpa using hi)).symm
theorem tab_rep (n : Nat) (v : Int) : List.replicate n v = tab n (fun _ => v) := by
  unfold tab
  apply List.ext_getElem
  · simp
  · intro i h1 h2; simp
end Go.Proofs.Ythnpbfboedgmpaa
