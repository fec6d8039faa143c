/- Rows of bools that a call makes and writes in place. -/
import Derived.Test.YtblohakflpedoaaBase
namespace Go.Proofs.Ytblohakflpedoaa
open Go.ChangeShapes Go.WideShapes Go.ChangeAt Go.RowKit
set_option linter.unusedVariables false
theorem info_boolz : (Try.prog.info? 4).map (fun i => (i.zero, i.size, i.bytes)) = some (some (.bool false), 1, 1) := by kernel_rfl
theorem made_cells_b (v : Value) (n : Nat) : madeCells #[v] n = Array.replicate n v := by
  unfold madeCells
  apply Array.ext
  · simp
  · intro i h1 h2
    simp [Nat.mod_one]
theorem make_bool (n : Nat) (hn : n ≤ 35184372088832) (w : World) :
    (Instr.makeSlice 39 (.int .i64 (n : Int)) (.int .i64 (n : Int))).run Try.prog w = .ok (.slice (some ⟨w.heap.size, 0, none⟩) n n) (w.alloc (.cells (Array.replicate n (.bool false)) 4)) := by
  obtain ⟨i, hi, hz, hs, hb⟩ := info_parts info_boolz
  rw [run_make w 39 4 i (.bool false) Try.underlying39 hi hz .i64 .i64 (n : Int) (n : Int) (by omega) (by omega) (by rw [hb]; omega) (by omega), hs, Int.toNat_natCast, Nat.mul_one]
  rw [show (Value.bool false).cells = #[.bool false] from rfl, made_cells_b]
def RowAtB (w : World) (B : Nat) (T : TypeId) (ys : List Bool) : Prop := w.heap[B]? = some (.cells ((ys.map Value.bool).toArray) T (0, 0))
theorem RowAtB.lt {w : World} {B : Nat} {T : TypeId} {ys : List Bool} (h : RowAtB w B T ys) : B < w.heap.size := by
  unfold RowAtB at h
  by_cases hlt : B < w.heap.size
  · exact hlt
  · have : w.heap[B]? = none := by simp; omega
    rw [this] at h; simp at h
theorem RowAtB.below {w w' : World} {B : Nat} {T : TypeId} {ys : List Bool} (h : RowAtB w B T ys) (hb : Below w.heap.size w w') : RowAtB w' B T ys := by
  unfold RowAtB; rw [hb.block B h.lt]; exact h
theorem RowAtB.set {w : World} {B : Nat} {T : TypeId} {ys : List Bool} (h : RowAtB w B T ys) (k : Nat) (y : Bool) : RowAtB (w.setCell ⟨B, k, none⟩ (.bool y)) B T (ys.set k y) := by
  unfold RowAtB
  rw [heap_setCell_same w B k _ T _ h]
  congr 2
  rw [List.setIfInBounds_toArray]
  congr 1
  rw [List.map_set]
theorem RowAtB.cell {w : World} {B : Nat} {T : TypeId} {ys : List Bool} (h : RowAtB w B T ys) {k : Nat} (hk : k < ys.length) : w.cell? ⟨B, k, none⟩ = some (.bool (ys.getD k false)) := by
  rw [cell_of_row w B k _ _ _ h]
  simp [List.getD, hk]
theorem RowAtB.free {w : World} {B : Nat} {T : TypeId} {ys : List Bool} (h : RowAtB w B T ys) (j : Nat) : w.frozen? ⟨B, j, none⟩ = false := frozen_of_row w B j _ _ h
theorem RowAtB.made (w : World) (T : TypeId) (n : Nat) : RowAtB (w.alloc (.cells (Array.replicate n (.bool false)) T)) w.heap.size T (List.replicate n false) := by
  unfold RowAtB; rw [heap_alloc_new]; simp
def tabb (n : Nat) (f : Nat → Bool) : List Bool := (List.range n).map f
theorem tabb_len (n : Nat) (f : Nat → Bool) : (tabb n f).length = n := by unfold tabb; simp
theorem tabb_at (n : Nat) (f : Nat → Bool) (k : Nat) (h : k < n) : (tabb n f).getD k false = f k := by unfold tabb; simp [List.getD, h]
theorem tabb_set (n : Nat) (f g : Nat → Bool) (k : Nat) (y : Bool) (h : ∀ j, j < n → g j = if j = k then y else f j) : (tabb n f).set k y = tabb n g := by
  unfold tabb
  apply List.ext_getElem
  · simp
  · intro i h1 h2
    have hi : i < n := by simpa using h2
    rw [List.getElem_set]
    simp only [List.getElem_map, List.getElem_range, h i hi]
    by_cases e : k = i
    · subst e; simp
    · rw [if_neg e, if_neg (fun x => e x.symm)]
theorem tabb_rep (n : Nat) (v : Bool) : List.replicate n v = tabb n (fun _ => v) := by
  unfold tabb
  apply List.ext_getElem
  · simp
  · intro i h1 h2; simp
end Go.Proofs.Ytblohakflpedoaa
