/- A row written in place; all the rest as it was. -/
import Derived.Test.YtblohakflpedoaaVecc
namespace Go.Proofs.Ytblohakflpedoaa
open Go.ChangeShapes Go.WideShapes Go.ChangeAt Go.RowKit
set_option linter.unusedVariables false
/-- What lay in w but for block B is as it was. -/
structure But (w w' : World) (B : Nat) : Prop where
  o : ∀ k, k < w.heap.size → k ≠ B → w'.heap[k]? = w.heap[k]?
  z : w.heap.size ≤ w'.heap.size
  b : ∀ H, H ≤ B → H ≤ w.heap.size → Below H w w'
theorem But.refl (w : World) (B : Nat) : But w w B := ⟨fun _ _ _ => rfl, Nat.le_refl _, fun _ _ _ => Below.refl _ _⟩
theorem But.trans {w w' w'' : World} {B : Nat} (h : But w w' B) (k : But w' w'' B) : But w w'' B :=
  ⟨fun j hj hB => (k.o j (by have := h.z; omega) hB).trans (h.o j hj hB), Nat.le_trans h.z k.z, fun H h1 h2 => (h.b H h1 h2).trans (k.b H h1 (by have := h.z; omega))⟩
theorem But.of_below {w w' : World} (B : Nat) (h : Below w.heap.size w w') : But w w' B := ⟨fun k hk _ => h.block k hk, h.size, fun _ _ h2 => h.mono h2⟩
theorem But.set (w : World) (B j : Nat) (v : Value) : But w (w.setCell ⟨B, j, none⟩ v) B := ⟨fun k _ hB => heap_setCell_other w ⟨B, j, none⟩ k v hB, by simp, fun H h1 _ => (Below.refl _ _).setCell h1 _⟩
theorem But.drew (w : World) (B : Nat) : But w w.drew B := But.of_below B (Below.refl _ _).drew
theorem But.heap {w w' : World} {B k : Nat} (h : But w w' B) (hk : k < w.heap.size) (hB : k ≠ B) : w'.heap[k]? = w.heap[k]? := h.o k hk hB
theorem Reads.but {w w' : World} {B : Nat} {k : IntKind} {a : Option Addr} {xs : List Int} (h : Reads k w a xs) (hb : But w w' B) (hne : ∀ x, a = some x → x.block ≠ B) : Reads k w' a xs := by
  rcases h with h | ⟨b, off, rfl, hlt, hc⟩
  · exact .inl h
  · refine .inr ⟨b, off, rfl, by have := hb.z; omega, fun i hi => ?_⟩
    rw [← hc i hi]
    exact World.cell?_of_block (hb.o b hlt (hne _ rfl))
theorem Row.but {w w' : World} {B : Nat} {a : Option Addr} {n : Nat} {xs : List Int} (h : Row w a n xs) (hb : But w w' B) (hne : ∀ x, a = some x → x.block ≠ B) : Row w' a n xs := ⟨h.len, h.reads.but hb hne, h.wf, h.small⟩
/-- One place written. -/
theorem RowAt.set {w : World} {B : Nat} {T : TypeId} {ys : List Int} (h : RowAt w B T ys) (k : Nat) (y : Int) : RowAt (w.setCell ⟨B, k, none⟩ (.int .u64 y)) B T (ys.set k y) := by
  unfold RowAt
  rw [heap_setCell_same w B k _ T _ h]
  congr 2
  rw [List.setIfInBounds_toArray]
  congr 1
  rw [List.map_set]
theorem RowAt.cell {w : World} {B : Nat} {T : TypeId} {ys : List Int} (h : RowAt w B T ys) {k : Nat} (hk : k < ys.length) : w.cell? ⟨B, k, none⟩ = some (.int .u64 (ys.getD k 0)) := by
  rw [cell_of_row w B k _ _ _ h]
  simp [List.getD, hk]
theorem RowAt.free {w : World} {B : Nat} {T : TypeId} {ys : List Int} (h : RowAt w B T ys) (j : Nat) : w.frozen? ⟨B, j, none⟩ = false := frozen_of_row w B j _ _ h
theorem RowAt.made (w : World) (T : TypeId) (n : Nat) : RowAt (w.alloc (.cells (Array.replicate n (.int .u64 0)) T)) w.heap.size T (List.replicate n 0) := by
  unfold RowAt; rw [heap_alloc_new]; simp
theorem RowAt.drew {w : World} {B : Nat} {T : TypeId} {ys : List Int} (h : RowAt w B T ys) : RowAt w.drew B T ys := h
/-- Block B holds just v. -/
def Bx (w : World) (B : Nat) (T : TypeId) (v : Value) : Prop := w.heap[B]? = some (.cells #[v] T (0, 0))
theorem Bx.cell {w : World} {B : Nat} {T : TypeId} {v : Value} (h : Bx w B T v) : w.cell? ⟨B, 0, none⟩ = some v := by rw [cell_of_row w B 0 _ _ _ h]; rfl
theorem Bx.lt {w : World} {B : Nat} {T : TypeId} {v : Value} (h : Bx w B T v) : B < w.heap.size := block_lt_of_cell h.cell
theorem Bx.but {w w' : World} {B C : Nat} {T : TypeId} {v : Value} (h : Bx w C T v) (hb : But w w' B) (hne : C ≠ B) : Bx w' C T v := (hb.o C h.lt hne).trans h
theorem Bx.new (w : World) (T : TypeId) (v : Value) (o : Obj) (h : o = .cells #[v] T) : Bx (w.alloc o) w.heap.size T v := by subst h; exact heap_alloc_new _ _
theorem Bx.alloc {w : World} {B : Nat} {T : TypeId} {v : Value} (h : Bx w B T v) (o : Obj) : Bx (w.alloc o) B T v := (Below.heap_alloc w o B h.lt).trans h
theorem getD_set_same {xs : List Int} {k : Nat} {y : Int} (h : k < xs.length) : (xs.set k y).getD k 0 = y := by simp [List.getD, h]
theorem getD_set_ne {xs : List Int} {k j : Nat} {y : Int} (h : j ≠ k) : (xs.set k y).getD j 0 = xs.getD j 0 := by
  simp only [List.getD]
  rw [List.getElem?_set_ne (fun e => h e.symm)]
end Go.Proofs.Ytblohakflpedoaa
