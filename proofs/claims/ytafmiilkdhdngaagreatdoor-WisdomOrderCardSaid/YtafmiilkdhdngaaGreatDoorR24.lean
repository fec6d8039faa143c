/- Put together by program (merge2.py): Each. -/
import Derived.Test.YtafmiilkdhdngaaGreatDoorR23
/- Package need's each: what all nodes name is told, one by one. -/
namespace Go.Proofs.YtafmiilkdhdngaaGreatDoor
open Go.ChangeShapes Go.WideShapes Go.ChangeAt Go.RowKit
set_option linter.unusedVariables false
/-- From w to w': of w's blocks just those of O may have turned; those of O' are of O, or new. -/
structure Fr (O O' : Nat → Prop) (w w' : World) : Prop where
  os : w'.os = w.os
  tape : w'.tape = w.tape
  output : w'.output = w.output
  size : w.heap.size ≤ w'.heap.size
  blk : ∀ X, X < w.heap.size → ¬ O X → w'.heap[X]? = w.heap[X]?
  own : ∀ X, O' X → O X ∨ w.heap.size ≤ X
theorem Fr.of_below {O : Nat → Prop} {w w' : World} (h : Below w.heap.size w w') : Fr O O w w' := ⟨h.os, h.tape, h.output, h.size, fun X hX _ => h.block X hX, fun _ h => .inl h⟩
theorem Fr.refl (O : Nat → Prop) (w : World) : Fr O O w w := Fr.of_below (Below.refl _ _)
theorem Fr.trans {O O' O'' : Nat → Prop} {w w' w'' : World} (h : Fr O O' w w') (k : Fr O' O'' w' w'') : Fr O O'' w w'' :=
  ⟨k.os.trans h.os, k.tape.trans h.tape, k.output.trans h.output, Nat.le_trans h.size k.size, fun X hX hO => (k.blk X (by have := h.size; omega) (fun hO' => (h.own X hO').elim hO (by omega))).trans (h.blk X hX hO),
   fun X hX => (k.own X hX).elim (fun h1 => h.own X h1) (fun h1 => .inr (by have := h.size; omega))⟩
theorem Fr.below {O O' : Nat → Prop} {w w' : World} {H : Nat} (h : Fr O O' w w') (hH : H ≤ w.heap.size) (hO : ∀ X, O X → H ≤ X) : Below H w w' :=
  ⟨h.os, h.tape, h.output, h.size, fun X hX => h.blk X (by omega) (fun hx => by have := hO X hx; omega)⟩
theorem Fr.cell {O O' : Nat → Prop} {w w' : World} (h : Fr O O' w w') {X j : Nat} (hX : X < w.heap.size) (hO : ¬ O X) {v : Value} (hc : w.cell? ⟨X, j, none⟩ = some v) : w'.cell? ⟨X, j, none⟩ = some v :=
  (World.cell?_of_block (h.blk X hX hO)).trans hc
end Go.Proofs.YtafmiilkdhdngaaGreatDoor
