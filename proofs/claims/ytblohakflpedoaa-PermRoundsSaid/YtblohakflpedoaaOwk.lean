/- A row of ints grows: which block has changed. -/
import Derived.Test.YtblohakflpedoaaOwn
import Derived.Test.YtblohakflpedoaaRowi
namespace Go.Proofs.Ytblohakflpedoaa
open Go.ChangeShapes Go.WideShapes Go.ChangeAt Go.RowKit
set_option linter.unusedVariables false
set_option linter.unusedSimpArgs false
theorem append_one_b {ops : Array Oper} {rest : List Oper} {o : Oper} {a : Act} {Q : Exit → Act → World → Prop} {W : World} {T E : TypeId} {k : IntKind} {B : Nat} {v : Value} {ys : List Int} {y : Int}
    (hT : Try.prog.underlying T = some (.slice E)) (hI : (Try.prog.info? E).map (fun i => (i.zero, i.size, i.bytes)) = some (some (.int k 0), 1, 8)) (hgd : o.guard = none) (s x : Operand)
    (ho : o.op = .call { callee := .builtin .append, args := #[s, x], argTypes := #[T, T] }) (hs : a.eval s = v) (hown : Owns W B E k v ys) (hx : a.eval x = .slice (some ⟨W.heap.size, 0, none⟩) 1 1) (hB : B ≤ W.heap.size) (hlen : ys.length < 17592186044415)
    (h : ∀ v' w', Owns w' B E k v' (ys ++ [y]) → Below B W w' → (∀ X, X < W.heap.size → v.ownBlock ≠ some X → w'.heap[X]? = W.heap[X]?) → wpList Try.prog ops Q rest (a.put o.dst v') w') : wpList Try.prog ops Q (o :: rest) a (W.alloc (.cells #[.int k y] E)) := by
  obtain ⟨i0, hi, hz0, hz1, hz2⟩ := info_parts hI
  refine wpList_append_own _ hgd s x T ho B E i0 (.int k 0) 1 8 hT hi hz0 hz1 hz2 rfl (by decide) v ys.length (ys.map (Value.int k)) hs (hown.alloc _) ⟨W.heap.size, 0, none⟩ 1 1 [.int k y] hx rfl ?_ ?_ ?_ ?_ ?_ ?_
  · intro j u hj
    match j, hj with
    | 0, hj => simp at hj; subst hj; simp [Addr.add, go_sem]
  · intro u hu; simp at hu; subst hu; rfl
  · unfold maxLen; omega
  · omega
  · simp; omega
  · intro v' w' h1 h2 _
    refine h v' w' (owns_snoc h1) (below_grow (Below.refl _ _) hown hB _ h2) (fun X hX hn => ?_)
    have h3 := h2.block X (by simp; omega) (fun e => hn e.symm)
    rw [h3]
    exact ((Below.refl W.heap.size W).alloc (Nat.le_refl _) _).block X hX
end Go.Proofs.Ytblohakflpedoaa
