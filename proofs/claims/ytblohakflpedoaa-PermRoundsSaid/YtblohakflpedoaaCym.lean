/- perm.Cycles: rows of rounds in memory. -/
import Derived.Test.YtblohakflpedoaaCyl
import Derived.Test.YtblohakflpedoaaCopi
import Derived.Test.YtblohakflpedoaaOwni
import Derived.Deep.AppendLies
namespace Go.Proofs.Ytblohakflpedoaa
open Go.ChangeShapes Go.WideShapes Go.ChangeAt Go.RowKit
set_option linter.unusedVariables false
set_option linter.unusedSimpArgs false
theorem info_row : (Try.prog.info? 22).map (fun i => (i.zero, i.size, i.bytes)) = some (some (.slice none 0 0), 1, 24) := by kernel_rfl
/-- 'append(l, round)': which block alone has changed is told. -/
theorem append_rowR {ops : Array Oper} {rest : List Oper} {o : Oper} {a : Act} {Q : Exit → Act → World → Prop} {W : World} {B : Nat} {v u : Value} {xs : List Value} (hgd : o.guard = none) (s x : Operand)
    (ho : o.op = .call { callee := .builtin .append, args := #[s, x], argTypes := #[24, 24] }) (hs : a.eval s = v) (hown : W.ownsRow B 22 1 v xs.length xs) (hx : a.eval x = .slice (some ⟨W.heap.size, 0, none⟩) 1 1) (hB : B ≤ W.heap.size) (hn : xs.length < 2000) (h1 : u.oneCell' = true)
    (h : ∀ v' w', w'.ownsRow B 22 1 v' (xs ++ [u]).length (xs ++ [u]) → Below B W w' → (∀ X, X < W.heap.size → v.ownBlock ≠ some X → w'.heap[X]? = W.heap[X]?) → wpList Try.prog ops Q rest (a.put o.dst v') w') : wpList Try.prog ops Q (o :: rest) a (W.alloc (.cells #[u] 22)) := by
  obtain ⟨i0, hi⟩ : ∃ i, Try.prog.info? 22 = some i := by
    cases h0 : Try.prog.info? 22 with
    | none => have := info_row; rw [h0] at this; cases this
    | some i => exact ⟨i, rfl⟩
  have hI := info_row
  rw [hi] at hI
  simp only [Option.map_some, Option.some.injEq, Prod.mk.injEq] at hI
  obtain ⟨hz, hsz, hby⟩ := hI
  refine wpList_append_lies _ hgd s x 24 ho B 22 i0 (.slice none 0 0) 1 24 Try.underlying24 hi hz hsz hby rfl (by decide) v xs.length xs hs (World.ownsRow.alloc hown _) ⟨W.heap.size, 0, none⟩ 1 1 [u] hx rfl ?_ ?_ (by decide) ?_ ?_ (by simp; omega) _ rfl ?_
  · intro j t hj
    exact World.news_of_block (heap_alloc_new W (.cells #[u] 22)) j t (by simpa using hj)
  · intro t ht
    rw [List.mem_singleton.1 ht]; exact h1
  · unfold maxLen; omega
  · omega
  · intro g cap w' h2 h3 _ _
    refine h _ w' (by rw [List.length_append, List.length_singleton]; exact h2) (((Below.refl _ _).alloc hB _).grown h3 (by simp; omega) (fun i hi => (World.ownsRow.lt hown i hi).1)) (fun X hX hn => ?_)
    have h4 := h3.block X (by simp; omega) (fun e => hn e.symm)
    rw [h4]
    exact ((Below.refl W.heap.size W).alloc (Nat.le_refl _) _).block X hX
end Go.Proofs.Ytblohakflpedoaa
