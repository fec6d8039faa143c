/- LruFront: a row of ints grows beside a list. -/
import Derived.Test.YtncpikaegcookaaLrt
namespace Go.Proofs.Ytncpikaegcookaa
open Go.ChangeShapes Go.WideShapes Go.ChangeAt Go.RowKit
set_option linter.unusedVariables false
set_option linter.unusedSimpArgs false
theorem append_one_b {ops : Array Oper} {rest : List Oper} {o : Oper} {a : Act} {Q : Exit → Act → World → Prop} {W : World} {T E : TypeId} {k : IntKind} {B : Nat} {v : Value} {ys : List Int} {y : Int}
    (hT : Try.prog.underlying T = some (.slice E)) (hI : (Try.prog.info? E).map (fun i => (i.zero, i.size, i.bytes)) = some (some (.int k 0), 1, 8)) (hgd : o.guard = none) (s x : Operand)
    (ho : o.op = .call { callee := .builtin .append, args := #[s, x], argTypes := #[T, T] }) (hs : a.eval s = v) (hown : Owns W B E k v ys) (hx : a.eval x = .slice (some ⟨W.heap.size, 0, none⟩) 1 1) (hB : B ≤ W.heap.size) (hlen : ys.length < 17592186044415)
    (h : ∀ v' w', Owns w' B E k v' (ys ++ [y]) → Below B W w' → (∀ X, X < W.heap.size → v.ownBlock ≠ some X → w'.heap[X]? = W.heap[X]?) → wpList Try.prog ops Q rest (a.put o.dst v') w') : wpList Try.prog ops Q (o :: rest) a (W.alloc (.cells #[.int k y] E)) := by
  obtain ⟨i0, hi, hz0, hz1, hz2⟩ := info_parts hI
  refine wpList_append_own _ hgd s x T ho B E i0 (.int k 0) 1 8 hT hi hz0 hz1 hz2 rfl (by decide) v ys.length (ys.map (Value.int k)) hs (hown.alloc _) ⟨W.heap.size, 0, none⟩ 1 1 [.int k y] hx rfl ?_ ?_ ?_ ?_ ?_ ?_
  · intro j u hj
    match j, hj with
    | 0, hj => simp at hj; subst hj; simp [Addr.add, go_sem]
  · intro u hu; simp at hu; subst hu; rfl
  · unfold maxLen; omega
  · omega
  · simp; omega
  · intro v' w' h1 h2 _
    refine h v' w' (owns_snoc h1) (below_grow (Below.refl _ _) hown hB _ h2) (fun X hX hn => ?_)
    have h3 := h2.block X (by simp; omega) (fun e => hn e.symm)
    rw [h3]
    exact ((Below.refl W.heap.size W).alloc (Nat.le_refl _) _).block X hX
theorem Owns.ne {w : World} {B : Nat} {v : Value} {ys : List Int} (h : Owns w B 3 .i64 v ys) {X : Nat} {o : Obj} (hX : w.heap[X]? = some o) (ho : ∀ cs fr, o ≠ .cells cs 3 fr) : v.ownBlock ≠ some X := by
  obtain ⟨-, h | ⟨g, cap, cur, rfl, hb, hh, -⟩⟩ := h
  · rw [h.1]; intro e; cases e
  · intro e
    have e2 : g = X := Option.some.inj e
    subst e2
    rw [hX] at hh
    exact ho _ _ (Option.some.inj hh)
theorem Lru.own {w w' : World} {B B0 Lb : Nat} {room : Int} {s : List (Int × Int)} {v : Value} {ys : List Int} (h : Lru w B0 Lb room s) (hO : Owns w B 3 .i64 v ys) (hk : ∀ X, X < w.heap.size → v.ownBlock ≠ some X → w'.heap[X]? = w.heap[X]?) : Lru w' B0 Lb room s := by
  obtain ⟨F, M, f, zs, es, ck, h, e⟩ := h
  have kp : ∀ {X : Nat} {o : Obj}, w.heap[X]? = some o → (∀ cs fr, o ≠ .cells cs 3 fr) → w'.heap[X]? = some o := fun {X o} hX ho => (hk X (g_lt hX) (hO.ne hX ho)).trans hX
  refine ⟨F, M, f, zs, es, ck, ⟨kp h.l (fun cs fr e => by simp at e), ?_, fun z hz => kp (h.t z hz) (fun cs fr e => by simp at e), h.d, h.k, h.r, kp h.m (fun cs fr e => by cases e), h.e, h.a, h.u, h.lo, h.sz⟩, e⟩
  refine h.f.keep (fun X hX => ?_)
  rcases h.f with ⟨rfl, _⟩ | ⟨cap, L, rfl, hF, _⟩
  · cases hX
  · have e2 : F = X := Option.some.inj hX
    subst e2
    exact (kp hF (fun cs fr e => by simp at e)).trans hF.symm
end Go.Proofs.Ytncpikaegcookaa
