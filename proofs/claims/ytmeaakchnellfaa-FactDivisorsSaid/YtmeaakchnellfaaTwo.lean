/- Two rows that grow side by side. -/
import Derived.Test.YtmeaakchnellfaaOwni
namespace Go.Proofs.Ytmeaakchnellfaa
open Go.ChangeShapes Go.WideShapes Go.ChangeAt Go.RowKit
set_option linter.unusedVariables false
/-- Two slices of the call's own that have no block together. -/
def Apart (v u : Value) : Prop := ∀ g, v.ownBlock = some g → u.ownBlock ≠ some g
theorem Apart.symm {v u : Value} (h : Apart v u) : Apart u v := fun g h1 h2 => h g h2 h1
theorem Apart.nil (u : Value) : Apart (.slice none 0 0) u := fun g h => by cases h
/-- Whatever is owned beside v stays, and stays beside v'. -/
def Keeps (W w' : World) (v v' : Value) : Prop := ∀ (B : Nat) (E : TypeId) (s : Nat) (u : Value) (n : Nat) (xs : List Value), W.ownsRow B E s u n xs → Apart v u → w'.ownsRow B E s u n xs ∧ Apart v' u
theorem append_keep {ops : Array Oper} {rest : List Oper} {o : Oper} {a : Act} {Q : Exit → Act → World → Prop} {W : World} {T E : TypeId} {k : IntKind} {B : Nat} {v : Value} {ys : List Int} {y : Int}
    (hT : Try.prog.underlying T = some (.slice E)) (hI : (Try.prog.info? E).map (fun i => (i.zero, i.size, i.bytes)) = some (some (.int k 0), 1, 8)) (hgd : o.guard = none) (s x : Operand)
    (ho : o.op = .call { callee := .builtin .append, args := #[s, x], argTypes := #[T, T] }) (hs : a.eval s = v) (hown : Owns W B E k v ys) (hx : a.eval x = .slice (some ⟨W.heap.size, 0, none⟩) 1 1) (hB : B ≤ W.heap.size) (hlen : ys.length < 17592186044415)
    (h : ∀ v' w', Owns w' B E k v' (ys ++ [y]) → Below B W w' → Keeps W w' v v' → wpList Try.prog ops Q rest (a.put o.dst v') w') : wpList Try.prog ops Q (o :: rest) a (W.alloc (.cells #[.int k y] E)) := by
  obtain ⟨i0, hi, hz0, hz1, hz2⟩ := info_parts hI
  refine wpList_append_lies _ hgd s x T ho B E i0 (.int k 0) 1 8 hT hi hz0 hz1 hz2 rfl (by decide) v ys.length (ys.map (Value.int k)) hs (hown.alloc _) ⟨W.heap.size, 0, none⟩ 1 1 [.int k y] hx rfl ?_ ?_ (by decide) ?_ ?_ (by simp; omega) _ rfl ?_
  · intro j u hj
    match j, hj with
    | 0, hj => simp at hj; subst hj; simp [Addr.add, go_sem]
  · intro u hu; simp at hu; subst hu; rfl
  · unfold maxLen; omega
  · omega
  · intro g cap w' h1 h2 h3 _
    refine h _ w' (owns_snoc h1) (((Below.refl _ _).alloc hB _).grown h2 (by simp; omega) (fun i hi => (World.ownsRow.lt hown i hi).1)) ?_
    intro B2 E2 s2 u n2 xs2 hu hap
    refine ⟨World.ownsRow.kept (World.ownsRow.alloc hu _) h2 ?_, ?_⟩
    · cases hb : u.ownBlock with
      | none => exact .inl rfl
      | some g2 =>
        refine .inr (fun e => ?_)
        exact hap g2 e.symm hb
    · intro g' hg' hu'
      have : g = g' := by simpa [Value.ownBlock] using hg'
      subst this
      rcases h3 with h3 | h3
      · exact hap g h3 hu'
      · have := (World.ownsRow.lt hu g hu').2
        rw [h3] at this
        simp at this
        omega
end Go.Proofs.Ytmeaakchnellfaa
