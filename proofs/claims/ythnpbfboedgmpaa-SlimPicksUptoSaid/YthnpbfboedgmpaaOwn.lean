/- Rows that grow by append. -/
import Derived.Test.YthnpbfboedgmpaaRowz
import Derived.Deep.AppendLies
namespace Go.Proofs.Ythnpbfboedgmpaa
open Go.ChangeShapes Go.WideShapes Go.ChangeAt Go.RowKit
set_option linter.unusedVariables false

/-- A slice value of the call's own that holds the numbers ys. -/
def Owns (w : World) (B : Nat) (E : TypeId) (k : IntKind) (v : Value) (ys : List Int) : Prop := w.ownsRow B E 1 v ys.length (ys.map (Value.int k))
theorem Owns.nil (w : World) (B : Nat) (E : TypeId) (k : IntKind) : Owns w B E k (.slice none 0 0) [] := World.ownsRow_nil w B E 1
theorem Owns.below {w w' : World} {B : Nat} {E : TypeId} {k : IntKind} {v : Value} {ys : List Int} (h : Owns w B E k v ys) (hb : Below w.heap.size w w') : Owns w' B E k v ys :=
  World.ownsRow.kept h (row := none) ⟨hb.os, hb.tape, hb.output, hb.size, fun i hi _ => hb.block i hi⟩ (by
    by_cases hn : v.ownBlock = none
    · exact .inl hn
    · exact .inr hn)
theorem Owns.alloc {w : World} {B : Nat} {E : TypeId} {k : IntKind} {v : Value} {ys : List Int} (h : Owns w B E k v ys) (o : Obj) : (w.alloc o).ownsRow B E 1 v ys.length (ys.map (Value.int k)) := World.ownsRow.alloc h o
theorem owns_snoc {w : World} {B : Nat} {E : TypeId} {k : IntKind} {v : Value} {ys : List Int} {y : Int} (h : w.ownsRow B E 1 v (ys.length + 1) (ys.map (Value.int k) ++ [.int k y])) : Owns w B E k v (ys ++ [y]) := by
  unfold Owns
  simpa using h
theorem Owns.shape {w : World} {B : Nat} {E : TypeId} {k : IntKind} {v : Value} {ys : List Int} (h : Owns w B E k v ys) : ∃ a c, v = .slice a ys.length c ∧ Reads k w a ys ∧ ys.length ≤ c ∧ c ≤ maxLen := by
  obtain ⟨hl, h | ⟨g, cap, cur, rfl, hb, hh, hn, hm, hs, ht⟩⟩ := h
  · obtain ⟨rfl, hn⟩ := h
    have : ys = [] := List.length_eq_zero_iff.1 hn
    subst this
    exact ⟨none, 0, rfl, .inl rfl, Nat.le_refl _, by unfold maxLen; omega⟩
  · refine ⟨_, _, rfl, .inr ⟨g, 0, rfl, ?_, fun i hi => ?_⟩, hn, hm⟩
    · by_cases hlt : g < w.heap.size
      · exact hlt
      · have : w.heap[g]? = none := by simp; omega
        rw [this] at hh; simp at hh
    · rw [cell_of_row w g (0 + i) _ _ _ hh]
      have : cur[0 + i]? = (ys.map (Value.int k))[i]? := by
        rw [← ht, List.getElem?_take]
        simp [hi]
      rw [this]
      simp [List.getD, hi]

theorem below_grow {w w1 w2 : World} {B : Nat} {E : TypeId} {k : IntKind} {v : Value} {ys : List Int} (h : Below B w w1) (ho : Owns w1 B E k v ys) (hB : B ≤ w1.heap.size) (o : Obj) (hg : (w1.alloc o).grownBy w2 v.ownBlock) : Below B w w2 :=
  (h.alloc hB o).grown hg (by simp; omega) (fun i hi => (World.ownsRow.lt ho i hi).1)

/-- The first k of ys. -/
def upto (ys : List Int) (k : Nat) : List Int := ys.take k
theorem upto_zero (ys : List Int) : upto ys 0 = [] := rfl
theorem upto_full (ys : List Int) (n : Nat) (h : ys.length = n) : upto ys n = ys := by unfold upto; rw [← h]; exact List.take_length
theorem upto_len (ys : List Int) (k : Nat) (h : k ≤ ys.length) : (upto ys k).length = k := by unfold upto; rw [List.length_take]; omega
theorem upto_snoc (ys : List Int) (k : Nat) (y : Int) (h : k < ys.length) (e : ys.getD k 0 = y) : upto ys k ++ [y] = upto ys (k + 1) := by
  unfold upto
  rw [List.take_succ_eq_append_getElem h, ← e]; simp [List.getD, h]

/-- One number more: 'append(l, y)'. -/
theorem append_one {ops : Array Oper} {rest : List Oper} {o : Oper} {a : Act} {Q : Exit → Act → World → Prop} {W : World} {T E : TypeId} {k : IntKind} {B : Nat} {v : Value} {ys : List Int} {y : Int}
    (hT : Try.prog.underlying T = some (.slice E)) (hI : (Try.prog.info? E).map (fun i => (i.zero, i.size, i.bytes)) = some (some (.int k 0), 1, 8)) (hgd : o.guard = none) (s x : Operand)
    (ho : o.op = .call { callee := .builtin .append, args := #[s, x], argTypes := #[T, T] }) (hs : a.eval s = v) (hown : Owns W B E k v ys) (hx : a.eval x = .slice (some ⟨W.heap.size, 0, none⟩) 1 1) (hB : B ≤ W.heap.size) (hlen : ys.length < 17592186044415)
    (h : ∀ v' w', Owns w' B E k v' (ys ++ [y]) → Below B W w' → wpList Try.prog ops Q rest (a.put o.dst v') w') : wpList Try.prog ops Q (o :: rest) a (W.alloc (.cells #[.int k y] E)) := by
  obtain ⟨i0, hi, hz0, hz1, hz2⟩ := info_parts hI
  refine wpList_append_own _ hgd s x T ho B E i0 (.int k 0) 1 8 hT hi hz0 hz1 hz2 rfl (by decide) v ys.length (ys.map (Value.int k)) hs (hown.alloc _) ⟨W.heap.size, 0, none⟩ 1 1 [.int k y] hx rfl ?_ ?_ ?_ ?_ ?_ ?_
  · intro j u hj
    match j, hj with
    | 0, hj => simp at hj; subst hj; simp [Addr.add, go_sem]
  · intro u hu; simp at hu; subst hu; rfl
  · unfold maxLen; omega
  · omega
  · simp; omega
  · intro v' w' h1 h2 _
    exact h v' w' (owns_snoc h1) (below_grow (Below.refl _ _) hown hB _ h2)

/-- An operation without a guard is wanted. -/
theorem step_plain {ops : Array Oper} {o : Oper} {a : Act} {w : World} {K : Act → World → Prop} {Q : Exit → Act → World → Prop} {E' : Prop} (hgd : o.guard = none) (h : o.wp Try.prog a w K Q) :
    if Region.wanted o (yielded ops a.tmps) = true then Oper.wp Try.prog o a w K Q else E' := by
  rw [if_pos (by simp [Region.wanted, hgd])]
  exact h

/-- The same at the operation, in whatever world. -/
theorem wp_append_one {o : Oper} {a : Act} {K : Act → World → Prop} {Q : Exit → Act → World → Prop} {W : World} {T E : TypeId} {k : IntKind} {B H : Nat} {v : Value} {ys : List Int} {y : Int}
    (hT : Try.prog.underlying T = some (.slice E)) (hI : (Try.prog.info? E).map (fun i => (i.zero, i.size, i.bytes)) = some (some (.int k 0), 1, 8)) (s x : Operand)
    (ho : o.op = .call { callee := .builtin .append, args := #[s, x], argTypes := #[T, T] }) (hs : a.eval s = v) (hown : Owns W B E k v ys) (hx : a.eval x = .slice (some ⟨H, 0, none⟩) 1 1) (hc : W.cell? ⟨H, 0, none⟩ = some (.int k y)) (hB : B ≤ W.heap.size) (hlen : ys.length < 17592186044415)
    (h : ∀ v' w', Owns w' B E k v' (ys ++ [y]) → Below B W w' → K (a.put o.dst v') w') : o.wp Try.prog a W K Q := by
  obtain ⟨i0, hi, hz0, hz1, hz2⟩ := info_parts hI
  refine wp_append_lies _ s x T ho B E i0 (.int k 0) 1 8 hT hi hz0 hz1 hz2 rfl (by decide) v ys.length (ys.map (Value.int k)) hs hown ⟨H, 0, none⟩ 1 1 [.int k y] hx rfl ?_ ?_ (by decide) ?_ ?_ hB _ rfl ?_
  · intro j u hj
    match j, hj with
    | 0, hj => simp at hj; subst hj; simpa [Addr.add] using hc
  · intro u hu; simp at hu; subst hu; rfl
  · unfold maxLen; omega
  · omega
  · intro g cap w' h1 h2 _ _
    exact h _ w' (owns_snoc h1) ((Below.refl _ _).grown h2 hB (fun i hi => (World.ownsRow.lt hown i hi).1))

/-- Two cells from below B, kept by whatever leaves all below B as it is. -/
theorem keepB {w0 w w' : World} {B : Nat} {p q : Addr} {u v : Value} (hp : p.block < B) (hq : q.block < B) (hS : w.cell? p = some u ∧ w.cell? q = some v ∧ Below B w0 w) (hb : Below B w w') :
    w'.cell? p = some u ∧ w'.cell? q = some v ∧ Below B w0 w' :=
  ⟨(hb.cell hp).trans hS.1, (hb.cell hq).trans hS.2.1, hS.2.2.trans hb⟩

end Go.Proofs.Ythnpbfboedgmpaa
