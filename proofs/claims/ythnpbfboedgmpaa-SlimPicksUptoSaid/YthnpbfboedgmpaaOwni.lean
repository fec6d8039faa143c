/- 'append(nil, l...)' of ints; small laws of rows of ints. -/
import Derived.Test.YthnpbfboedgmpaaOwn
import Derived.Test.YthnpbfboedgmpaaRowi
import Derived.Deep.AppendSrc
import Derived.Deep.Upon
namespace Go.Proofs.Ythnpbfboedgmpaa
open Go.ChangeShapes Go.WideShapes Go.ChangeAt Go.RowKit
set_option linter.unusedVariables false
theorem append_all {ops : Array Oper} {rest : List Oper} {o : Oper} {a : Act} {Q : Exit → Act → World → Prop} {W : World} {T E : TypeId} {k : IntKind} {B : Nat} {v : Value} {ys zs : List Int} {p : Option Addr} {m c : Nat}
    (hT : Try.prog.underlying T = some (.slice E)) (hI : (Try.prog.info? E).map (fun i => (i.zero, i.size, i.bytes)) = some (some (.int k 0), 1, 8)) (hgd : o.guard = none) (s x : Operand)
    (ho : o.op = .call { callee := .builtin .append, args := #[s, x], argTypes := #[T, T] }) (hs : a.eval s = v) (hown : Owns W B E k v ys) (hx : a.eval x = .slice p m c) (hm : zs.length = m) (hr : Reads k W p zs) (hB : B ≤ W.heap.size) (hlen : ys.length + m ≤ 17592186044415)
    (h : ∀ v' w', Owns w' B E k v' (ys ++ zs) → Below B W w' → wpList Try.prog ops Q rest (a.put o.dst v') w') : wpList Try.prog ops Q (o :: rest) a W := by
  obtain ⟨i0, hi, hz0, hz1, hz2⟩ := info_parts hI
  by_cases hne : 0 < m
  · rcases hr with hnil | ⟨b, off, rfl, hb, hcell⟩
    · rw [hnil] at hm; simp at hm; omega
    refine wpList_append_lies _ hgd s x T ho B E i0 (.int k 0) 1 8 hT hi hz0 hz1 hz2 rfl (by decide) v ys.length (ys.map (Value.int k)) hs hown ⟨b, off, none⟩ m c (zs.map (Value.int k)) hx (by simpa using hm) ?_ ?_ hne ?_ ?_ hB _ rfl ?_
    · intro j u hj
      have hj' : j < zs.length := by
        by_cases hlt : j < zs.length
        · exact hlt
        · have : (zs.map (Value.int k))[j]? = none := by simp; omega
          rw [this] at hj; cases hj
      have e : (zs.map (Value.int k))[j]? = some (.int k (zs.getD j 0)) := by simp [List.getD, hj']
      rw [e] at hj
      cases hj
      have hadd : (⟨b, off, none⟩ : Addr).add j = ⟨b, off + j, none⟩ := by unfold Addr.add; split <;> simp_all
      rw [hadd]
      exact hcell j hj'
    · intro u hu
      obtain ⟨z, _, rfl⟩ := List.mem_map.1 hu
      rfl
    · unfold maxLen; omega
    · omega
    · intro g cap w' h1 h2 _ _
      refine h _ w' ?_ ((Below.refl _ _).grown h2 hB (fun i hi => (World.ownsRow.lt hown i hi).1))
      unfold Owns
      rw [List.length_append, hm, List.map_append]
      exact h1
  · obtain rfl : m = 0 := by omega
    have hz : zs = [] := List.length_eq_zero_iff.1 hm
    subst hz
    rw [List.append_nil] at h
    obtain ⟨q, cap, hv, hr', hcap, _⟩ := hown.shape
    have hsrc : Src Try.prog i0.size T (.slice p 0 c) 0 [] W := by
      cases p with
      | none => exact Src.ofNil W hT c
      | some ad => exact Src.ofSlice W hT ad 0 c [] (by simp) (fun j u hj => by simp at hj) (fun u hu => by cases hu)
    have hrun := run_append_nothing W T T o.type E i0 hT hi q ys.length cap hcap _ hsrc
    refine wpList_plain hgd fun _ hK => ?_
    unfold Oper.wp execOp
    have h' := h v W hown (Below.refl _ _)
    rw [← hs] at h'
    simp only [ho, resolve, invoke, builtin, Sem.run_bind, Sem.run_pure, Result.andThen_ok, List.map_toArray, List.map_cons, List.map_nil, hx]
    rw [hs, hv, hrun]
    rw [hs, hv] at h'
    exact hK _ _ h'
end Go.Proofs.Ythnpbfboedgmpaa
