/- 'append(l, m...)' of names, of many or of none. -/
import Derived.Test.YticljddfdeocbaaTabl
import Derived.Deep.AppendSrc
namespace Go.Proofs.Yticljddfdeocbaa
open Go.ChangeShapes Go.WideShapes Go.ChangeAt Go.RowKit
set_option linter.unusedVariables false
/-- Nothing onto nothing. -/
theorem append_nil_zero {ops : Array Oper} {rest : List Oper} {o : Oper} {a : Act} {Q : Exit → Act → World → Prop} {W : World} {T E : TypeId} {i0 : TypeInfo} {p : Option Addr} {c : Nat}
    (hT : Try.prog.underlying T = some (.slice E)) (hi : Try.prog.info? E = some i0) (hgd : o.guard = none) (s x : Operand)
    (ho : o.op = .call { callee := .builtin .append, args := #[s, x], argTypes := #[T, T] }) (hs : a.eval s = .slice none 0 0) (hx : a.eval x = .slice p 0 c)
    (h : wpList Try.prog ops Q rest (a.put o.dst (.slice none 0 0)) W) : wpList Try.prog ops Q (o :: rest) a W := by
  have hsrc : Src Try.prog i0.size T (.slice p 0 c) 0 [] W := by
    cases p with
    | none => exact Src.ofNil W hT c
    | some ad => exact Src.ofSlice W hT ad 0 c [] (by simp) (fun j u hj => by simp at hj) (fun u hu => by cases hu)
  have hrun : (Builtin.append_ #[T, T] o.type #[.slice none 0 0, .slice p 0 c]).run Try.prog W = .ok (.slice none 0 0) W := by
    rcases hsrc.kind with ⟨e', hk⟩ | hk <;> simp [Builtin.append_, run_underlying hT, run_underlying hk, sizeOf, typeInfo, hi, hsrc.len, hsrc.cells]
  refine wpList_plain hgd fun _ hK => ?_
  unfold Oper.wp execOp
  simp only [ho, resolve, invoke, builtin, Sem.run_bind, Sem.run_pure, Result.andThen_ok, List.map_toArray, List.map_cons, List.map_nil, hx, hs, hrun]
  exact hK _ _ h
theorem name_info : ∃ i z, Try.prog.info? 54 = some i ∧ i.zero = some z ∧ i.size = 4 ∧ i.bytes = 32 ∧ z.cells.size = 4 := by
  obtain ⟨i0, hi⟩ : ∃ i, Try.prog.info? 54 = some i := by
    cases h0 : Try.prog.info? 54 with
    | none => have := info_name; rw [h0] at this; cases this
    | some i => exact ⟨i, rfl⟩
  have h1 := info_name
  rw [hi] at h1
  simp only [Option.map_some, Option.some.injEq, Prod.mk.injEq] at h1
  obtain ⟨hz, hsz, hby⟩ := h1
  obtain ⟨z, hz1, hz2⟩ : ∃ z, i0.zero = some z ∧ z.cells.size = 4 := by
    cases h0 : i0.zero with
    | none => rw [h0] at hz; cases hz
    | some z => rw [h0] at hz; simp at hz; exact ⟨z, rfl, hz⟩
  exact ⟨i0, z, hi, hz1, hsz, hby, hz2⟩
theorem flat_len (l : List Nam) : (l.flatMap Nam.cells).length = l.length * 4 := by
  induction l with
  | nil => rfl
  | cons x r ih => rw [List.flatMap_cons, List.length_append, ih]; simp [Nam.cells]; omega
theorem flat_one (l : List Nam) : ∀ u ∈ l.flatMap Nam.cells, u.oneCell' = true := by
  intro u hu
  obtain ⟨x, _, hx⟩ := List.mem_flatMap.1 hu
  simp [Nam.cells] at hx
  rcases hx with rfl | rfl | rfl | rfl <;> rfl
/-- Of one at least, at the operation. -/
theorem wp_append_nms {o : Oper} {a : Act} {K : Act → World → Prop} {Q : Exit → Act → World → Prop} {W : World} {B lim : Nat} {v : Value} {l l2 : List Nam} {p : Option Addr} {c : Nat} (s x : Operand)
    (ho : o.op = .call { callee := .builtin .append, args := #[s, x], argTypes := #[59, 59] }) (hs : a.eval s = v) (hown : OwnNm W B v l) (hx : a.eval x = .slice p l2.length c) (hr : NRow W lim p l2) (h0 : l2 ≠ []) (hB : B ≤ W.heap.size) (hn : l.length + l2.length < 8388608)
    (h : ∀ v' w', OwnNm w' B v' (l ++ l2) → Below B W w' → K (a.put o.dst v') w') : o.wp Try.prog a W K Q := by
  obtain ⟨i0, z, hi, hz1, hsz, hby, hz2⟩ := name_info
  rcases hr with hr | ⟨b, o', rfl, hb, hc⟩
  · exact absurd hr h0
  have hpos : 0 < l2.length := List.length_pos_iff.2 h0
  refine wp_append_lies _ s x 59 ho B 54 i0 z 4 32 Try.underlying59 hi hz1 hsz hby hz2 (by decide) v l.length (l.flatMap Nam.cells) hs hown ⟨b, o', none⟩ l2.length c (l2.flatMap Nam.cells) hx (flat_len l2) ?_ (flat_one l2) hpos (by unfold maxLen; omega) (by omega) hB _ rfl ?_
  · intro j u hj
    have hj2 : j < l2.length * 4 := by rw [← flat_len]; exact (List.getElem?_eq_some_iff.1 hj).1
    obtain ⟨i, t, ht, rfl⟩ : ∃ i t, t < 4 ∧ j = i * 4 + t := ⟨j / 4, j % 4, Nat.mod_lt _ (by omega), by omega⟩
    have hil : i < l2.length := by omega
    obtain ⟨f0, f1, f2, f3⟩ := flat_at l2 i hil
    obtain ⟨q0, q1, q2, q3⟩ := hc i hil
    rw [add_plain]
    have h4 : t = 0 ∨ t = 1 ∨ t = 2 ∨ t = 3 := by omega
    rcases h4 with rfl | rfl | rfl | rfl
    · rw [Nat.add_zero, f0] at hj; cases hj; simpa [Nat.add_assoc] using q0
    · rw [f1] at hj; cases hj; simpa [Nat.add_assoc] using q1
    · rw [f2] at hj; cases hj; simpa [Nat.add_assoc] using q2
    · rw [f3] at hj; cases hj; simpa [Nat.add_assoc] using q3
  · intro g cap w' h2 h3 _ _
    refine h _ w' ?_ ((Below.refl _ _).grown h3 hB (fun i hi => (World.ownsRow.lt hown i hi).1))
    unfold OwnNm
    rw [List.length_append, List.flatMap_append]
    exact h2
/-- Of many, or of none. -/
theorem append_nms {ops : Array Oper} {rest : List Oper} {o : Oper} {a : Act} {Q : Exit → Act → World → Prop} {W : World} {B lim : Nat} {v : Value} {l l2 : List Nam} {p : Option Addr} {c : Nat} (hgd : o.guard = none) (s x : Operand)
    (ho : o.op = .call { callee := .builtin .append, args := #[s, x], argTypes := #[59, 59] }) (hs : a.eval s = v) (hown : OwnNm W B v l) (hx : a.eval x = .slice p l2.length c) (hr : NRow W lim p l2) (hB : B ≤ W.heap.size) (hn : l.length + l2.length < 8388608)
    (h : ∀ v' w', OwnNm w' B v' (l ++ l2) → Below B W w' → wpList Try.prog ops Q rest (a.put o.dst v') w') : wpList Try.prog ops Q (o :: rest) a W := by
  obtain ⟨i0, z, hi, hz1, hsz, hby, hz2⟩ := name_info
  by_cases h0 : l2 = []
  · subst h0
    rw [List.append_nil] at h
    rcases hown.kind with ⟨rfl, hnil⟩ | ⟨g, cg, rfl⟩
    · exact append_nil_zero Try.underlying59 hi hgd s x ho hs hx (h _ W hown (Below.refl _ _))
    · have hsrc : Src Try.prog i0.size 59 (.slice p 0 c) 0 [] W := by
        cases p with
        | none => exact Src.ofNil W Try.underlying59 c
        | some ad => exact Src.ofSlice W Try.underlying59 ad 0 c [] (by simp) (fun j u hj => by simp at hj) (fun u hu => by cases hu)
      obtain ⟨_, _, e, _, hcap, _⟩ := hown.row
      simp only [Value.slice.injEq, true_and] at e
      have hrun := run_append_room_src (P := Try.prog) W 59 59 o.type 54 i0 Try.underlying59 hi g 0 l.length cg _ 0 [] hsrc (by omega) (fun j hj => by simp at hj) (fun j hj => by simp at hj)
      have hset : W.setCells g (0 + l.length * i0.size) [] = W := rfl
      rw [hset] at hrun
      refine wpList_plain hgd fun _ hK => ?_
      unfold Oper.wp execOp
      have hx0 : a.eval x = .slice p 0 c := hx
      simp only [ho, resolve, invoke, builtin, Sem.run_bind, Sem.run_pure, Result.andThen_ok, List.map_toArray, List.map_cons, List.map_nil, hx0, hs, hrun]
      exact hK _ _ (h _ W hown (Below.refl _ _))
  · exact wpList_plain hgd fun _ hK => wp_append_nms s x ho hs hown hx hr h0 hB hn fun v' w' h1 h2 => hK _ _ (h v' w' h1 h2)
end Go.Proofs.Yticljddfdeocbaa
