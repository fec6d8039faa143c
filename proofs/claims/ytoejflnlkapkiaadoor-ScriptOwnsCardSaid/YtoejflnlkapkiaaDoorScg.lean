/- slices.Clone at []uint64. -/
import Derived.Test.YtoejflnlkapkiaaDoorScf
import Derived.Test.YtoejflnlkapkiaaDoorOwnm
import Derived.Lib.SliceRun
namespace Go.Proofs.YtoejflnlkapkiaaDoor
open Go.ChangeShapes Go.WideShapes Go.ChangeAt Go.RowKit
set_option linter.unusedVariables false
set_option linter.unusedSimpArgs false
theorem own_made0 (w : World) (B : Nat) (E : TypeId) (hB : B ≤ w.heap.size) : (w.alloc (.cells #[] E)).ownsRow B E 1 (.slice (some ⟨w.heap.size, 0, none⟩) 0 0) 0 [] :=
  ⟨rfl, .inr ⟨w.heap.size, 0, #[], rfl, hB, heap_alloc_new _ _, Nat.le_refl _, by decide, rfl, rfl⟩⟩
theorem append_none0 {ops : Array Oper} {rest : List Oper} {o : Oper} {a : Act} {Q : Exit → Act → World → Prop} {W : World} {T E : TypeId} {k : IntKind} {b off : Nat} {p : Option Addr} {c : Nat}
    (hT : Tryd.prog.underlying T = some (.slice E)) (hI : (Tryd.prog.info? E).map (fun i => (i.zero, i.size, i.bytes)) = some (some (.int k 0), 1, 8)) (hgd : o.guard = none) (s x : Operand)
    (ho : o.op = .call { callee := .builtin .append, args := #[s, x], argTypes := #[T, T] }) (hs : a.eval s = .slice (some ⟨b, off, none⟩) 0 0) (hx : a.eval x = .slice p 0 c)
    (h : wpList Tryd.prog ops Q rest (a.put o.dst (.slice (some ⟨b, off, none⟩) 0 0)) W) : wpList Tryd.prog ops Q (o :: rest) a W := by
  obtain ⟨i0, hi, hz0, hz1, hz2⟩ := info_parts hI
  have hsrc : Src Tryd.prog i0.size T (.slice p 0 c) 0 [] W := by
    cases p with
    | none => exact Src.ofNil W hT c
    | some ad => exact Src.ofSlice W hT ad 0 c [] (by simp) (fun j u hj => by simp at hj) (fun u hu => by cases hu)
  have hrun := run_append_room_src (P := Tryd.prog) W T T o.type E i0 hT hi b off 0 0 _ 0 [] hsrc (by omega) (fun j hj => by simp at hj) (fun j hj => by simp at hj)
  have hset : W.setCells b (off + 0 * i0.size) [] = W := rfl
  rw [hset] at hrun
  refine wpList_plain hgd fun _ hK => ?_
  unfold Oper.wp execOp
  simp only [ho, resolve, invoke, builtin, Sem.run_bind, Sem.run_pure, Result.andThen_ok, List.map_toArray, List.map_cons, List.map_nil, hx, hs, hrun]
  exact hK _ _ h
set_option maxRecDepth 100000 in
set_option maxHeartbeats 4000000 in
theorem sc_clone (v : Value) (xs : List Int) (W : World) (h : RowX W v xs) (hn : xs.length ≤ 1000000) :
    Calls Tryd.prog 33 #[v] W fun e w' => ∃ v', e = .returned v' ∧ RowX w' v' xs ∧ (∀ q n c, v' = .slice (some q) n c → W.heap.size ≤ q.block) ∧ Below W.heap.size W w' := by
  obtain ⟨p, k, rfl, hr⟩ := h
  cases p with
  | none =>
    have hx : xs = [] := by
      rcases hr.reads with h | ⟨b, o, h, -⟩
      · exact h
      · cases h
    subst hx
    have hq := Lib.run_eql_slice_nil (P := Tryd.prog) W 47 _ none 0 k 0 0 Tryd.underlying47
    go_enter Tryd.func33, Tryd.ntmps33
    go_wp2_with fail
    go_ret
    exact ⟨_, rfl, ⟨none, 0, rfl, hr⟩, (fun (q : Addr) (n c : Nat) (h : _ = Value.slice (some q) n c) => by
      have h2 : Value.slice none 0 0 = Value.slice (some q) n c := h
      cases h2), Below.refl _ _⟩
  | some ad =>
    have HR := Lib.hid hr
    clear hr
    have hq := Lib.run_eql_slice_nil (P := Tryd.prog) W 47 _ (some ad) xs.length k 0 0 Tryd.underlying47
    obtain ⟨w0, hw0, -, hB0, hs0⟩ := boxG W #[] 78
    have HO := Lib.hid (show Owns w0 W.heap.size 78 .u64 (.slice (some ⟨W.heap.size, 0, none⟩) 0 0) [] by rw [← hw0]; exact own_made0 W _ _ (Nat.le_refl _))
    have HB0 := Lib.hid hB0
    have HR0 := Lib.hid (HR.out.below hB0)
    have hz : W.heap.size ≤ w0.heap.size := by omega
    clear hB0 hs0
    by_cases hx : xs = []
    · subst hx
      simp only [List.length_nil] at hq
      go_enter Tryd.func33, Tryd.ntmps33
      go_wp2_with (at_builtin; refine append_none0 (T := 47) (E := 78) (k := .u64) Tryd.underlying47 info_u64 rfl _ _ rfl rfl rfl ?_)
      go_ret
      exact ⟨_, rfl, ⟨_, _, rfl, ⟨rfl, .inl rfl, by simp, by decide⟩⟩, (fun (q : Addr) (n c : Nat) (h : _ = Value.slice (some q) n c) => by
        have h2 : Value.slice (some ⟨W.heap.size, 0, none⟩) 0 0 = Value.slice (some q) n c := h
        cases h2
        exact Nat.le_refl _), HB0.out⟩
    · have hne : 0 < xs.length := List.length_pos_iff.2 hx
      go_enter Tryd.func33, Tryd.ntmps33
      go_wp2_with (at_builtin; refine append_many (T := 47) (E := 78) (k := .u64) (zs := xs) Tryd.underlying47 info_u64 rfl _ _ rfl rfl HO.out rfl rfl HR0.out.reads hz (by simp; omega) hne ?_; intro v1 w1 hO1 hb1; have HO1 := Lib.hid hO1; have HB1 := Lib.hid hb1; clear hO1 hb1)
      go_ret
      obtain ⟨a1, c1, e1, hr1, -, -⟩ := HO1.out.shape
      refine ⟨_, rfl, ⟨a1, c1, e1, ⟨rfl, hr1, HR.out.wf, HR.out.small⟩⟩, fun q n c h => ?_, HB0.out.trans HB1.out⟩
      rcases own_form HO1.out with ⟨hv, -, -⟩ | ⟨g, c', hv, hg, -⟩
      · have h2 := hv.symm.trans h; cases h2
      · have h2 := hv.symm.trans h; cases h2; exact hg
end Go.Proofs.YtoejflnlkapkiaaDoor
