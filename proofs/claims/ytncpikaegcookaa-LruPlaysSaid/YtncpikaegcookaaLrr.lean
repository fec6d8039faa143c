/- lru: rows of pointers: slices.Index, Delete, Insert. -/
import Derived.Test.YtncpikaegcookaaLr1
import Derived.Test.YtncpikaegcookaaGate
import Derived.Test.YtncpikaegcookaaBut
import Derived.LaidEqlPtr
import Derived.Deep.AppendSrc
import Derived.Deep.MidRow
import Derived.Lib.SliceRun
import Derived.Lib.Overlaps
import Derived.Lib.AppendZerosOnto
import Derived.Laws.AppendOwn
namespace Go.Proofs.Ytncpikaegcookaa
open Go.ChangeShapes Go.WideShapes Go.ChangeAt Go.RowKit
set_option linter.unusedVariables false
set_option linter.unusedSimpArgs false
theorem row_set1 {w : World} {g o : Nat} {cs : Array Value} {T : TypeId} {fr : Nat × Nat} (h : w.heap[g]? = some (.cells cs T fr)) (v : Value) : (w.setCell ⟨g, o, none⟩ v).heap[g]? = some (.cells (cs.setIfInBounds o v) T fr) := by
  simp [World.setCell, Array.getElem?_modify, h]
/-- A row of pointers in block F. -/
def FB (w : World) (F : Nat) (L : List Value) : Prop := w.heap[F]? = some (.cells L.toArray 52 (0, 0))
theorem FB.lt {w : World} {F : Nat} {L : List Value} (h : FB w F L) : F < w.heap.size := Nat.lt_of_not_le fun hn => by
  unfold FB at h; rw [Array.getElem?_eq_none hn] at h; cases h
theorem FB.cell {w : World} {F : Nat} {L : List Value} (h : FB w F L) {i : Nat} {v : Value} (hi : L[i]? = some v) : w.cell? ⟨F, i, none⟩ = some v := by
  rw [cell_of_row _ _ _ _ _ _ h]; simpa using hi
theorem FB.some {w : World} {F : Nat} {L : List Value} (h : FB w F L) {i : Nat} (hi : i < L.length) : (w.cell? ⟨F, i, none⟩).isSome = true := by
  rw [h.cell (List.getElem?_eq_getElem hi)]; rfl
theorem FB.free {w : World} {F : Nat} {L : List Value} (h : FB w F L) (i : Nat) : w.frozen? ⟨F, i, none⟩ = false := frozen_of_row _ _ _ _ _ h
theorem FB.below {w w' : World} {F : Nat} {L : List Value} (h : FB w F L) (hb : Below w.heap.size w w') : FB w' F L := (hb.block _ h.lt).trans h
theorem FB.but {w w' : World} {F G : Nat} {L : List Value} (h : FB w F L) (hb : But w w' G) (hn : F ≠ G) : FB w' F L := (hb.o _ h.lt hn).trans h
theorem set_take_drop {α : Type} {L : List α} {o : Nat} {v : α} (ho : o < L.length) : (L.set o v).take (o + 1) = L.take o ++ [v] ∧ ∀ k, (L.set o v).drop (o + 1 + k) = L.drop (o + 1 + k) := by
  rw [List.set_eq_take_append_cons_drop, if_pos ho]
  have hl : (L.take o).length = o := by rw [List.length_take]; omega
  refine ⟨?_, fun k => ?_⟩
  · rw [List.take_append, hl, List.take_of_length_le (by omega), show o + 1 - o = 1 by omega]; rfl
  · rw [List.drop_append, hl, List.drop_of_length_le (by omega), List.nil_append, show o + 1 + k - o = k + 1 by omega, List.drop_succ_cons, List.drop_drop]
theorem FB.set {F : Nat} : ∀ (vs : List Value) {w : World} {L : List Value} (o : Nat), FB w F L → o + vs.length ≤ L.length → FB (w.setCells F o vs) F (L.take o ++ vs ++ L.drop (o + vs.length))
  | [], w, L, o, h, _ => by
    rw [World.setCells, List.append_nil, List.length_nil, Nat.add_zero, List.take_append_drop]; exact h
  | v :: vs, w, L, o, h, ho => by
    rw [List.length_cons] at ho
    have h1 : FB (w.setCell ⟨F, o, none⟩ v) F (L.set o v) := by
      unfold FB
      rw [row_set1 h, List.setIfInBounds_toArray]
    have h2 := FB.set vs (o + 1) h1 (by rw [List.length_set]; omega)
    obtain ⟨e1, e2⟩ := set_take_drop (v := v) (show o < L.length by omega)
    rw [e1, e2] at h2
    rw [World.setCells]
    rw [List.append_assoc, List.append_assoc, List.singleton_append, ← List.cons_append, ← List.append_assoc] at h2
    rw [List.length_cons, show o + (vs.length + 1) = o + 1 + vs.length by omega]
    exact h2
theorem But.cells (F : Nat) : ∀ (vs : List Value) (o : Nat) (w : World), But w (w.setCells F o vs) F
  | [], _, w => But.refl w F
  | v :: vs, o, w => by rw [World.setCells]; exact (But.set w F o v).trans (But.cells F vs (o + 1) _)
def nilP : Value := .pointer none
theorem info_p : (Try.prog.info? 52).map (fun i => (i.zero, i.size, i.bytes)) = some (some nilP, 1, 8) := by kernel_rfl
theorem size_p : (Try.prog.info? 52).map (·.size) = some 1 := by kernel_rfl
theorem zero_p (w : World) : (zeroValue 52).run Try.prog w = .ok nilP w := by kernel_rfl
theorem info_p' : ∃ i, Try.prog.info? 52 = some i ∧ i.zero = some nilP ∧ i.size = 1 ∧ i.bytes = 8 := by
  have h := info_p
  cases hq : Try.prog.info? 52 with
  | none => rw [hq] at h; cases h
  | some i =>
    rw [hq] at h
    simp only [Option.map_some, Option.some.injEq, Prod.mk.injEq] at h
    exact ⟨i, rfl, h.1, h.2.1, h.2.2⟩
theorem thing_size : (Try.prog.info? 57).map (·.size) = some 2 := by kernel_rfl
def ptr (t : Nat) : Value := .pointer (some ⟨t, 0, none⟩)
set_option maxRecDepth 100000 in
set_option maxHeartbeats 4000000 in
theorem l_index (F n cap i t : Nat) (ts : List Nat) (L : List Value) (W : World) (h : FB W F L) (hL : ∀ (j x : Nat), ts[j]? = some x → L[j]? = some (ptr x)) (hn : ts.length = n) (hnc : n ≤ cap) (hb : n ≤ 100000) (hi : ts[i]? = some t) (hd : ts.Nodup) (hT : ∀ (j x : Nat), ts[j]? = some x → ∃ c, W.heap[x]? = some (.cells c 57 (0, 0))) :
    Calls Try.prog 30 #[.slice (some ⟨F, 0, none⟩) n cap, ptr t] W fun e w' => e = .returned (.int .i64 i) ∧ w' = W := by
  have hin := (List.getElem?_eq_some_iff.1 hi).1
  have HC := Lib.hid (fun (j x : Nat) (hj : ts[j]? = some x) => h.cell (hL j x hj))
  have HI := Lib.hid hi
  have HD := Lib.hid hd
  have HB := Lib.hid hb
  have HF := Lib.hid h.lt
  obtain ⟨tj, htj⟩ : ∃ i, Try.prog.info? 57 = some i := by
    cases hq : Try.prog.info? 57 with
    | none => have h9 := thing_size; rw [hq] at h9; cases h9
    | some i => exact ⟨i, rfl⟩
  have HSZ := Lib.hid (show tj.size ≠ 0 by have h9 := thing_size; rw [htj] at h9; simp at h9; omega)
  have HT := Lib.hid hT
  have HTJ := Lib.hid htj
  clear h hL hb hi hd hT htj
  unfold ptr
  go_enter Try.func30, Try.ntmps30
  go_wp2_with fail
  go_loopw [8] (fun x wr => ∃ (j : Nat), x = .int .i64 j ∧ Hid (j ≤ i) ∧ Hid (wr = W)) (fun x _ => n - (match x with | .int _ n => n.toNat | _ => 0))
  case atStart => exact ⟨0, rfl, Lib.hid (Nat.zero_le _), Lib.hid rfl⟩
  case round =>
    obtain ⟨j, rfl, HJ, HW⟩ := hrel
    obtain rfl := HW.out
    have hj : j < n := by have := HJ.out; omega
    obtain ⟨x, hx⟩ : ∃ x, ts[j]? = some x := ⟨_, List.getElem?_eq_getElem (by omega)⟩
    have hc := HC.out j x hx
    have hlt := HF.out
    have WR := Lib.hid (show wrap64 ((j : Int) + 1) = ((j + 1 : Nat) : Int) by have := HB.out; simp only [wrap64]; omega)
    unfold ptr at hc
    by_cases e : j = i
    · subst e
      have : x = t := by have := HI.out; rw [hx] at this; exact Option.some.inj this
      subst this
      have heq := run_eql_ptr_same wr (⟨x, 0, none⟩ : Addr) Try.underlying52 HTJ.out
      go_wp2_with fail
      go_ret
      exact ⟨rfl, rfl⟩
    · have hne : ¬ t = x := fun e2 => e ((List.getElem?_inj (by omega) HD.out).1 (by rw [hx, HI.out, e2]))
      have HE := Lib.hid e
      obtain ⟨c1, hc1⟩ := HT.out i t HI.out
      obtain ⟨c2, hc2⟩ := HT.out j x hx
      have heq := run_eql_ptr_other wr (a := ⟨t, 0, none⟩) (b := ⟨x, 0, none⟩) Try.underlying52 HTJ.out HSZ.out (by intro e9; exact hne (congrArg Addr.block e9)) hc1 hc2
      clear hx e hc1 hc2 hne
      go_wp2_with fail
      go_roundw
      case rel => exact ⟨j + 1, by first | rw [WR.out] | simp, Lib.hid (by have := HJ.out; have := HE.out; omega), Lib.hid (by first | rfl | trivial)⟩
      case measure => first | (simp; omega) | (simp [WR.out]; omega)
/-- 'append' whose run is known, as one step of a region. -/
theorem step_app {ops : Array Oper} {o : Oper} {a : Act} {w : World} {K : Act → World → Prop} {Q : Exit → Act → World → Prop} {E : Prop} (hgd : o.guard = none) (s x : Operand) (T T' : TypeId)
    (ho : o.op = .call { callee := .builtin .append, args := #[s, x], argTypes := #[T, T'] }) (v u : Value) (hs : a.eval s = v) (hx : a.eval x = u) {v' : Value} {w' : World} (hr : (Builtin.append_ #[T, T'] o.type #[v, u]).run Try.prog w = .ok v' w') (h : K (a.put o.dst v') w') :
    if Region.wanted o (yielded ops a.tmps) = true then Oper.wp Try.prog o a w K Q else E := by
  rw [if_pos (by simp [Region.wanted, hgd])]
  unfold Oper.wp execOp
  simp only [ho, resolve, invoke, builtin, Sem.run_bind, Sem.run_pure, Result.andThen_ok, List.map_toArray, List.map_cons, List.map_nil, hs, hx, hr]
  exact h
theorem wpl_app {ops : Array Oper} {rest : List Oper} {o : Oper} {a : Act} {w : World} {Q : Exit → Act → World → Prop} (hgd : o.guard = none) (s x : Operand) (T T' : TypeId)
    (ho : o.op = .call { callee := .builtin .append, args := #[s, x], argTypes := #[T, T'] }) (v u : Value) (hs : a.eval s = v) (hx : a.eval x = u) {v' : Value} {w' : World} (hr : (Builtin.append_ #[T, T'] o.type #[v, u]).run Try.prog w = .ok v' w') (h : wpList Try.prog ops Q rest (a.put o.dst v') w') :
    wpList Try.prog ops Q (o :: rest) a w :=
  wpList_plain hgd fun K hK => by
    unfold Oper.wp execOp
    simp only [ho, resolve, invoke, builtin, Sem.run_bind, Sem.run_pure, Result.andThen_ok, List.map_toArray, List.map_cons, List.map_nil, hs, hx, hr]
    exact hK _ _ h
/-- 'copy' whose run is known, as one step of a region. -/
theorem step_cpy {ops : Array Oper} {o : Oper} {a : Act} {w : World} {K : Act → World → Prop} {Q : Exit → Act → World → Prop} {E : Prop} (hgd : o.guard = none) (s x : Operand) (T T' : TypeId)
    (ho : o.op = .call { callee := .builtin .copy, args := #[s, x], argTypes := #[T, T'] }) (v u : Value) (hs : a.eval s = v) (hx : a.eval x = u) {v' : Value} {w' : World} (hr : (Builtin.copy_ #[T, T'] o.type #[v, u]).run Try.prog w = .ok v' w') (h : K (a.put o.dst v') w') :
    if Region.wanted o (yielded ops a.tmps) = true then Oper.wp Try.prog o a w K Q else E := by
  rw [if_pos (by simp [Region.wanted, hgd])]
  unfold Oper.wp execOp
  simp only [ho, resolve, invoke, builtin, Sem.run_bind, Sem.run_pure, Result.andThen_ok, List.map_toArray, List.map_cons, List.map_nil, hs, hx, hr]
  exact h
theorem wpl_cpy {ops : Array Oper} {rest : List Oper} {o : Oper} {a : Act} {w : World} {Q : Exit → Act → World → Prop} (hgd : o.guard = none) (s x : Operand) (T T' : TypeId)
    (ho : o.op = .call { callee := .builtin .copy, args := #[s, x], argTypes := #[T, T'] }) (v u : Value) (hs : a.eval s = v) (hx : a.eval x = u) {v' : Value} {w' : World} (hr : (Builtin.copy_ #[T, T'] o.type #[v, u]).run Try.prog w = .ok v' w') (h : wpList Try.prog ops Q rest (a.put o.dst v') w') :
    wpList Try.prog ops Q (o :: rest) a w :=
  wpList_plain hgd fun K hK => by
    unfold Oper.wp execOp
    simp only [ho, resolve, invoke, builtin, Sem.run_bind, Sem.run_pure, Result.andThen_ok, List.map_toArray, List.map_cons, List.map_nil, hs, hx, hr]
    exact hK _ _ h
end Go.Proofs.Ytncpikaegcookaa
