/- Literals of calls: '[]api.Op{a, b}' where each call is a variable of 19 values. -/
import Derived.Test.YtofgkhoemgimeaaHoe
import Derived.Great.BuildSlice
import Derived.Deep.MidRow
namespace Go.Proofs.Ytofgkhoemgimeaa
open Go.ChangeShapes Go.WideShapes Go.ChangeAt Go.RowKit
set_option linter.unusedVariables false
set_option linter.unusedSimpArgs false
theorem flat_size : ∀ {css : List (Array Value)} {n : Nat}, (∀ cs ∈ css, cs.size = n) → (css.flatMap (·.toList)).length = css.length * n
  | [], _, _ => by simp
  | c :: css, n, h => by
    rw [List.flatMap_cons, List.length_append, flat_size (fun x hx => h x (List.mem_cons_of_mem _ hx)), Array.length_toList, h c (List.mem_cons_self ..), List.length_cons, Nat.add_mul, Nat.one_mul, Nat.add_comm]
theorem flat_at : ∀ {css : List (Array Value)} {n j k : Nat} {cs : Array Value} {v : Value}, (∀ cs ∈ css, cs.size = n) → css[j]? = some cs → cs[k]? = some v → (css.flatMap (·.toList))[j * n + k]? = some v
  | [], _, _, _, _, _, _, h, _ => by simp at h
  | c :: css, n, 0, k, cs, v, hn, hj, hk => by
    obtain rfl : c = cs := by simpa using hj
    have hlt := (Array.getElem?_eq_some_iff.1 hk).1
    rw [List.flatMap_cons, Nat.zero_mul, Nat.zero_add, List.getElem?_append_left (by simpa using hlt)]
    simpa using hk
  | c :: css, n, j + 1, k, cs, v, hn, hj, hk => by
    have h1 := hn c (List.mem_cons_self ..)
    have h2 := flat_at (css := css) (j := j) (fun x hx => hn x (List.mem_cons_of_mem _ hx)) (by simpa using hj) hk
    rw [List.flatMap_cons, List.getElem?_append_right (by simp [h1, Nat.add_mul]; omega)]
    rw [show (j + 1) * n + k - c.toList.length = j * n + k by simp [h1, Nat.add_mul]; omega]
    exact h2
/-- A literal of whole structs of n cells. -/
theorem wp_structs {n : Nat} {E : TypeId} (hE : (Try.prog.info? E).map (·.size) = some n) (hZ : ((Try.prog.info? E).bind (·.zero)).map (·.cells.size) = some n) (hn : 0 < n ∧ n ≤ 1000) {o : Oper} {a : Act} {w : World} {K : Act → World → Prop} {Q : Exit → Act → World → Prop} (t : TypeId) (m : Nat) (parts : Array (Nat × Operand)) (ho : o.op = .buildSlice t m parts)
    (hu : Try.prog.underlying t = some (.slice E)) (css : List (Array Value)) (hm : m = css.length) (hp : 0 < m ∧ m ≤ 1000) (hs : ∀ cs ∈ css, cs.size = n)
    (hparts : (parts.map fun (i, x) => (i, a.eval x)).toList = ((css.map Value.agg).zipIdx 0).map fun x => (x.2, x.1))
    (h : K (a.put o.dst (.slice (some ⟨w.heap.size, 0, none⟩) m m)) (w.alloc (.cells (css.flatMap (·.toList)).toArray E))) : o.wp Try.prog a w K Q := by
  cases hie : Try.prog.info? E with
  | none => simp [hie] at hE
  | some ie =>
    simp only [hie, Option.map_some, Option.some.injEq, Option.bind_some] at hE hZ
    cases hz : ie.zero with
    | none => simp [hz] at hZ
    | some z =>
      have hmn : m * n ≤ 1000000 := Nat.le_trans (Nat.mul_le_mul hp.2 hn.2) (by omega)
      have hmn0 : 0 < m * n := Nat.mul_pos hp.1 hn.1
      have hf := Great.fill_whole hn.1 (css.map Value.agg) ((Array.range (m * n)).map (z.cells[· % z.cells.size]!)) (fun v hv => by
        obtain ⟨c, hc, rfl⟩ := List.mem_map.1 hv
        exact hs c hc) (by simp [hm])
      rw [show ((css.map Value.agg).flatMap fun v => v.cells.toList) = css.flatMap (·.toList) by
        induction css with
        | nil => rfl
        | cons c l ih => simp [List.flatMap_map, Value.cells]] at hf
      refine wp_buildSlice t E m parts ho _ ie z hu hie hz (by rw [hE]; omega) (by rw [hE]; omega) ?_ h
      rw [hparts, hE]
      exact hf
theorem op_zero : ((Try.prog.info? 41).bind (·.zero)).map (·.cells.size) = some 19 := by kernel_rfl
theorem wp_ops {o : Oper} {a : Act} {w : World} {K : Act → World → Prop} {Q : Exit → Act → World → Prop} (m : Nat) (parts : Array (Nat × Operand)) (ho : o.op = .buildSlice 22 m parts)
    (css : List (Array Value)) (hm : m = css.length) (hp : 0 < m ∧ m ≤ 1000) (hs : ∀ cs ∈ css, cs.size = 19)
    (hparts : (parts.map fun (i, x) => (i, a.eval x)).toList = ((css.map Value.agg).zipIdx 0).map fun x => (x.2, x.1))
    (h : K (a.put o.dst (.slice (some ⟨w.heap.size, 0, none⟩) m m)) (w.alloc (.cells (css.flatMap (·.toList)).toArray 41))) : o.wp Try.prog a w K Q :=
  wp_structs op_size op_zero (by omega) 22 m parts ho Try.underlying22 css hm hp hs hparts h
theorem wpl_ops {ops : Array Oper} {rest : List Oper} {op : Oper} {a : Act} {w : World} {Q : Exit → Act → World → Prop} (hw : Region.wanted op (yielded ops a.tmps) = true) (m : Nat) (parts : Array (Nat × Operand)) (ho : op.op = .buildSlice 22 m parts)
    (css : List (Array Value)) (hm : m = css.length) (hp : 0 < m ∧ m ≤ 1000) (hs : ∀ cs ∈ css, cs.size = 19)
    (hparts : (parts.map fun (i, x) => (i, a.eval x)).toList = ((css.map Value.agg).zipIdx 0).map fun x => (x.2, x.1)) {w1 : World} (hw1 : w.alloc (.cells (css.flatMap (·.toList)).toArray 41) = w1)
    (h : wpList Try.prog ops Q rest (a.put op.dst (.slice (some ⟨w.heap.size, 0, none⟩) m m)) w1) : wpList Try.prog ops Q (op :: rest) a w :=
  wpList_step fun K hK => by
    rw [if_pos hw]
    exact wp_ops m parts ho css hm hp hs hparts (hw1 ▸ hK _ _ h)
/-- A whole call is read, where a guard wants it. -/
theorem wpl_opw {ops : Array Oper} {rest : List Oper} {op : Oper} {a : Act} {w : World} {Q : Exit → Act → World → Prop} {cs : Array Value} (hw : Region.wanted op (yielded ops a.tmps) = true) (x : Operand) (ho : op.op = .load 41 x)
    (b o : Nat) (hx : a.eval x = .pointer (some ⟨b, o, none⟩)) (hn : cs.size = 19) (hc : w.rangeAt b o cs.toList)
    (h : wpList Try.prog ops Q rest (a.put op.dst (.agg cs)) w) : wpList Try.prog ops Q (op :: rest) a w :=
  wpList_step fun K hK => by
    rw [if_pos hw]
    exact wp_load_mid _ x ho b o hx cs.toList _ hc Try.underlying41 rfl (by rw [Array.length_toList, hn]; exact op_size) (hK _ _ h)
/-- A whole call goes into a block that is there. -/
theorem wpl_stow {ops : Array Oper} {rest : List Oper} {op : Oper} {a : Act} {w w1 : World} {Q : Exit → Act → World → Prop} (hgd : op.guard = none) (x y : Operand) (ho : op.op = .store 41 x y)
    (b o : Nat) (cs : Array Value) (hx : a.eval x = .pointer (some ⟨b, o, none⟩)) (hy : a.eval y = .agg cs) (hn : cs.size = 19) (h1 : cs.all (·.oneCell') = true) (ht : w.there b o 19) (hw : w.setCells b o cs.toList = w1)
    (h : wpList Try.prog ops Q rest (a.put op.dst undef) w1) : wpList Try.prog ops Q (op :: rest) a w :=
  wpList_store_mid hgd _ x y ho b o cs hx hy (hn ▸ ht) (by rw [hn]; exact op_size) h1 (hw ▸ h)
theorem there_row {w : World} {b : Nat} {cs : Array Value} {T : TypeId} (h : w.heap[b]? = some (.cells cs T (0, 0))) (n : Nat) (hn : n ≤ cs.size) : w.there b 0 n := fun j hj => by
  refine ⟨?_, frozen_of_row _ _ _ _ _ h⟩
  rw [cell_of_row _ _ _ _ _ _ h, Nat.zero_add, Array.getElem?_eq_getElem (by omega)]; rfl
theorem setCells_below (B b o : Nat) (hb : B ≤ b) : ∀ (vs : List Value) (o : Nat) (w : World), Below B w (w.setCells b o vs)
  | [], o, w => Below.refl _ _
  | v :: vs, o, w => by
    rw [World.setCells]
    exact ((Below.refl _ _).setCell (p := ⟨b, o, none⟩) hb v).trans (setCells_below B b o hb vs (o + 1) _)
/-- A literal's row. -/
theorem ops_row {w w1 : World} {lim : Nat} {css : List (Array Value)} {l : List Ov} (hl : lim ≤ w.heap.size) (hlen : css.length = l.length) (hv : ∀ (i : Nat) cs x, css[i]? = some cs → l[i]? = some x → OvVal w lim cs x)
    (hw : w.alloc (.cells (css.flatMap (·.toList)).toArray 41) = w1) : RowOv w1 lim (.slice (some ⟨w.heap.size, 0, none⟩) l.length l.length) l := by
  have hb : Below w.heap.size w w1 := by rw [← hw]; exact (Below.refl _ _).alloc (Nat.le_refl _) _
  refine ⟨_, _, rfl, .inr ⟨_, 0, rfl, by rw [← hw]; simp, fun j x hj => ?_⟩⟩
  have hlt : j < css.length := by have := (List.getElem?_eq_some_iff.1 hj).1; omega
  have hc : css[j]? = some css[j] := List.getElem?_eq_getElem hlt
  have h1 := hv j _ x hc hj
  refine ⟨css[j], h1.below hl hb, fun k v hk => ?_⟩
  have hs : ∀ cs ∈ css, cs.size = 19 := fun cs hm => by
    obtain ⟨i, hi, rfl⟩ := List.getElem_of_mem hm
    exact (hv i _ _ (List.getElem?_eq_getElem hi) (List.getElem?_eq_getElem (by omega))).n
  rw [← hw, cell_of_row _ _ _ _ _ _ (heap_alloc_new w _)]
  have := flat_at hs hc hk
  simpa using this
end Go.Proofs.Ytofgkhoemgimeaa
