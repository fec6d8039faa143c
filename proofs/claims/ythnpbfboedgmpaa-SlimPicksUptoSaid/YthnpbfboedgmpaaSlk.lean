/- Calls in memory. By program (genslk.py). -/
import Derived.Test.YthnpbfboedgmpaaVecc
import Derived.Test.YthnpbfboedgmpaaOwnm
import Derived.Test.YthnpbfboedgmpaaOwni
import Derived.Test.YthnpbfboedgmpaaRowset
import Derived.Test.YthnpbfboedgmpaaLexb
import Derived.Test.YthnpbfboedgmpaaSamei
namespace Go.Proofs.Ythnpbfboedgmpaa
open Go.ChangeShapes Go.WideShapes Go.ChangeAt Go.RowKit
set_option linter.unusedVariables false
set_option linter.unusedSimpArgs false
/-- A call in numbers. -/
structure Cl where
  kd : Int
  n : Int
  dir : Int
  s : ByteArray
  who : Int
  at' : Int
  xs : List Int
def i64r (z : Int) : Prop := -9223372036854775808 ≤ z ∧ z ≤ 9223372036854775807
structure Cl.ok (c : Cl) : Prop where
  kd : i64r c.kd
  n : i64r c.n
  dir : i64r c.dir
  who : i64r c.who
  at' : i64r c.at'
def Cl.val (c : Cl) (x : Value) : Value := .agg #[.int .i64 c.kd, .int .i64 c.n, .int .i64 c.dir, .string c.s, .int .i64 c.who, .int .i64 c.at', x]
/-- Its numbers' row. -/
def RowX (w : World) (v : Value) (xs : List Int) : Prop := ∃ p k, v = .slice p xs.length k ∧ Row w p xs.length xs
theorem RowX.below {w w' : World} {v : Value} {xs : List Int} (h : RowX w v xs) (hb : Below w.heap.size w w') : RowX w' v xs := by
  obtain ⟨p, k, rfl, h⟩ := h
  exact ⟨p, k, rfl, h.below hb⟩
theorem boxG (W : World) (cs : Array Value) (T : TypeId) : ∃ w0, W.alloc (.cells cs T) = w0 ∧ w0.heap[W.heap.size]? = some (.cells cs T (0, 0)) ∧ Below W.heap.size W w0 ∧ w0.heap.size = W.heap.size + 1 :=
  ⟨_, rfl, heap_alloc_new _ _, (Below.refl _ _).alloc (Nat.le_refl _) _, by simp⟩
theorem cells7 {w : World} {b : Nat} {T : TypeId} {x0 x1 x2 x3 x4 x5 x6 : Value} (h : w.heap[b]? = some (.cells #[x0, x1, x2, x3, x4, x5, x6] T (0, 0))) :
    w.cell? ⟨b, 0, none⟩ = some x0 ∧ w.cell? ⟨b, 1, none⟩ = some x1 ∧ w.cell? ⟨b, 2, none⟩ = some x2 ∧ w.cell? ⟨b, 3, none⟩ = some x3 ∧ w.cell? ⟨b, 4, none⟩ = some x4 ∧ w.cell? ⟨b, 5, none⟩ = some x5 ∧ w.cell? ⟨b, 6, none⟩ = some x6 := by
  refine ⟨?_, ?_, ?_, ?_, ?_, ?_, ?_⟩ <;> (rw [cell_of_row _ _ _ _ _ _ h]; rfl)
def ClAt (w : World) (b o : Nat) (c : Cl) : Prop := c.ok ∧ w.cell? ⟨b, o, none⟩ = some (.int .i64 c.kd) ∧ w.cell? ⟨b, o + 1, none⟩ = some (.int .i64 c.n) ∧ w.cell? ⟨b, o + 2, none⟩ = some (.int .i64 c.dir) ∧ w.cell? ⟨b, o + 3, none⟩ = some (.string c.s)
  ∧ w.cell? ⟨b, o + 4, none⟩ = some (.int .i64 c.who) ∧ w.cell? ⟨b, o + 5, none⟩ = some (.int .i64 c.at') ∧ ∃ v, w.cell? ⟨b, o + 6, none⟩ = some v ∧ RowX w v c.xs
theorem ClAt.below {w w' : World} {b o : Nat} {c : Cl} (h : ClAt w b o c) (hb : Below w.heap.size w w') (hl : b < w.heap.size) : ClAt w' b o c := by
  obtain ⟨h0, h1, h2, h3, h4, h5, h6, v, h7, h8⟩ := h
  exact ⟨h0, (hb.cell (p := ⟨b, o, none⟩) hl).trans h1, (hb.cell (p := ⟨b, o + 1, none⟩) hl).trans h2, (hb.cell (p := ⟨b, o + 2, none⟩) hl).trans h3, (hb.cell (p := ⟨b, o + 3, none⟩) hl).trans h4, (hb.cell (p := ⟨b, o + 4, none⟩) hl).trans h5, (hb.cell (p := ⟨b, o + 5, none⟩) hl).trans h6, v, (hb.cell (p := ⟨b, o + 6, none⟩) hl).trans h7, h8.below hb⟩
/-- A row of calls. -/
def RowC (w : World) (v : Value) (l : List Cl) : Prop := ∃ p c, v = .slice p l.length c ∧ (l = [] ∨ ∃ b o, p = some ⟨b, o, none⟩ ∧ b < w.heap.size ∧ ∀ (j : Nat) x, l[j]? = some x → ClAt w b (o + j * 7) x)
theorem RowC.below {w w' : World} {v : Value} {l : List Cl} (h : RowC w v l) (hb : Below w.heap.size w w') : RowC w' v l := by
  obtain ⟨p, c, rfl, h⟩ := h
  refine ⟨p, c, rfl, ?_⟩
  rcases h with h | ⟨b, o, hp, hl, h⟩
  · exact .inl h
  · exact .inr ⟨b, o, hp, Nat.lt_of_lt_of_le hl hb.size, fun j x hj => (h j x hj).below hb hl⟩
/-- A row of rows of calls. -/
def RowCC (w : World) (v : Value) (cs : List (List Cl)) : Prop := ∃ p c, v = .slice p cs.length c ∧ (cs = [] ∨ ∃ b o, p = some ⟨b, o, none⟩ ∧ b < w.heap.size ∧ ∀ (j : Nat) l, cs[j]? = some l → ∃ u, w.cell? ⟨b, o + j, none⟩ = some u ∧ RowC w u l)
theorem RowCC.below {w w' : World} {v : Value} {cs : List (List Cl)} (h : RowCC w v cs) (hb : Below w.heap.size w w') : RowCC w' v cs := by
  obtain ⟨p, c, rfl, h⟩ := h
  refine ⟨p, c, rfl, ?_⟩
  rcases h with h | ⟨b, o, hp, hl, h⟩
  · exact .inl h
  · refine .inr ⟨b, o, hp, Nat.lt_of_lt_of_le hl hb.size, fun j l hj => ?_⟩
    obtain ⟨u, h1, h2⟩ := h j l hj
    exact ⟨u, (hb.cell (p := ⟨b, o + j, none⟩) hl).trans h1, h2.below hb⟩
theorem rowI_nil (w : World) : RowI w none 0 [] := ⟨rfl, .inl rfl, by simp, by decide⟩
theorem own_made0 (w : World) (B : Nat) (E : TypeId) (hB : B ≤ w.heap.size) : (w.alloc (.cells #[] E)).ownsRow B E 1 (.slice (some ⟨w.heap.size, 0, none⟩) 0 0) 0 [] :=
  ⟨rfl, .inr ⟨w.heap.size, 0, #[], rfl, hB, heap_alloc_new _ _, Nat.le_refl _, by decide, rfl, rfl⟩⟩
theorem append_none0 {ops : Array Oper} {rest : List Oper} {o : Oper} {a : Act} {Q : Exit → Act → World → Prop} {W : World} {T E : TypeId} {k : IntKind} {b off : Nat} {p : Option Addr} {c : Nat}
    (hT : Try.prog.underlying T = some (.slice E)) (hI : (Try.prog.info? E).map (fun i => (i.zero, i.size, i.bytes)) = some (some (.int k 0), 1, 8)) (hgd : o.guard = none) (s x : Operand)
    (ho : o.op = .call { callee := .builtin .append, args := #[s, x], argTypes := #[T, T] }) (hs : a.eval s = .slice (some ⟨b, off, none⟩) 0 0) (hx : a.eval x = .slice p 0 c)
    (h : wpList Try.prog ops Q rest (a.put o.dst (.slice (some ⟨b, off, none⟩) 0 0)) W) : wpList Try.prog ops Q (o :: rest) a W := by
  obtain ⟨i0, hi, hz0, hz1, hz2⟩ := info_parts hI
  have hsrc : Src Try.prog i0.size T (.slice p 0 c) 0 [] W := by
    cases p with
    | none => exact Src.ofNil W hT c
    | some ad => exact Src.ofSlice W hT ad 0 c [] (by simp) (fun j u hj => by simp at hj) (fun u hu => by cases hu)
  have hrun := run_append_room_src (P := Try.prog) W T T o.type E i0 hT hi b off 0 0 _ 0 [] hsrc (by omega) (fun j hj => by simp at hj) (fun j hj => by simp at hj)
  have hset : W.setCells b (off + 0 * i0.size) [] = W := rfl
  rw [hset] at hrun
  refine wpList_plain hgd fun _ hK => ?_
  unfold Oper.wp execOp
  simp only [ho, resolve, invoke, builtin, Sem.run_bind, Sem.run_pure, Result.andThen_ok, List.map_toArray, List.map_cons, List.map_nil, hx, hs, hrun]
  exact hK _ _ h
theorem s5_row {w : World} {b : Nat} {T : TypeId} {c0 c1 c2 c3 c4 a0 a1 a2 a3 a4 : Value} (h : w.heap[b]? = some (.cells #[c0, c1, c2, c3, c4] T (0, 0))) : (((((w.setCell ⟨b, 0, none⟩ a0).setCell ⟨b, 1, none⟩ a1).setCell ⟨b, 2, none⟩ a2).setCell ⟨b, 3, none⟩ a3).setCell ⟨b, 4, none⟩ a4).heap[b]? = some (.cells #[a0, a1, a2, a3, a4] T (0, 0)) := by
  have h0 := row_setC (o := 0) h a0
  have h1 := row_setC (o := 1) h0 a1
  have h2 := row_setC (o := 2) h1 a2
  have h3 := row_setC (o := 3) h2 a3
  have h4 := row_setC (o := 4) h3 a4
  rw [h4]
  simp only [List.setIfInBounds_toArray, List.set_cons_zero, List.set_cons_succ]
theorem s5_below {W w : World} {b B : Nat} {a0 a1 a2 a3 a4 : Value} (h : Below B W w) (hb : B ≤ b) : Below B W (((((w.setCell ⟨b, 0, none⟩ a0).setCell ⟨b, 1, none⟩ a1).setCell ⟨b, 2, none⟩ a2).setCell ⟨b, 3, none⟩ a3).setCell ⟨b, 4, none⟩ a4) :=
  ((((h.setCell (p := ⟨b, 0, none⟩) hb a0).setCell (p := ⟨b, 1, none⟩) hb a1).setCell (p := ⟨b, 2, none⟩) hb a2).setCell (p := ⟨b, 3, none⟩) hb a3).setCell (p := ⟨b, 4, none⟩) hb a4
theorem sc_cells5 {w : World} {b : Nat} {T : TypeId} {x0 x1 x2 x3 x4 : Value} (h : w.heap[b]? = some (.cells #[x0, x1, x2, x3, x4] T (0, 0))) :
    w.cell? ⟨b, 0, none⟩ = some x0 ∧ w.cell? ⟨b, 1, none⟩ = some x1 ∧ w.cell? ⟨b, 2, none⟩ = some x2 ∧ w.cell? ⟨b, 3, none⟩ = some x3 ∧ w.cell? ⟨b, 4, none⟩ = some x4 := by
  refine ⟨?_, ?_, ?_, ?_, ?_⟩ <;> (rw [cell_of_row _ _ _ _ _ _ h]; rfl)
/-- All seven are. -/
def s7 (w : World) (b : Nat) (a0 a1 a2 a3 a4 a5 a6 : Value) : World := ((((((w.setCell ⟨b, 0, none⟩ a0).setCell ⟨b, 1, none⟩ a1).setCell ⟨b, 2, none⟩ a2).setCell ⟨b, 3, none⟩ a3).setCell ⟨b, 4, none⟩ a4).setCell ⟨b, 5, none⟩ a5).setCell ⟨b, 6, none⟩ a6
theorem s7_row {w : World} {b : Nat} {T : TypeId} {c0 c1 c2 c3 c4 c5 c6 a0 a1 a2 a3 a4 a5 a6 : Value} (h : w.heap[b]? = some (.cells #[c0, c1, c2, c3, c4, c5, c6] T (0, 0))) : (s7 w b a0 a1 a2 a3 a4 a5 a6).heap[b]? = some (.cells #[a0, a1, a2, a3, a4, a5, a6] T (0, 0)) := by
  unfold s7
  have h0 := row_setC (o := 0) h a0
  have h1 := row_setC (o := 1) h0 a1
  have h2 := row_setC (o := 2) h1 a2
  have h3 := row_setC (o := 3) h2 a3
  have h4 := row_setC (o := 4) h3 a4
  have h5 := row_setC (o := 5) h4 a5
  have h6 := row_setC (o := 6) h5 a6
  rw [h6]
  simp only [List.setIfInBounds_toArray, List.set_cons_zero, List.set_cons_succ]
theorem s7_below {W w : World} {b B : Nat} {a0 a1 a2 a3 a4 a5 a6 : Value} (h : Below B W w) (hb : B ≤ b) : Below B W (s7 w b a0 a1 a2 a3 a4 a5 a6) :=
  ((((((h.setCell (p := ⟨b, 0, none⟩) hb a0).setCell (p := ⟨b, 1, none⟩) hb a1).setCell (p := ⟨b, 2, none⟩) hb a2).setCell (p := ⟨b, 3, none⟩) hb a3).setCell (p := ⟨b, 4, none⟩) hb a4).setCell (p := ⟨b, 5, none⟩) hb a5).setCell (p := ⟨b, 6, none⟩) hb a6
theorem call_ret {fn : Func} {p : Tmp} (h : fn.results = #[.cell p 50]) (a : Act) (w : World) (g : Nat) (c : Cl) (x : Value) (hp : a.tmps.getD p undef = .pointer (some ⟨g, 0, none⟩)) (hd : a.defers = [])
    (hg : w.heap[g]? = some (.cells #[.int .i64 c.kd, .int .i64 c.n, .int .i64 c.dir, .string c.s, .int .i64 c.who, .int .i64 c.at', x] 50 (0, 0))) {Q : Ending → World → Prop} (hQ : Q (.returned (c.val x)) w) :
    bodyPost Try.prog fn Q .ret a w :=
  bodyPost_ret (results_cell_row h _ _ g 50 _ (0, 0) _ hp hg Try.underlying50 rfl (by kernel_rfl)) hd hQ
theorem sc_res2 {P : Program} {fn : Func} {p a : Tmp} {ty : TypeId} (h : fn.results = #[.cell p ty, .tmp a]) (tmps : Array Value) (w : World) (g : Nat) (t : TypeId) (cs : Array Value) (fr : Nat × Nat) (d : TypeDesc) (x : Value)
    (hp : tmps.getD p undef = .pointer (some ⟨g, 0, none⟩)) (ha : tmps.getD a undef = x) (hg : w.heap[g]? = some (.cells cs t fr))
    (hu : P.underlying ty = some d) (hd : (match d with | .struct _ | .array _ _ => true | _ => false) = true) (hi : (P.info? ty).map (·.size) = some cs.size) :
    (results fn tmps).run P w = .ok (.tuple #[.agg cs, x]) w := by
  have e : tmps[p]?.getD undef = .pointer (some ⟨g, 0, none⟩) := by simpa using hp
  have ea : tmps[a]?.getD undef = x := by simpa using ha
  simp [results, h, e, ea, asAddr, run_loadVar_row w g t ty cs fr d hg hu hd hi]
theorem frz7 {w : World} {b : Nat} {T : TypeId} {x0 x1 x2 x3 x4 x5 x6 : Value} (h : w.heap[b]? = some (.cells #[x0, x1, x2, x3, x4, x5, x6] T (0, 0))) :
    w.frozen? ⟨b, 0, none⟩ = false ∧ w.frozen? ⟨b, 1, none⟩ = false ∧ w.frozen? ⟨b, 2, none⟩ = false ∧ w.frozen? ⟨b, 3, none⟩ = false ∧ w.frozen? ⟨b, 4, none⟩ = false ∧ w.frozen? ⟨b, 5, none⟩ = false ∧ w.frozen? ⟨b, 6, none⟩ = false :=
  ⟨frozen_of_row w b 0 _ _ h, frozen_of_row w b 1 _ _ h, frozen_of_row w b 2 _ _ h, frozen_of_row w b 3 _ _ h, frozen_of_row w b 4 _ _ h, frozen_of_row w b 5 _ _ h, frozen_of_row w b 6 _ _ h⟩
theorem own_setB {w : World} {B : Nat} {E : TypeId} {sz : Nat} {v : Value} {n : Nat} {xs : List Value} (h : w.ownsRow B E sz v n xs) {b o : Nat} (hb : b < B) (u : Value) : (w.setCell ⟨b, o, none⟩ u).ownsRow B E sz v n xs := by
  obtain ⟨hl, h | ⟨g, cap, cur, hv, hg, hh, r⟩⟩ := h
  · exact ⟨hl, .inl h⟩
  · exact ⟨hl, .inr ⟨g, cap, cur, hv, hg, by rw [heap_setCell_other _ _ _ _ (by show g ≠ b; omega)]; exact hh, r⟩⟩
theorem own_lim {w : World} {B B' : Nat} {E : TypeId} {sz : Nat} {v : Value} {n : Nat} {xs : List Value} (h : w.ownsRow B E sz v n xs) (hB : B' ≤ B) : w.ownsRow B' E sz v n xs := by
  obtain ⟨hl, h | ⟨g, cap, cur, hv, hg, r⟩⟩ := h
  · exact ⟨hl, .inl h⟩
  · exact ⟨hl, .inr ⟨g, cap, cur, hv, Nat.le_trans hB hg, r⟩⟩
theorem frz5 {w : World} {b : Nat} {T : TypeId} {x0 x1 x2 x3 x4 : Value} (h : w.heap[b]? = some (.cells #[x0, x1, x2, x3, x4] T (0, 0))) :
    w.frozen? ⟨b, 0, none⟩ = false ∧ w.frozen? ⟨b, 1, none⟩ = false ∧ w.frozen? ⟨b, 2, none⟩ = false ∧ w.frozen? ⟨b, 3, none⟩ = false ∧ w.frozen? ⟨b, 4, none⟩ = false :=
  ⟨frozen_of_row w b 0 _ _ h, frozen_of_row w b 1 _ _ h, frozen_of_row w b 2 _ _ h, frozen_of_row w b 3 _ _ h, frozen_of_row w b 4 _ _ h⟩
theorem i64r_wf {z : Int} (h : i64r z) : (Lit.int .i64 z).wf = true := by
  have h1 := h.1; have h2 := h.2
  simp [Lit.wf, IntKind.min, IntKind.max, IntKind.signed, IntKind.bits]; omega
/-- Blocks of a kind stay. -/
def Ex (K : Nat → Prop) (w w' : World) : Prop := w.heap.size ≤ w'.heap.size ∧ ∀ t, t < w.heap.size → K t → w'.heap[t]? = w.heap[t]?
theorem Ex.refl (K : Nat → Prop) (w : World) : Ex K w w := ⟨Nat.le_refl _, fun _ _ _ => rfl⟩
theorem Ex.of_below {K : Nat → Prop} {w w' : World} (h : Below w.heap.size w w') : Ex K w w' := ⟨h.size, fun t ht _ => h.block t ht⟩
theorem Ex.of_below' {w w' : World} {B : Nat} (h : Below B w w') : Ex (fun t => t < B) w w' := ⟨h.size, fun t _ ht => h.block t ht⟩
theorem Ex.trans {K : Nat → Prop} {w w1 w2 : World} (h : Ex K w w1) (g : Ex K w1 w2) : Ex K w w2 := ⟨Nat.le_trans h.1 g.1, fun t ht hk => (g.2 t (Nat.lt_of_lt_of_le ht h.1) hk).trans (h.2 t ht hk)⟩
theorem Ex.mono {K K' : Nat → Prop} {w w' : World} (h : Ex K w w') (hk : ∀ t, t < w.heap.size → K' t → K t) : Ex K' w w' := ⟨h.1, fun t ht h2 => h.2 t ht (hk t ht h2)⟩
theorem Ex.set {K : Nat → Prop} {w : World} {b o : Nat} {u : Value} (h : ¬ K b) : Ex K w (w.setCell ⟨b, o, none⟩ u) := ⟨by simp, fun t _ ht => heap_setCell_other _ _ _ _ (by intro e; have e2 : t = b := e; subst e2; exact h ht)⟩
theorem Ex.grown {K : Nat → Prop} {w w' : World} {row : Option Nat} (h : w.grownBy w' row) (hr : ∀ k, row = some k → ¬ K k) : Ex K w w' := ⟨h.size, fun t ht hk => h.block t ht (fun e => hr t e.symm hk)⟩
theorem Ex.alloc {K : Nat → Prop} (w : World) (o : Obj) : Ex K w (w.alloc o) := ⟨by simp, fun t ht _ => ((Below.refl w.heap.size w).alloc (Nat.le_refl _) o).block t ht⟩
theorem Ex.cell {K : Nat → Prop} {w w' : World} (h : Ex K w w') {b o : Nat} {v : Value} (hK : K b) (hc : w.cell? ⟨b, o, none⟩ = some v) : w'.cell? ⟨b, o, none⟩ = some v :=
  (World.cell?_of_block (a := ⟨b, o, none⟩) (h.2 b (World.block_lt_of_cell? w _ hc) hK)).trans hc
/-- Rows in blocks of a kind. -/
def XK (K : Nat → Prop) (w : World) (v : Value) (xs : List Int) : Prop := RowX w v xs ∧ (xs = [] ∨ ∀ b, v.ownBlock = some b → K b)
theorem XK.mono {K K' : Nat → Prop} {w : World} {v : Value} {xs : List Int} (h : XK K w v xs) (hk : ∀ t, t < w.heap.size → K t → K' t) : XK K' w v xs := by
  obtain ⟨⟨p, k, rfl, hr⟩, hb⟩ := h
  refine ⟨⟨p, k, rfl, hr⟩, ?_⟩
  rcases hb with h0 | hb
  · exact .inl h0
  · rcases hr.reads with h0 | ⟨g, off, rfl, hl, -⟩
    · exact .inl h0
    · refine .inr fun b hbb => ?_
      have hbb' : b = g := by simpa [Value.ownBlock] using hbb.symm
      subst hbb'
      exact hk _ hl (hb _ hbb)
theorem XK.keep {K : Nat → Prop} {w w' : World} {v : Value} {xs : List Int} (h : XK K w v xs) (he : Ex K w w') : XK K w' v xs := by
  obtain ⟨⟨p, k, rfl, hr⟩, hb⟩ := h
  refine ⟨⟨p, k, rfl, hr.len, ?_, hr.wf, hr.small⟩, hb⟩
  rcases hr.reads with h0 | ⟨g, off, rfl, hl, hc⟩
  · exact .inl h0
  · rcases hb with h0 | hb
    · exact .inl h0
    · exact .inr ⟨g, off, rfl, Nat.lt_of_lt_of_le hl he.1, fun i hi => he.cell (hb g rfl) (hc i hi)⟩
theorem xk_own {w : World} {B : Nat} {v : Value} {xs : List Int} (h : Owns w B 66 .u64 v xs) (hw : ∀ x ∈ xs, (Lit.int .u64 x).wf = true) (hs : xs.length ≤ 17592186044415) : XK (fun t => B ≤ t) w v xs := by
  obtain ⟨a, c, rfl, hr, -, -⟩ := h.shape
  refine ⟨⟨a, c, rfl, rfl, hr, hw, hs⟩, .inr fun b hb => ?_⟩
  exact (World.ownsRow.lt h b hb).1
def ClK (K : Nat → Prop) (w : World) (b o : Nat) (c : Cl) : Prop := c.ok ∧ w.cell? ⟨b, o, none⟩ = some (.int .i64 c.kd) ∧ w.cell? ⟨b, o + 1, none⟩ = some (.int .i64 c.n) ∧ w.cell? ⟨b, o + 2, none⟩ = some (.int .i64 c.dir) ∧ w.cell? ⟨b, o + 3, none⟩ = some (.string c.s)
  ∧ w.cell? ⟨b, o + 4, none⟩ = some (.int .i64 c.who) ∧ w.cell? ⟨b, o + 5, none⟩ = some (.int .i64 c.at') ∧ ∃ v, w.cell? ⟨b, o + 6, none⟩ = some v ∧ XK K w v c.xs
theorem ClK.at {K : Nat → Prop} {w : World} {b o : Nat} {c : Cl} (h : ClK K w b o c) : ClAt w b o c := by
  obtain ⟨h0, h1, h2, h3, h4, h5, h6, v, h7, h8⟩ := h
  exact ⟨h0, h1, h2, h3, h4, h5, h6, v, h7, h8.1⟩
theorem ClK.keep {K : Nat → Prop} {w w' : World} {b o : Nat} {c : Cl} (h : ClK K w b o c) (hb : K b) (he : Ex K w w') : ClK K w' b o c := by
  obtain ⟨h0, h1, h2, h3, h4, h5, h6, v, h7, h8⟩ := h
  exact ⟨h0, he.cell hb h1, he.cell hb h2, he.cell hb h3, he.cell hb h4, he.cell hb h5, he.cell hb h6, v, he.cell hb h7, h8.keep he⟩
theorem ClK.mono {K K' : Nat → Prop} {w : World} {b o : Nat} {c : Cl} (h : ClK K w b o c) (hk : ∀ t, t < w.heap.size → K t → K' t) : ClK K' w b o c := by
  obtain ⟨h0, h1, h2, h3, h4, h5, h6, v, h7, h8⟩ := h
  exact ⟨h0, h1, h2, h3, h4, h5, h6, v, h7, h8.mono hk⟩
def RCK (K : Nat → Prop) (w : World) (v : Value) (l : List Cl) : Prop := ∃ p c, v = .slice p l.length c ∧ (l = [] ∨ ∃ b o, p = some ⟨b, o, none⟩ ∧ b < w.heap.size ∧ K b ∧ ∀ (j : Nat) x, l[j]? = some x → ClK K w b (o + j * 7) x)
theorem RCK.row {K : Nat → Prop} {w : World} {v : Value} {l : List Cl} (h : RCK K w v l) : RowC w v l := by
  obtain ⟨p, c, rfl, h⟩ := h
  refine ⟨p, c, rfl, ?_⟩
  rcases h with h | ⟨b, o, hp, hl, -, h⟩
  · exact .inl h
  · exact .inr ⟨b, o, hp, hl, fun j x hj => (h j x hj).at⟩
theorem RCK.keep {K : Nat → Prop} {w w' : World} {v : Value} {l : List Cl} (h : RCK K w v l) (he : Ex K w w') : RCK K w' v l := by
  obtain ⟨p, c, rfl, h⟩ := h
  refine ⟨p, c, rfl, ?_⟩
  rcases h with h | ⟨b, o, hp, hl, hK, h⟩
  · exact .inl h
  · exact .inr ⟨b, o, hp, Nat.lt_of_lt_of_le hl he.1, hK, fun j x hj => (h j x hj).keep hK he⟩
theorem RCK.mono {K K' : Nat → Prop} {w : World} {v : Value} {l : List Cl} (h : RCK K w v l) (hk : ∀ t, t < w.heap.size → K t → K' t) : RCK K' w v l := by
  obtain ⟨p, c, rfl, h⟩ := h
  refine ⟨p, c, rfl, ?_⟩
  rcases h with h | ⟨b, o, hp, hl, hK, h⟩
  · exact .inl h
  · exact .inr ⟨b, o, hp, hl, hk b hl hK, fun j x hj => (h j x hj).mono hk⟩
/-- The cells of calls, with their rows. -/
def clCells (c : Cl) (x : Value) : List Value := [.int .i64 c.kd, .int .i64 c.n, .int .i64 c.dir, .string c.s, .int .i64 c.who, .int .i64 c.at', x]
theorem own_ex {w w' : World} {B : Nat} {E : TypeId} {sz : Nat} {v : Value} {n : Nat} {xs : List Value} (h : w.ownsRow B E sz v n xs) {K : Nat → Prop} (he : Ex K w w') (hk : ∀ t, v.ownBlock = some t → K t) : w'.ownsRow B E sz v n xs := by
  obtain ⟨hl, h | ⟨g, cap, cur, hv, hg, hh, r⟩⟩ := h
  · exact ⟨hl, .inl h⟩
  · have hgl : g < w.heap.size := (Array.getElem?_eq_some_iff.1 hh).1
    exact ⟨hl, .inr ⟨g, cap, cur, hv, hg, (he.2 g hgl (hk g (by rw [hv]; rfl))).trans hh, r⟩⟩
def PK (K : Nat → Prop) (w : World) (v : Value) (xs : List Int) : Prop := ∃ p k, v = .slice p xs.length k ∧ RowI w p xs.length xs ∧ (xs = [] ∨ ∀ b, v.ownBlock = some b → K b)
theorem PK.mono {K K' : Nat → Prop} {w : World} {v : Value} {xs : List Int} (h : PK K w v xs) (hk : ∀ t, t < w.heap.size → K t → K' t) : PK K' w v xs := by
  obtain ⟨p, k, rfl, hr, hb⟩ := h
  refine ⟨p, k, rfl, hr, ?_⟩
  rcases hb with h0 | hb
  · exact .inl h0
  · rcases hr.reads with h0 | ⟨g, off, rfl, hl, -⟩
    · exact .inl h0
    · refine .inr fun b hbb => ?_
      have hbb' : b = g := by simpa [Value.ownBlock] using hbb.symm
      subst hbb'
      exact hk _ hl (hb _ hbb)
theorem PK.keep {K : Nat → Prop} {w w' : World} {v : Value} {xs : List Int} (h : PK K w v xs) (he : Ex K w w') : PK K w' v xs := by
  obtain ⟨p, k, rfl, hr, hb⟩ := h
  refine ⟨p, k, rfl, ⟨hr.len, ?_, hr.wf, hr.small⟩, hb⟩
  rcases hr.reads with h0 | ⟨g, off, rfl, hl, hc⟩
  · exact .inl h0
  · rcases hb with h0 | hb
    · exact .inl h0
    · exact .inr ⟨g, off, rfl, Nat.lt_of_lt_of_le hl he.1, fun i hi => he.cell (hb g rfl) (hc i hi)⟩
theorem PK.nil (K : Nat → Prop) (w : World) : PK K w (.slice none 0 0) [] := ⟨none, 0, rfl, rowI_nil w, .inl rfl⟩
theorem pk_own {w : World} {B : Nat} {v : Value} {xs : List Int} (h : Owns w B 3 .i64 v xs) (hw : ∀ x ∈ xs, i64r x) (hs : xs.length ≤ 17592186044415) : PK (fun t => B ≤ t) w v xs := by
  obtain ⟨a, c, rfl, hr, -, -⟩ := h.shape
  exact ⟨a, c, rfl, ⟨rfl, hr, fun x hx => i64r_wf (hw x hx), hs⟩, .inr fun b hb => (World.ownsRow.lt h b hb).1⟩
end Go.Proofs.Ythnpbfboedgmpaa
