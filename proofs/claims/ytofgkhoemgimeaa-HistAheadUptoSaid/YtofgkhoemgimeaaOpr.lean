/- Rows of calls in memory; load: ended. -/
import Derived.Test.YtofgkhoemgimeaaImp
import Derived.Deep.WholeRow
import Derived.Deep.MidRow
namespace Go.Proofs.Ytofgkhoemgimeaa
open Go.ChangeShapes Go.WideShapes Go.ChangeAt Go.RowKit
set_option linter.unusedVariables false
set_option linter.unusedSimpArgs false
/-- A call as 19 values. -/
structure OpV (cs : Array Value) (who kind e f t : Int) : Prop where
  n : cs.size = 19
  o : cs.all (·.oneCell') = true
  hw : cs[0]? = some (.int .i64 who)
  hk : cs[2]? = some (.int .i64 kind)
  he : cs[9]? = some (.int .i64 e)
  hf : cs[17]? = some (.int .i64 f)
  ht : cs[18]? = some (.int .i64 t)
  ok : i64ok who ∧ i64ok kind ∧ i64ok e ∧ i64ok f ∧ i64ok t
/-- What is read of a call. -/
structure Oi where
  who : Int
  kind : Int
  e : Int
  f : Int
  t : Int
/-- A row of calls at b, from o on. -/
def OpsAt (w : World) (lim b o : Nat) (l : List Oi) : Prop := b < lim ∧ ∀ (i : Nat) (x : Oi), l[i]? = some x → ∃ cs, OpV cs x.who x.kind x.e x.f x.t ∧ ∀ k v, cs[k]? = some v → w.cell? ⟨b, o + i * 19 + k, none⟩ = some v
theorem OpsAt.below {w w' : World} {lim b o : Nat} {l : List Oi} (h : OpsAt w lim b o l) (hb : Below lim w w') : OpsAt w' lim b o l :=
  ⟨h.1, fun i x hx => by
    obtain ⟨cs, h1, h2⟩ := h.2 i x hx
    exact ⟨cs, h1, fun k v hk => (hb.cell h.1).trans (h2 k v hk)⟩⟩
theorem OpsAt.take {w : World} {lim b o : Nat} {l : List Oi} (h : OpsAt w lim b o l) (n : Nat) : OpsAt w lim b o (l.take n) :=
  ⟨h.1, fun i x hx => by
    rw [List.getElem?_take] at hx
    split at hx
    · exact h.2 i x hx
    · cases hx⟩
theorem ops_load {w : World} {b o i : Nat} {cs : Array Value} (h : ∀ k v, cs[k]? = some v → w.cell? ⟨b, o + i * 19 + k, none⟩ = some v) : w.rangeAt b (o + i * 19) cs.toList :=
  fun j v hv => h j v (by simpa using hv)
theorem op_size : (Try.prog.info? 41).map (·.size) = some 19 := by kernel_rfl
/-- A whole call is read. -/
theorem wpl_op {ops : Array Oper} {rest : List Oper} {op : Oper} {a : Act} {w : World} {Q : Exit → Act → World → Prop} {cs : Array Value} (hgd : op.guard = none) (x : Operand) (ho : op.op = .load 41 x)
    (b o : Nat) (hx : a.eval x = .pointer (some ⟨b, o, none⟩)) (hn : cs.size = 19) (hc : w.rangeAt b o cs.toList)
    (h : wpList Try.prog ops Q rest (a.put op.dst (.agg cs)) w) : wpList Try.prog ops Q (op :: rest) a w :=
  wpList_load_mid hgd _ x ho b o hx cs.toList _ hc Try.underlying41 rfl (by rw [Array.length_toList, hn]; exact op_size) h
/-- A whole call goes into the block that was made last. -/
theorem wpl_new {ops : Array Oper} {rest : List Oper} {op : Oper} {a : Act} {W w1 : World} {Q : Exit → Act → World → Prop} {cs z : Array Value} (hgd : op.guard = none) (x y : Operand) (ho : op.op = .store 41 x y)
    (hx : a.eval x = .pointer (some ⟨W.heap.size, 0, none⟩)) (hy : a.eval y = .agg cs) (hn : cs.size = 19) (h1 : cs.all (·.oneCell') = true) (hz : z.size = 19) (hw : W.alloc (.cells cs 41) = w1)
    (h : wpList Try.prog ops Q rest (a.put op.dst undef) w1) : wpList Try.prog ops Q (op :: rest) a (W.alloc (.cells z 41)) := by
  refine wpList_plain hgd fun K hK => ?_
  have := run_storeAt_new (P := Try.prog) W 41 z cs (by rw [hn]; exact op_size) (by rw [hz, hn]) h1
  unfold Oper.wp execOp
  simp only [ho, hx, hy, Sem.run_bind, this, Result.andThen_ok, Sem.run_pure, hw]
  exact hK _ _ h
theorem op_new {w : World} {cs : Array Value} {T : TypeId} {k : Nat} {v : Value} (h : cs[k]? = some v) : (w.alloc (.cells cs T)).cell? ⟨w.heap.size, k, none⟩ = some v := by
  rw [cell_of_row _ _ k cs T (0, 0) (heap_alloc_new w _)]
  exact h
end Go.Proofs.Ytofgkhoemgimeaa
