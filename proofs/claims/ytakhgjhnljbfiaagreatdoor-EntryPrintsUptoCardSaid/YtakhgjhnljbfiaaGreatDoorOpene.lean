/- A parameter api.Entry: a key of two ints and a descriptor. -/
import Derived.Test.YtakhgjhnljbfiaaGreatDoorD11
namespace Go.Proofs.YtakhgjhnljbfiaaGreatDoor
open Go.ChangeShapes Go.WideShapes Go.ChangeAt Go.RowKit
set_option linter.unusedVariables false
set_option linter.unusedSimpArgs false
section
variable {H : Type} {enc : TypeId × Value → H} {w : World} {sp : Nat → Bool} {held : Bool}
set_option maxRecDepth 100000 in
theorem trod_entry (f0 f1 g0 g1 : Field) (hs : Tryz.prog.underlying 28 = some (.struct #[f0, f1])) (hk : f0.type = 23) (hd : f1.type = 26) (hg : Tryz.prog.underlying 23 = some (.struct #[g0, g1]))
    (j0 : Tryz.prog.underlying g0.type = some (.int .i64)) (j1 : Tryz.prog.underlying g1.type = some (.int .i64)) (o0 : f0.offset = 0) (o1 : f1.offset = 2) (q0 : g0.offset = 0) (q1 : g1.offset = 1) (y0 : Tryz.prog.cellsOf g0.type = 1) (y1 : Tryz.prog.cellsOf g1.type = 1)
    (hCK : Tryz.prog.cellsOf 23 = 2) (hCD : Tryz.prog.cellsOf 26 = 3) (hC : Tryz.prog.cellsOf 28 = 5) (base fuel : Nat) (cs : List Value) (x : DataW H × List MemPlace)
    (hD : ∀ (fuel : Nat) (cs : List Value) (x : DataW H × List MemPlace), DataW.trod enc Tryz.prog w base sp held fuel 26 cs = some x →
      ∃ (k n : Int) (s : Value) (ks : Fo), cs = [.int .i64 k, .int .i64 n, s] ∧ Kids w w.heap.size s ks ∧ ks.wf ∧ (-9223372036854775808 ≤ k ∧ k ≤ 9223372036854775807) ∧ (-9223372036854775808 ≤ n ∧ n ≤ 9223372036854775807) ∧ ks.cnt + 1 ≤ Rows.uptoBulk x.1)
    (h : DataW.trod enc Tryz.prog w base sp held fuel 28 cs = some x) :
    ∃ (a b k n : Int) (s : Value) (ks : Fo), cs = [.int .i64 a, .int .i64 b, .int .i64 k, .int .i64 n, s] ∧ Kids w w.heap.size s ks ∧ ks.wf ∧ (-9223372036854775808 ≤ a ∧ a ≤ 9223372036854775807) ∧ (-9223372036854775808 ≤ b ∧ b ≤ 9223372036854775807) ∧ (-9223372036854775808 ≤ k ∧ k ≤ 9223372036854775807) ∧ (-9223372036854775808 ≤ n ∧ n ≤ 9223372036854775807) ∧ ks.cnt + 1 ≤ Rows.uptoBulk x.1 := by
  obtain ⟨xs, m, rfl, rfl, hlen, hxs, hel⟩ := DataW.trod_struct hs h
  rw [hC] at hlen
  obtain ⟨c0, c1, c2, c3, c4, rfl⟩ : ∃ c0 c1 c2 c3 c4, cs = [c0, c1, c2, c3, c4] := by
    match cs, hlen with
    | [a, b, c, d, e], _ => exact ⟨a, b, c, d, e, rfl⟩
  obtain ⟨x0, x1, rfl⟩ : ∃ x0 x1, xs = [x0, x1] := by
    have h3 : xs.length = 2 := hxs
    match xs, h3 with
    | [a, b], _ => exact ⟨a, b, rfl⟩
  have e0 := hel 0 f0 rfl
  have e1 := hel 1 f1 rfl
  rw [o0, hk, hCK] at e0
  rw [o1, hd, hCD] at e1
  simp only [List.drop_zero, List.take_succ_cons, List.take_zero, List.getElem?_cons_zero, List.drop_succ_cons, List.getElem?_cons_succ] at e0 e1
  obtain ⟨ys, m', rfl, hx0, hlen', hys, hel'⟩ := DataW.trod_struct hg e0
  obtain ⟨z0, z1, rfl⟩ : ∃ z0 z1, ys = [z0, z1] := by
    have h3 : ys.length = 2 := hys
    match ys, h3 with
    | [a, b], _ => exact ⟨a, b, rfl⟩
  have d0 := hel' 0 g0 rfl
  have d1 := hel' 1 g1 rfl
  rw [q0, y0] at d0
  rw [q1, y1] at d1
  simp only [List.drop_zero, List.take_succ_cons, List.take_zero, List.getElem?_cons_zero, List.drop_succ_cons, List.getElem?_cons_succ] at d0 d1
  obtain ⟨a, ha, -, wa⟩ := DataW.trod_int j0 d0
  obtain ⟨b, hb, -, wb⟩ := DataW.trod_int j1 d1
  simp only [List.cons.injEq, and_true] at ha hb
  subst ha hb
  obtain ⟨k, n, s, ks, hcs, hK, wf, wk, wn, hc⟩ := hD _ _ _ e1
  simp only [List.cons.injEq, and_true] at hcs
  obtain ⟨rfl, rfl, rfl⟩ := hcs
  refine ⟨a, b, k, n, c4, ks, rfl, hK, wf, wf_i64 wa, wf_i64 wb, wk, wn, ?_⟩
  simp only [List.map_cons, List.map_nil, Rows.uptoBulk, Rows.uptoBulkAll]
  omega
end
set_option maxRecDepth 100000 in
theorem open_entry {H : Type} {enc : TypeId × Value → H} {w : World} {sp : Nat → Bool} {held : Bool} {base b0 : Nat} {r : Reach} {v : Value} {d : DataW H} {p : List MemPlace} (hv : Value.okWide Tryz.prog w r b0 28 v) (h : DataW.Trod enc Tryz.prog w base sp held 28 v d p) :
    ∃ (a b k n : Int) (s : Value) (ks : Fo), v = .agg #[.int .i64 a, .int .i64 b, .int .i64 k, .int .i64 n, s] ∧ Kids w w.heap.size s ks ∧ ks.wf ∧ (-9223372036854775808 ≤ a ∧ a ≤ 9223372036854775807) ∧ (-9223372036854775808 ≤ b ∧ b ≤ 9223372036854775807) ∧ (-9223372036854775808 ≤ k ∧ k ≤ 9223372036854775807) ∧ (-9223372036854775808 ≤ n ∧ n ≤ 9223372036854775807) ∧ ks.cnt + 1 ≤ Rows.uptoBulk d := by
  obtain ⟨cs, rfl, hsz⟩ := okWide_struct Tryz.underlying28 hv
  obtain ⟨fuel, hf⟩ := h
  have hD := trod_fo (H := H) (enc := enc) (w := w) (sp := sp) (held := held) 24 _ _ _ Tryz.underlying26 Tryz.underlying24 Tryz.underlying3 Tryz.underlying3 rfl rfl rfl (by kernel_rfl) (by kernel_rfl) (by kernel_rfl) (by kernel_rfl) base
  obtain ⟨a, b, k, n, s, ks, e, g⟩ := trod_entry _ _ _ _ Tryz.underlying28 rfl rfl Tryz.underlying23 Tryz.underlying3 Tryz.underlying3 rfl rfl rfl rfl (by kernel_rfl) (by kernel_rfl) (by kernel_rfl) (by kernel_rfl) (by kernel_rfl) base fuel _ _ hD hf
  simp only [Value.cells] at e
  refine ⟨a, b, k, n, s, ks, ?_, g⟩
  congr 1
  exact Array.ext' (by simpa using e)
end Go.Proofs.YtakhgjhnljbfiaaGreatDoor
