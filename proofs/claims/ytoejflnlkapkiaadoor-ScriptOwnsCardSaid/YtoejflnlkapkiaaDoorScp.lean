/- A call comes in. -/
import Derived.Test.YtoejflnlkapkiaaDoorSci
namespace Go.Proofs.YtoejflnlkapkiaaDoor
open Go.ChangeShapes Go.WideShapes Go.ChangeAt Go.RowKit
set_option linter.unusedVariables false
set_option linter.unusedSimpArgs false
section
variable {H : Type} {enc : TypeId × Value → H} {w : World} {sp : Nat → Bool} {held : Bool}
theorem wf_i64r {z : Int} (h : (Lit.int .i64 z).wf = true) : i64r z := by
  simpa [Lit.wf, IntKind.min, IntKind.max, IntKind.signed, IntKind.bits, i64r] using h
theorem sc_one_int {base fuel : Nat} {t : TypeId} {c : Value} {x : DataW H × List MemPlace} (ht : Tryd.prog.underlying t = some (.int .i64)) (h : DataW.trod enc Tryd.prog w base sp held fuel t [c] = some x) : ∃ n, c = .int .i64 n ∧ i64r n := by
  obtain ⟨a, ha, -, wa⟩ := DataW.trod_int ht h
  simp only [List.cons.injEq, and_true] at ha
  exact ⟨a, ha, wf_i64r wa⟩
theorem sc_one_str {base fuel : Nat} {t : TypeId} {c : Value} {x : DataW H × List MemPlace} (ht : Tryd.prog.underlying t = some .string) (h : DataW.trod enc Tryd.prog w base sp held fuel t [c] = some x) : ∃ s, c = .string s := by
  obtain ⟨a, ha, -, _⟩ := DataW.trod_string ht h
  simp only [List.cons.injEq, and_true] at ha
  exact ⟨a, ha⟩
theorem sc_two_int {base fuel : Nat} {t : TypeId} {c d : Value} {x : DataW H × List MemPlace} {f0 f1 : Field} (ht : Tryd.prog.underlying t = some (.struct #[f0, f1])) (h0 : f0.type = 3) (h1 : f1.type = 3) (o0 : f0.offset = 0) (o1 : f1.offset = 1) (hCi : Tryd.prog.cellsOf 3 = 1)
    (h : DataW.trod enc Tryd.prog w base sp held fuel t [c, d] = some x) : ∃ n m, c = .int .i64 n ∧ i64r n ∧ d = .int .i64 m ∧ i64r m := by
  obtain ⟨xs, m, rfl, rfl, hlen, hxs, hel⟩ := DataW.trod_struct ht h
  obtain ⟨x0, x1, rfl⟩ : ∃ x0 x1, xs = [x0, x1] := by
    have h3 : xs.length = 2 := hxs
    match xs, h3 with
    | [a, b], _ => exact ⟨a, b, rfl⟩
  have e0 := hel 0 f0 rfl
  have e1 := hel 1 f1 rfl
  rw [o0, h0, hCi] at e0
  rw [o1, h1, hCi] at e1
  simp only [List.drop_zero, List.take_succ_cons, List.take_zero, List.getElem?_cons_zero, List.drop_succ_cons, List.getElem?_cons_succ] at e0 e1
  obtain ⟨a, rfl, wa⟩ := sc_one_int Tryd.underlying3 e0
  obtain ⟨b, rfl, wb⟩ := sc_one_int Tryd.underlying3 e1
  exact ⟨a, b, rfl, wa, rfl, wb⟩
theorem sc_one_row {base fuel : Nat} {t e : TypeId} {c : Value} {x : DataW H × List MemPlace} (ht : Tryd.prog.underlying t = some (.slice e)) (he : Tryd.prog.underlying e = some (.int .u64)) (hC : Tryd.prog.cellsOf e = 1) (h : DataW.trod enc Tryd.prog w base sp held fuel t [c] = some x) : ∃ p n k, c = .slice p n k ∧ IsRow .u64 w p n k := by
  have hc : ∃ p n k, c = .slice p n k := by
    rcases DataW.trod_slice ht h with ⟨hc, _⟩ | ⟨a, len, cap, _, _, _, _, hc, _⟩
    · simp at hc; exact ⟨_, _, _, hc⟩
    · simp at hc; exact ⟨_, _, _, hc⟩
  obtain ⟨p, n, k, rfl⟩ := hc
  obtain ⟨yd, yp⟩ := x
  exact ⟨p, n, k, rfl, isRow_of (d := yd) (p := yp) ht he hC ⟨_, h⟩⟩
set_option maxRecDepth 100000 in
set_option maxHeartbeats 4000000 in
theorem trod_call (base fuel : Nat) (cs : List Value) (x : DataW H × List MemPlace) (h : DataW.trod enc Tryd.prog w base sp held fuel 49 cs = some x) :
    ∃ (kd n dir : Int) (s : ByteArray) (who ar : Int) (p : Option Addr) (m k : Nat), cs = [.int .i64 kd, .int .i64 n, .int .i64 dir, .string s, .int .i64 who, .int .i64 ar, .slice p m k] ∧ (i64r kd ∧ i64r n ∧ i64r dir ∧ i64r who ∧ i64r ar) ∧ IsRow .u64 w p m k := by
  have C2 : Tryd.prog.cellsOf 46 = 2 := by kernel_rfl
  have C3 : Tryd.prog.cellsOf 49 = 7 := by kernel_rfl
  have C5 : Tryd.prog.cellsOf 3 = 1 := by kernel_rfl
  have C6 : Tryd.prog.cellsOf 44 = 2 := by kernel_rfl
  have C7 : Tryd.prog.cellsOf 9 = 1 := by kernel_rfl
  have C8 : Tryd.prog.cellsOf 47 = 1 := by kernel_rfl
  obtain ⟨ys, m', rfl, hx1, hlen', hys, hel'⟩ := DataW.trod_struct Tryd.underlying49 h
  rw [C3] at hlen'
  obtain ⟨c0, c1, c2, c3, c4, c5, c6, rfl⟩ : ∃ c0 c1 c2 c3 c4 c5 c6, cs = [c0, c1, c2, c3, c4, c5, c6] := by
    match cs, hlen' with
    | [c0, c1, c2, c3, c4, c5, c6], _ => exact ⟨_, _, _, _, _, _, _, rfl⟩
  obtain ⟨y0, y1, y2, y3, y4, rfl⟩ : ∃ x0 x1 x2 x3 x4, ys = [x0, x1, x2, x3, x4] := by
    have h3 : ys.length = 5 := hys
    match ys, h3 with
    | [a, b, c, d, e], _ => exact ⟨a, b, c, d, e, rfl⟩
  have d0 := hel' 0 _ rfl
  have d1 := hel' 1 _ rfl
  have d2 := hel' 2 _ rfl
  have d3 := hel' 3 _ rfl
  have d4 := hel' 4 _ rfl
  simp only [C2, C5, C6, C7, C8, List.drop_zero, List.take_succ_cons, List.take_zero, List.getElem?_cons_zero, List.drop_succ_cons, List.getElem?_cons_succ] at d0 d1 d2 d3 d4
  obtain ⟨n2, rfl, w2⟩ := sc_one_int Tryd.underlying3 d0
  obtain ⟨n3, n4, rfl, w3, rfl, w4⟩ := sc_two_int Tryd.underlying44 rfl rfl rfl rfl C5 d1
  obtain ⟨s5, rfl⟩ := sc_one_str Tryd.underlying9 d2
  obtain ⟨n6, n7, rfl, w6, rfl, w7⟩ := sc_two_int Tryd.underlying46 rfl rfl rfl rfl C5 d3
  obtain ⟨p8, l8, k8, rfl, hrow⟩ := sc_one_row Tryd.underlying47 Tryd.underlying78 (by kernel_rfl) d4
  exact ⟨n2, n3, n4, s5, n6, n7, p8, l8, k8, rfl, ⟨w2, w3, w4, w6, w7⟩, hrow⟩
set_option maxRecDepth 100000 in
theorem open_call {base b0 : Nat} {r : Reach} {v : Value} {d : DataW H} {p : List MemPlace} (hv : Value.okWide Tryd.prog w r b0 49 v) (h : DataW.Trod enc Tryd.prog w base sp held 49 v d p) :
    ∃ (kd n dir : Int) (s : ByteArray) (who ar : Int) (p : Option Addr) (m k : Nat), v = .agg #[.int .i64 kd, .int .i64 n, .int .i64 dir, .string s, .int .i64 who, .int .i64 ar, .slice p m k] ∧ (i64r kd ∧ i64r n ∧ i64r dir ∧ i64r who ∧ i64r ar) ∧ IsRow .u64 w p m k := by
  obtain ⟨cs, rfl, hsz⟩ := okWide_struct Tryd.underlying49 hv
  obtain ⟨fuel, hf⟩ := h
  obtain ⟨kd, n, dir, s, who, ar, p, m, k, e, g⟩ := trod_call base fuel _ _ hf
  simp only [Value.cells] at e
  refine ⟨kd, n, dir, s, who, ar, p, m, k, ?_, g⟩
  congr 1
  exact Array.ext' (by simpa using e)
end
end Go.Proofs.YtoejflnlkapkiaaDoor
