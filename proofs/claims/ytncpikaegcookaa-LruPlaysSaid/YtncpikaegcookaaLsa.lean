/- Rows of calls (Act) that come in. -/
import Derived.Test.YtncpikaegcookaaLs5
namespace Go.Proofs.Ytncpikaegcookaa
open Go.ChangeShapes Go.WideShapes Go.ChangeAt Go.RowKit
set_option linter.unusedVariables false
set_option linter.unusedSimpArgs false
def ok64 (x : Int) : Prop := -9223372036854775808 ≤ x ∧ x ≤ 9223372036854775807
theorem wf_ok {x : Int} (h : (Lit.int .i64 x).wf = true) : ok64 x := by
  simp only [Lit.wf, IntKind.min, IntKind.max, IntKind.signed, IntKind.bits] at h
  unfold ok64
  simp at h
  omega
structure Ac where
  d : Int
  k : Int
  v : Int
def Ac.ok (x : Ac) : Prop := ok64 x.d ∧ ok64 x.k ∧ ok64 x.v
def AcAt (w : World) (lim b o : Nat) (x : Ac) : Prop := b < lim ∧ w.cell? ⟨b, o, none⟩ = some (.int .i64 x.d) ∧ w.cell? ⟨b, o + 1, none⟩ = some (.int .i64 x.k) ∧ w.cell? ⟨b, o + 2, none⟩ = some (.int .i64 x.v)
theorem AcAt.below {w w' : World} {lim b o : Nat} {x : Ac} (h : AcAt w lim b o x) (hb : Below lim w w') : AcAt w' lim b o x :=
  ⟨h.1, (hb.cell h.1).trans h.2.1, (hb.cell h.1).trans h.2.2.1, (hb.cell h.1).trans h.2.2.2⟩
def RowA (w : World) (lim : Nat) (v : Value) (l : List Ac) : Prop := ∃ p c, v = .slice p l.length c ∧ l.length ≤ 9223372036854775807 ∧ ∀ (i : Nat) (x : Ac), l[i]? = some x → x.ok ∧ ∃ b o, p = some ⟨b, o, none⟩ ∧ AcAt w lim b (o + i * 3) x
theorem RowA.below {w w' : World} {lim : Nat} {v : Value} {l : List Ac} (h : RowA w lim v l) (hb : Below lim w w') : RowA w' lim v l := by
  obtain ⟨p, c, rfl, hn, hx⟩ := h
  refine ⟨p, c, rfl, hn, fun i x hi => ?_⟩
  obtain ⟨h1, b, o, h2, h3⟩ := hx i x hi
  exact ⟨h1, b, o, h2, h3.below hb⟩
section
variable {H : Type} {enc : TypeId × Value → H} {w : World} {sp : Nat → Bool} {held : Bool}
set_option maxRecDepth 100000 in
theorem trod_act (f0 f1 f2 : Field) (hs : Try.prog.underlying 34 = some (.struct #[f0, f1, f2])) (h0 : f0.type = 3) (h1 : f1.type = 3) (h2 : f2.type = 3) (o0 : f0.offset = 0) (o1 : f1.offset = 1) (o2 : f2.offset = 2)
    (hCi : Try.prog.cellsOf 3 = 1) (hC : Try.prog.cellsOf 34 = 3) (base fuel : Nat) (cs : List Value) (x : DataW H × List MemPlace)
    (h : DataW.trod enc Try.prog w base sp held fuel 34 cs = some x) :
    ∃ y : Ac, y.ok ∧ cs = [.int .i64 y.d, .int .i64 y.k, .int .i64 y.v] := by
  obtain ⟨xs, m, rfl, rfl, hlen, hxs, hel⟩ := DataW.trod_struct hs h
  rw [hC] at hlen
  obtain ⟨c0, c1, c2, rfl⟩ : ∃ c0 c1 c2, cs = [c0, c1, c2] := by
    match cs, hlen with
    | [a, b, c], _ => exact ⟨a, b, c, rfl⟩
  obtain ⟨x0, x1, x2, rfl⟩ : ∃ x0 x1 x2, xs = [x0, x1, x2] := by
    have h3 : xs.length = 3 := hxs
    match xs, h3 with
    | [a, b, c], _ => exact ⟨a, b, c, rfl⟩
  have e0 := hel 0 f0 rfl
  have e1 := hel 1 f1 rfl
  have e2 := hel 2 f2 rfl
  rw [o0, h0, hCi] at e0
  rw [o1, h1, hCi] at e1
  rw [o2, h2, hCi] at e2
  simp only [List.drop_zero, List.take_succ_cons, List.take_zero, List.getElem?_cons_zero, List.drop_succ_cons, List.getElem?_cons_succ] at e0 e1 e2
  obtain ⟨a, ha, -, wa⟩ := DataW.trod_int Try.underlying3 e0
  obtain ⟨b, hb, -, wb⟩ := DataW.trod_int Try.underlying3 e1
  obtain ⟨c, hc, -, wc⟩ := DataW.trod_int Try.underlying3 e2
  simp only [List.cons.injEq, and_true] at ha hb hc
  subst ha hb hc
  exact ⟨⟨a, b, c⟩, ⟨wf_ok wa, wf_ok wb, wf_ok wc⟩, rfl⟩
set_option maxRecDepth 100000 in
theorem open_acts {base b0 : Nat} {r : Reach} {v : Value} {d : DataW H} {p : List MemPlace} (hv : Value.okWide Try.prog w r b0 22 v) (h : DataW.Trod enc Try.prog w base sp held 22 v d p) :
    ∃ l : List Ac, RowA w w.heap.size v l := by
  obtain ⟨a, n, c, rfl⟩ := okWide_slice Try.underlying22 hv
  obtain ⟨fuel, e2⟩ := h
  have hC : Try.prog.cellsOf 34 = 3 := by kernel_rfl
  rcases DataW.trod_slice Try.underlying22 e2 with ⟨hc, hx2⟩ | ⟨a, len, cap, elems, rest, m2, hm2, hc, hx2, hb, hlc, hcm, hle, hels, _, _⟩
  · simp only [List.cons.injEq, and_true, Value.cells] at hc
    simp at hc
    obtain ⟨rfl, rfl, rfl⟩ := hc
    exact ⟨[], none, 0, rfl, by simp, fun i x h => by simp at h⟩
  · simp [Value.cells] at hc
    obtain ⟨rfl, rfl, rfl⟩ := hc
    rw [hC] at hels
    have each : ∀ i, i < n → ∃ y : Ac, y.ok ∧ ∃ b o, some a = some ⟨b, o, none⟩ ∧ AcAt w w.heap.size b (o + i * 3) y := by
      intro i hi
      have he := hels i hi
      rw [List.getElem?_eq_getElem (show i < elems.length by omega)] at he
      obtain ⟨cs', h1', h2'⟩ := Option.bind_eq_some_iff.1 he
      obtain ⟨y, hok, rfl⟩ := trod_act _ _ _ Try.underlying34 rfl rfl rfl rfl rfl rfl (by kernel_rfl) (by kernel_rfl) base m2 _ _ h2'
      obtain ⟨_, _, hcell⟩ := World.cells?_some h1'
      have hspot : a.spot = none := by
        have he0 := hels 0 (by omega)
        rw [List.getElem?_eq_getElem (show 0 < elems.length by omega)] at he0
        obtain ⟨cs0, h10, h20⟩ := Option.bind_eq_some_iff.1 he0
        obtain ⟨y0, -, rfl⟩ := trod_act _ _ _ Try.underlying34 rfl rfl rfl rfl rfl rfl (by kernel_rfl) (by kernel_rfl) base m2 _ _ h20
        obtain ⟨_, _, hcell0⟩ := World.cells?_some h10
        have q00 := World.cell?_spot (hcell0 0 (by omega))
        simpa [Addr.add] using q00
      have q0 := hcell 0 (by omega)
      have ea : (a.add (i * 3)).add 0 = a.add (i * 3) := by obtain ⟨b, o, sp⟩ := a; cases sp <;> simp [Addr.add]
      obtain ⟨b, o, spot⟩ := a
      rw [ea] at q0
      simp only at hspot
      subst hspot
      have q1 := hcell 1 (by omega)
      have q2 := hcell 2 (by omega)
      rw [add_plain] at q0
      rw [add_plain, add_plain] at q1 q2
      have q0' : w.cell? ⟨b, o + i * 3, none⟩ = some (.int .i64 y.d) := by simpa using q0
      exact ⟨y, hok, b, o, rfl, block_lt_of_cell q0', q0', by simpa using q1, by simpa using q2⟩
    have build : ∀ j, j ≤ n → ∃ l : List Ac, l.length = j ∧ ∀ i y, l[i]? = some y → y.ok ∧ ∃ b o, some a = some ⟨b, o, none⟩ ∧ AcAt w w.heap.size b (o + i * 3) y := by
      intro j
      induction j with
      | zero => intro _; exact ⟨[], rfl, fun i e h => by simp at h⟩
      | succ j ih =>
        intro hj
        obtain ⟨l, hl, hA⟩ := ih (by omega)
        obtain ⟨e, he⟩ := each j (by omega)
        refine ⟨l ++ [e], by simp [hl], fun i z hz => ?_⟩
        rcases Nat.lt_or_ge i j with h | h
        · rw [List.getElem?_append_left (by omega)] at hz
          exact hA i z hz
        · rw [List.getElem?_append_right (by omega)] at hz
          have hi : i = j := by
            have := (List.getElem?_eq_some_iff.1 hz).1
            simp at this; omega
          subst hi
          rw [hl, Nat.sub_self] at hz
          simp at hz; subst hz
          exact he
    obtain ⟨l, hl, hA⟩ := build n (Nat.le_refl _)
    exact ⟨l, some a, c, by rw [hl], by unfold maxLen at hcm; omega, hA⟩
end
end Go.Proofs.Ytncpikaegcookaa
