/- Rows of calls that come in. -/
import Derived.Test.YtfilbdmenlhoiaaOpenl
namespace Go.Proofs.Ytfilbdmenlhoiaa
open Go.ChangeShapes Go.WideShapes Go.ChangeAt Go.RowKit
set_option linter.unusedVariables false
set_option linter.unusedSimpArgs false
/-- A row of calls, wherever it lies. -/
def RowO (w : World) (lim : Nat) (v : Value) (l : List Oi) : Prop := ∃ p c, v = .slice p l.length c ∧ l.length ≤ c ∧ c ≤ 9223372036854775807 ∧ (l = [] ∨ ∃ b o, p = some ⟨b, o, none⟩ ∧ OpsAt w lim b o l)
theorem RowO.below {w w' : World} {lim : Nat} {v : Value} {l : List Oi} (h : RowO w lim v l) (hb : Below lim w w') : RowO w' lim v l := by
  obtain ⟨p, c, rfl, hn, hc, hx⟩ := h
  refine ⟨p, c, rfl, hn, hc, ?_⟩
  rcases hx with h1 | ⟨b, o, h2, h3⟩
  · exact .inl h1
  · exact .inr ⟨b, o, h2, h3.below hb⟩
section
variable {H : Type} {enc : TypeId × Value → H} {w : World} {sp : Nat → Bool} {held : Bool}
theorem one_int {base fuel : Nat} {t : TypeId} {c : Value} {x : DataW H × List MemPlace} (ht : Try.prog.underlying t = some (.int .i64)) (h : DataW.trod enc Try.prog w base sp held fuel t [c] = some x) : ∃ n, c = .int .i64 n ∧ i64ok n := by
  obtain ⟨a, ha, -, wa⟩ := DataW.trod_int ht h
  simp only [List.cons.injEq, and_true] at ha
  exact ⟨a, ha, wf_ok wa⟩
theorem one_str {base fuel : Nat} {t : TypeId} {c : Value} {x : DataW H × List MemPlace} (ht : Try.prog.underlying t = some .string) (h : DataW.trod enc Try.prog w base sp held fuel t [c] = some x) : ∃ s, c = .string s := by
  obtain ⟨a, ha, -, _⟩ := DataW.trod_string ht h
  simp only [List.cons.injEq, and_true] at ha
  exact ⟨a, ha⟩
theorem one_row {base fuel : Nat} {t e : TypeId} {c : Value} {x : DataW H × List MemPlace} (ht : Try.prog.underlying t = some (.slice e)) (h : DataW.trod enc Try.prog w base sp held fuel t [c] = some x) : ∃ p n k, c = .slice p n k := by
  rcases DataW.trod_slice ht h with ⟨hc, _⟩ | ⟨a, len, cap, _, _, _, _, hc, _⟩
  · simp only [List.cons.injEq, and_true] at hc; exact ⟨_, _, _, hc⟩
  · simp only [List.cons.injEq, and_true] at hc; exact ⟨_, _, _, hc⟩
theorem two_int {base fuel : Nat} {t : TypeId} {c d : Value} {x : DataW H × List MemPlace} {f0 f1 : Field} (ht : Try.prog.underlying t = some (.struct #[f0, f1])) (h0 : f0.type = 3) (h1 : f1.type = 3) (o0 : f0.offset = 0) (o1 : f1.offset = 1) (hCi : Try.prog.cellsOf 3 = 1)
    (h : DataW.trod enc Try.prog w base sp held fuel t [c, d] = some x) : ∃ n m, c = .int .i64 n ∧ i64ok n ∧ d = .int .i64 m ∧ i64ok m := by
  obtain ⟨xs, m, rfl, rfl, hlen, hxs, hel⟩ := DataW.trod_struct ht h
  obtain ⟨x0, x1, rfl⟩ : ∃ x0 x1, xs = [x0, x1] := by
    have h3 : xs.length = 2 := hxs
    match xs, h3 with
    | [a, b], _ => exact ⟨a, b, rfl⟩
  have e0 := hel 0 f0 rfl
  have e1 := hel 1 f1 rfl
  rw [o0, h0, hCi] at e0
  rw [o1, h1, hCi] at e1
  simp only [List.drop_zero, List.take_succ_cons, List.take_zero, List.getElem?_cons_zero, List.drop_succ_cons, List.getElem?_cons_succ] at e0 e1
  obtain ⟨a, rfl, wa⟩ := one_int Try.underlying3 e0
  obtain ⟨b, rfl, wb⟩ := one_int Try.underlying3 e1
  exact ⟨a, b, rfl, wa, rfl, wb⟩
set_option maxRecDepth 100000 in
set_option maxHeartbeats 4000000 in
theorem trod_op (base fuel : Nat) (cs : List Value) (x : DataW H × List MemPlace) (h : DataW.trod enc Try.prog w base sp held fuel 51 cs = some x) :
    ∃ y : Oi, OpV cs.toArray y.who y.kind y.e y.f y.t := by
  have C1 : Try.prog.cellsOf 51 = 19 := by kernel_rfl
  have C2 : Try.prog.cellsOf 38 = 2 := by kernel_rfl
  have C3 : Try.prog.cellsOf 43 = 7 := by kernel_rfl
  have C4 : Try.prog.cellsOf 49 = 8 := by kernel_rfl
  have C5 : Try.prog.cellsOf 3 = 1 := by kernel_rfl
  have C6 : Try.prog.cellsOf 40 = 2 := by kernel_rfl
  have C7 : Try.prog.cellsOf 9 = 1 := by kernel_rfl
  have C8 : Try.prog.cellsOf 41 = 1 := by kernel_rfl
  have C9 : Try.prog.cellsOf 44 = 1 := by kernel_rfl
  have C10 : Try.prog.cellsOf 47 = 3 := by kernel_rfl
  have C11 : Try.prog.cellsOf 45 = 1 := by kernel_rfl
  obtain ⟨xs, m, rfl, rfl, hlen, hxs, hel⟩ := DataW.trod_struct Try.underlying51 h
  rw [C1] at hlen
  obtain ⟨c0, c1, c2, c3, c4, c5, c6, c7, c8, c9, c10, c11, c12, c13, c14, c15, c16, c17, c18, rfl⟩ : ∃ c0 c1 c2 c3 c4 c5 c6 c7 c8 c9 c10 c11 c12 c13 c14 c15 c16 c17 c18, cs = [c0, c1, c2, c3, c4, c5, c6, c7, c8, c9, c10, c11, c12, c13, c14, c15, c16, c17, c18] := by
    match cs, hlen with
    | [c0, c1, c2, c3, c4, c5, c6, c7, c8, c9, c10, c11, c12, c13, c14, c15, c16, c17, c18], _ => exact ⟨_, _, _, _, _, _, _, _, _, _, _, _, _, _, _, _, _, _, _, rfl⟩
  obtain ⟨x0, x1, x2, x3, x4, rfl⟩ : ∃ x0 x1 x2 x3 x4, xs = [x0, x1, x2, x3, x4] := by
    have h3 : xs.length = 5 := hxs
    match xs, h3 with
    | [a, b, c, d, e], _ => exact ⟨a, b, c, d, e, rfl⟩
  have e0 := hel 0 _ rfl
  have e1 := hel 1 _ rfl
  have e2 := hel 2 _ rfl
  have e3 := hel 3 _ rfl
  have e4 := hel 4 _ rfl
  simp only [C2, C3, C4, C5, List.drop_zero, List.take_succ_cons, List.take_zero, List.getElem?_cons_zero, List.drop_succ_cons, List.getElem?_cons_succ] at e0 e1 e2 e3 e4
  obtain ⟨n0, n1, rfl, w0, rfl, w1⟩ := two_int Try.underlying38 rfl rfl rfl rfl C5 e0
  obtain ⟨n17, rfl, w17⟩ := one_int Try.underlying3 e3
  obtain ⟨n18, rfl, w18⟩ := one_int Try.underlying3 e4
  obtain ⟨ys, m', rfl, hx1, hlen', hys, hel'⟩ := DataW.trod_struct Try.underlying43 e1
  obtain ⟨y0, y1, y2, y3, y4, rfl⟩ : ∃ x0 x1 x2 x3 x4, ys = [x0, x1, x2, x3, x4] := by
    have h3 : ys.length = 5 := hys
    match ys, h3 with
    | [a, b, c, d, e], _ => exact ⟨a, b, c, d, e, rfl⟩
  have d0 := hel' 0 _ rfl
  have d1 := hel' 1 _ rfl
  have d2 := hel' 2 _ rfl
  have d3 := hel' 3 _ rfl
  have d4 := hel' 4 _ rfl
  simp only [C2, C5, C6, C7, C8, List.drop_zero, List.take_succ_cons, List.take_zero, List.getElem?_cons_zero, List.drop_succ_cons, List.getElem?_cons_succ] at d0 d1 d2 d3 d4
  obtain ⟨n2, rfl, w2⟩ := one_int Try.underlying3 d0
  obtain ⟨n3, n4, rfl, w3, rfl, w4⟩ := two_int Try.underlying40 rfl rfl rfl rfl C5 d1
  obtain ⟨s5, rfl⟩ := one_str Try.underlying9 d2
  obtain ⟨n6, n7, rfl, w6, rfl, w7⟩ := two_int Try.underlying38 rfl rfl rfl rfl C5 d3
  obtain ⟨p8, l8, k8, rfl⟩ := one_row Try.underlying41 d4
  obtain ⟨zs, m'', -, hx2, hlen'', hzs, hel''⟩ := DataW.trod_struct Try.underlying49 e2
  obtain ⟨z0, z1, z2, z3, z4, z5, rfl⟩ : ∃ x0 x1 x2 x3 x4 x5, zs = [x0, x1, x2, x3, x4, x5] := by
    have h3 : zs.length = 6 := hzs
    match zs, h3 with
    | [a, b, c, d, e, f], _ => exact ⟨a, b, c, d, e, f, rfl⟩
  have g0 := hel'' 0 _ rfl
  have g1 := hel'' 1 _ rfl
  have g2 := hel'' 2 _ rfl
  have g3 := hel'' 3 _ rfl
  have g4 := hel'' 4 _ rfl
  have g5 := hel'' 5 _ rfl
  simp only [C5, C7, C8, C9, C10, List.drop_zero, List.take_succ_cons, List.take_zero, List.getElem?_cons_zero, List.drop_succ_cons, List.getElem?_cons_succ] at g0 g1 g2 g3 g4 g5
  obtain ⟨n9, rfl, w9⟩ := one_int Try.underlying44 g0
  obtain ⟨n13, rfl, w13⟩ := one_int Try.underlying3 g2
  obtain ⟨n14, rfl, w14⟩ := one_int Try.underlying3 g3
  obtain ⟨s15, rfl⟩ := one_str Try.underlying9 g4
  obtain ⟨p16, l16, k16, rfl⟩ := one_row Try.underlying41 g5
  obtain ⟨us, m3, -, hx3, hlen3, hus, hel3⟩ := DataW.trod_struct Try.underlying47 g1
  obtain ⟨u0, u1, u2, rfl⟩ : ∃ x0 x1 x2, us = [x0, x1, x2] := by
    have h3 : us.length = 3 := hus
    match us, h3 with
    | [a, b, c], _ => exact ⟨a, b, c, rfl⟩
  have q0 := hel3 0 _ rfl
  have q1 := hel3 1 _ rfl
  have q2 := hel3 2 _ rfl
  simp only [C5, C11, List.drop_zero, List.take_succ_cons, List.take_zero, List.getElem?_cons_zero, List.drop_succ_cons, List.getElem?_cons_succ] at q0 q1 q2
  obtain ⟨n10, rfl, w10⟩ := one_int Try.underlying3 q0
  obtain ⟨n11, rfl, w11⟩ := one_int Try.underlying3 q1
  obtain ⟨p12, l12, k12, rfl⟩ := one_row Try.underlying45 q2
  exact ⟨⟨n0, n2, n9, n17, n18⟩, ⟨rfl, by simp [Value.oneCell'], rfl, rfl, rfl, rfl, rfl, w0, w2, w9, w17, w18⟩⟩
set_option maxRecDepth 100000 in
theorem open_ops {base b0 : Nat} {r : Reach} {v : Value} {d : DataW H} {p : List MemPlace} (hv : Value.okWide Try.prog w r b0 28 v) (h : DataW.Trod enc Try.prog w base sp held 28 v d p) :
    ∃ l : List Oi, RowO w w.heap.size v l := by
  obtain ⟨a, n, c, rfl⟩ := okWide_slice Try.underlying28 hv
  obtain ⟨fuel, e2⟩ := h
  have hC : Try.prog.cellsOf 51 = 19 := by kernel_rfl
  rcases DataW.trod_slice Try.underlying28 e2 with ⟨hc, hx2⟩ | ⟨a, len, cap, elems, rest, m2, hm2, hc, hx2, hb, hlc, hcm, hle, hels, _, _⟩
  · simp only [List.cons.injEq, and_true, Value.cells] at hc
    simp at hc
    obtain ⟨rfl, rfl, rfl⟩ := hc
    exact ⟨[], none, 0, rfl, Nat.le_refl _, by omega, .inl rfl⟩
  · simp [Value.cells] at hc
    obtain ⟨rfl, rfl, rfl⟩ := hc
    rw [hC] at hels
    by_cases hn0 : n = 0
    · subst hn0
      exact ⟨[], some a, c, rfl, Nat.zero_le _, by unfold maxLen at hcm; omega, .inl rfl⟩
    have each : ∀ i, i < n → ∃ (y : Oi) (cs : List Value), OpV cs.toArray y.who y.kind y.e y.f y.t ∧ ∀ k, k < 19 → ∀ v, cs[k]? = some v → w.cell? ((a.add (i * 19)).add k) = some v := by
      intro i hi
      have he := hels i hi
      rw [List.getElem?_eq_getElem (show i < elems.length by omega)] at he
      obtain ⟨cs', h1', h2'⟩ := Option.bind_eq_some_iff.1 he
      obtain ⟨y, hok⟩ := trod_op base m2 _ _ h2'
      obtain ⟨_, hl, hcell⟩ := World.cells?_some h1'
      refine ⟨y, cs', hok, fun k hk v hv => ?_⟩
      have := hcell k (by have := (List.getElem?_eq_some_iff.1 hv).1; omega)
      rw [this]
      simpa using hv
    have hspot : a.spot = none := by
      obtain ⟨y, cs, hv0, h9⟩ := each 0 (by omega)
      have hlen : cs.length = 19 := by have := hv0.n; simpa using this
      have q := World.cell?_spot (h9 0 (by omega) _ (List.getElem?_eq_getElem (by omega)))
      simpa [Addr.add] using q
    obtain ⟨b, o, spot⟩ := a
    simp only at hspot
    subst hspot
    have build : ∀ j, j ≤ n → ∃ l : List Oi, l.length = j ∧ ∀ i x, l[i]? = some x → ∃ cs, OpV cs x.who x.kind x.e x.f x.t ∧ ∀ k v, cs[k]? = some v → w.cell? ⟨b, o + i * 19 + k, none⟩ = some v := by
      intro j
      induction j with
      | zero => intro _; exact ⟨[], rfl, fun i e h => by simp at h⟩
      | succ j ih =>
        intro hj
        obtain ⟨l, hl, hA⟩ := ih (by omega)
        obtain ⟨y, cs, hv1, h9⟩ := each j (by omega)
        have hlen : cs.length = 19 := by have := hv1.n; simpa using this
        refine ⟨l ++ [y], by simp [hl], fun i z hz => ?_⟩
        rcases Nat.lt_or_ge i j with h | h
        · rw [List.getElem?_append_left (by omega)] at hz
          exact hA i z hz
        · rw [List.getElem?_append_right (by omega)] at hz
          have hi : i = j := by
            have := (List.getElem?_eq_some_iff.1 hz).1
            simp at this; omega
          subst hi
          rw [hl, Nat.sub_self] at hz
          simp at hz; subst hz
          refine ⟨cs.toArray, hv1, fun k v hk => ?_⟩
          have hk' : cs[k]? = some v := by simpa using hk
          have := h9 k (by have := (List.getElem?_eq_some_iff.1 hk').1; omega) v hk'
          rw [add_plain, add_plain] at this
          exact this
    obtain ⟨l, hl, hA⟩ := build n (Nat.le_refl _)
    refine ⟨l, some ⟨b, o, none⟩, c, by rw [hl], by omega, by unfold maxLen at hcm; omega, .inr ⟨b, o, rfl, ?_, hA⟩⟩
    obtain ⟨y, hy⟩ : ∃ y, l[0]? = some y := ⟨_, List.getElem?_eq_getElem (by omega)⟩
    obtain ⟨cs, hv1, h9⟩ := hA 0 y hy
    exact block_lt_of_cell (h9 0 _ hv1.hw)
end
end Go.Proofs.Ytfilbdmenlhoiaa
