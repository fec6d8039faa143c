/- Calls with all that belongs to them, that come in. By program (genhog.py). -/
import Derived.Test.YtofgkhoemgimeaaHoc
namespace Go.Proofs.Ytofgkhoemgimeaa
open Go.ChangeShapes Go.WideShapes Go.ChangeAt Go.RowKit
set_option linter.unusedVariables false
open Go.Joins Go.Deep
set_option linter.unusedSimpArgs false
theorem bulk_part {H : Type} : ∀ (l : List (DataW H)) (i : Nat) (d : DataW H), l[i]? = some d → Rows.uptoBulk d ≤ Rows.uptoBulkAll l
  | x :: l, 0, d, h => by
    have e : x = d := by simpa using h
    subst e; simp only [Rows.uptoBulkAll]; omega
  | x :: l, i + 1, d, h => by
    have := bulk_part l i d (by simpa using h)
    simp only [Rows.uptoBulkAll]; omega
theorem wf_i64k {z : Int} (h : (Lit.int .i64 z).wf = true) : i64ok z := by
  simpa [Lit.wf, IntKind.min, IntKind.max, IntKind.signed, IntKind.bits, i64ok] using h
section
variable {H : Type} {enc : TypeId × Value → H} {w : World} {sp : Nat → Bool} {held : Bool}
theorem ov_int {base fuel : Nat} {t : TypeId} {c : Value} {x : DataW H × List MemPlace} (ht : Try.prog.underlying t = some (.int .i64)) (h : DataW.trod enc Try.prog w base sp held fuel t [c] = some x) : ∃ n, c = .int .i64 n ∧ i64ok n := by
  obtain ⟨a, ha, -, wa⟩ := DataW.trod_int ht h
  simp only [List.cons.injEq, and_true] at ha
  exact ⟨a, ha, wf_i64k wa⟩
theorem ov_str {base fuel : Nat} {t : TypeId} {c : Value} {x : DataW H × List MemPlace} (ht : Try.prog.underlying t = some .string) (h : DataW.trod enc Try.prog w base sp held fuel t [c] = some x) : ∃ s, c = .string s ∧ s.size ≤ 9223372036854775807 := by
  obtain ⟨a, ha, -, hz⟩ := DataW.trod_string ht h
  simp only [List.cons.injEq, and_true] at ha
  exact ⟨a, ha, by unfold maxLen at hz; omega⟩
theorem ov_two {base fuel : Nat} {t : TypeId} {c d : Value} {x : DataW H × List MemPlace} {f0 f1 : Field} (ht : Try.prog.underlying t = some (.struct #[f0, f1])) (h0 : f0.type = 3) (h1 : f1.type = 3) (o0 : f0.offset = 0) (o1 : f1.offset = 1) (hCi : Try.prog.cellsOf 3 = 1)
    (h : DataW.trod enc Try.prog w base sp held fuel t [c, d] = some x) : ∃ n m, c = .int .i64 n ∧ i64ok n ∧ d = .int .i64 m ∧ i64ok m := by
  obtain ⟨xs, m, rfl, rfl, hlen, hxs, hel⟩ := DataW.trod_struct ht h
  obtain ⟨x0, x1, rfl⟩ : ∃ x0 x1, xs = [x0, x1] := by
    have h3 : xs.length = 2 := hxs
    match xs, h3 with
    | [a, b], _ => exact ⟨a, b, rfl⟩
  have e0 := hel 0 f0 rfl
  have e1 := hel 1 f1 rfl
  rw [o0, h0, hCi] at e0
  rw [o1, h1, hCi] at e1
  simp only [List.drop_zero, List.take_succ_cons, List.take_zero, List.getElem?_cons_zero, List.drop_succ_cons, List.getElem?_cons_succ] at e0 e1
  obtain ⟨a, rfl, wa⟩ := ov_int Try.underlying3 e0
  obtain ⟨b, rfl, wb⟩ := ov_int Try.underlying3 e1
  exact ⟨a, b, rfl, wa, rfl, wb⟩
theorem ov_nums {base fuel : Nat} {t : TypeId} {c : Value} {x : DataW H × List MemPlace} (ht : Try.prog.underlying t = some (.slice 108)) (he : Try.prog.underlying 108 = some (.int .u64)) (hC : Try.prog.cellsOf 108 = 1) (h : DataW.trod enc Try.prog w base sp held fuel t [c] = some x) :
    ∃ p q xs, c = .slice p (List.length xs) q ∧ Reads .u64 w p xs ∧ xs.length ≤ Rows.uptoBulk x.1 ∧ xs.length ≤ 9223372036854775807 ∧ (∀ x ∈ xs, (Lit.int .u64 x).wf = true) := by
  rcases DataW.trod_slice ht h with ⟨hc, hx⟩ | ⟨a, len, cap, elems, rest, m, _, hc, hx, _, hlc, _, hle, _⟩
  · have hc' : c = .slice none 0 0 := by simpa using hc
    subst hc'
    exact ⟨none, 0, [], rfl, .inl rfl, Nat.zero_le _, by simp, by simp⟩
  · have hc' : c = .slice (some a) len cap := by simpa using hc
    subst hc'
    obtain ⟨yd, yp⟩ := x
    have h2 : IsRow .u64 w (some a) len cap := isRow_of (d := yd) (p := yp) ht he hC ⟨_, h⟩
    obtain ⟨xs, rfl, g1, g2, g3, g4⟩ := h2
    refine ⟨some a, cap, xs, rfl, g3, ?_, g2, g4⟩
    have e : yd = .slice (elems.map (·.1)) (rest.map (·.1)) := congrArg Prod.fst hx
    have h1 := bulks.len_le (elems.map (·.1))
    rw [List.length_map] at h1
    show xs.length ≤ Rows.uptoBulk yd
    rw [e]
    simp only [Rows.uptoBulk]
    omega
/-- What is known of a call that came in. -/
structure Ov.big (c : Ov) (n : Nat) : Prop where
  wf : c.t.ks.wf
  cnt : c.t.ks.cnt + 1 ≤ n
  xs : c.xs.length ≤ n
  ys : c.t.ys.length ≤ n
  s : c.s.size ≤ 9223372036854775807
  tx : c.t.tx.size ≤ 9223372036854775807
  xw : ∀ x ∈ c.xs, (Lit.int .u64 x).wf = true
  yw : ∀ x ∈ c.t.ys, (Lit.int .u64 x).wf = true
theorem Ov.big.mono {c : Ov} {n m : Nat} (h : c.big n) (hm : n ≤ m) : c.big m := ⟨h.wf, Nat.le_trans h.cnt hm, Nat.le_trans h.xs hm, Nat.le_trans h.ys hm, h.s, h.tx, h.xw, h.yw⟩
set_option maxRecDepth 100000 in
set_option maxHeartbeats 4000000 in
theorem trod_ov (base fuel : Nat) (cs : List Value) (x : DataW H × List MemPlace) (h : DataW.trod enc Try.prog w base sp held fuel 41 cs = some x) :
    ∃ y : Ov, OvVal w w.heap.size cs.toArray y ∧ y.big (Rows.uptoBulk x.1) := by
  have C1 : Try.prog.cellsOf 41 = 19 := by kernel_rfl
  have C2 : Try.prog.cellsOf 28 = 2 := by kernel_rfl
  have C3 : Try.prog.cellsOf 33 = 7 := by kernel_rfl
  have C4 : Try.prog.cellsOf 39 = 8 := by kernel_rfl
  have C5 : Try.prog.cellsOf 3 = 1 := by kernel_rfl
  have C6 : Try.prog.cellsOf 30 = 2 := by kernel_rfl
  have C7 : Try.prog.cellsOf 9 = 1 := by kernel_rfl
  have C8 : Try.prog.cellsOf 31 = 1 := by kernel_rfl
  have C9 : Try.prog.cellsOf 34 = 1 := by kernel_rfl
  have C10 : Try.prog.cellsOf 37 = 3 := by kernel_rfl
  have C12 : Try.prog.cellsOf 108 = 1 := by kernel_rfl
  obtain ⟨xs, m, rfl, hx, hlen, hxs, hel⟩ := DataW.trod_struct Try.underlying41 h
  rw [C1] at hlen
  obtain ⟨c0, c1, c2, c3, c4, c5, c6, c7, c8, c9, c10, c11, c12, c13, c14, c15, c16, c17, c18, rfl⟩ : ∃ c0 c1 c2 c3 c4 c5 c6 c7 c8 c9 c10 c11 c12 c13 c14 c15 c16 c17 c18, cs = [c0, c1, c2, c3, c4, c5, c6, c7, c8, c9, c10, c11, c12, c13, c14, c15, c16, c17, c18] := by
    match cs, hlen with
    | [c0, c1, c2, c3, c4, c5, c6, c7, c8, c9, c10, c11, c12, c13, c14, c15, c16, c17, c18], _ => exact ⟨_, _, _, _, _, _, _, _, _, _, _, _, _, _, _, _, _, _, _, rfl⟩
  obtain ⟨x0, x1, x2, x3, x4, rfl⟩ : ∃ x0 x1 x2 x3 x4, xs = [x0, x1, x2, x3, x4] := by
    have h3 : xs.length = 5 := hxs
    match xs, h3 with
    | [a, b, c, d, e], _ => exact ⟨a, b, c, d, e, rfl⟩
  have e0 := hel 0 _ rfl
  have e1 := hel 1 _ rfl
  have e2 := hel 2 _ rfl
  have e3 := hel 3 _ rfl
  have e4 := hel 4 _ rfl
  simp only [C2, C3, C4, C5, List.drop_zero, List.take_succ_cons, List.take_zero, List.getElem?_cons_zero, List.drop_succ_cons, List.getElem?_cons_succ] at e0 e1 e2 e3 e4
  obtain ⟨n0, n1, rfl, w0, rfl, w1⟩ := ov_two Try.underlying28 rfl rfl rfl rfl C5 e0
  obtain ⟨n17, rfl, w17⟩ := ov_int Try.underlying3 e3
  obtain ⟨n18, rfl, w18⟩ := ov_int Try.underlying3 e4
  obtain ⟨ys, m', -, hx1, hlen', hys, hel'⟩ := DataW.trod_struct Try.underlying33 e1
  obtain ⟨y0, y1, y2, y3, y4, rfl⟩ : ∃ x0 x1 x2 x3 x4, ys = [x0, x1, x2, x3, x4] := by
    have h3 : ys.length = 5 := hys
    match ys, h3 with
    | [a, b, c, d, e], _ => exact ⟨a, b, c, d, e, rfl⟩
  have d0 := hel' 0 _ rfl
  have d1 := hel' 1 _ rfl
  have d2 := hel' 2 _ rfl
  have d3 := hel' 3 _ rfl
  have d4 := hel' 4 _ rfl
  simp only [C2, C5, C6, C7, C8, List.drop_zero, List.take_succ_cons, List.take_zero, List.getElem?_cons_zero, List.drop_succ_cons, List.getElem?_cons_succ] at d0 d1 d2 d3 d4
  obtain ⟨n2, rfl, w2⟩ := ov_int Try.underlying3 d0
  obtain ⟨n3, n4, rfl, w3, rfl, w4⟩ := ov_two Try.underlying30 rfl rfl rfl rfl C5 d1
  obtain ⟨s5, rfl, z5⟩ := ov_str Try.underlying9 d2
  obtain ⟨n6, n7, rfl, w6, rfl, w7⟩ := ov_two Try.underlying28 rfl rfl rfl rfl C5 d3
  obtain ⟨p8, k8, us8, rfl, r8, l8, m8, q8⟩ := ov_nums Try.underlying31 Try.underlying108 C12 d4
  obtain ⟨zs, m'', -, hx2, hlen'', hzs, hel''⟩ := DataW.trod_struct Try.underlying39 e2
  obtain ⟨z0, z1, z2, z3, z4, z5', rfl⟩ : ∃ x0 x1 x2 x3 x4 x5, zs = [x0, x1, x2, x3, x4, x5] := by
    have h3 : zs.length = 6 := hzs
    match zs, h3 with
    | [a, b, c, d, e, f], _ => exact ⟨a, b, c, d, e, f, rfl⟩
  have g0 := hel'' 0 _ rfl
  have g1 := hel'' 1 _ rfl
  have g2 := hel'' 2 _ rfl
  have g3 := hel'' 3 _ rfl
  have g4 := hel'' 4 _ rfl
  have g5 := hel'' 5 _ rfl
  simp only [C5, C7, C8, C9, C10, List.drop_zero, List.take_succ_cons, List.take_zero, List.getElem?_cons_zero, List.drop_succ_cons, List.getElem?_cons_succ] at g0 g1 g2 g3 g4 g5
  obtain ⟨n9, rfl, w9⟩ := ov_int Try.underlying34 g0
  obtain ⟨n13, rfl, w13⟩ := ov_int Try.underlying3 g2
  obtain ⟨n14, rfl, w14⟩ := ov_int Try.underlying3 g3
  obtain ⟨s15, rfl, z15⟩ := ov_str Try.underlying9 g4
  obtain ⟨p16, k16, us16, rfl, r16, l16, m16, q16⟩ := ov_nums Try.underlying31 Try.underlying108 C12 g5
  obtain ⟨n10, n11, v12, ks, hcs, hK, hwf, w10, w11, hcnt⟩ := trod_fo (H := H) (enc := enc) (w := w) (sp := sp) (held := held) 35 _ _ _ Try.underlying37 Try.underlying35 Try.underlying3 Try.underlying3 rfl rfl rfl (by kernel_rfl) (by kernel_rfl) (by kernel_rfl) (by kernel_rfl) base _ _ _ g1
  simp at hcs
  obtain ⟨rfl, rfl, rfl⟩ := hcs
  have hT : ∀ i (d : DataW H × List MemPlace), [x0, x1, x2, x3, x4][i]? = some d → Rows.uptoBulk d.1 ≤ Rows.uptoBulk x.1 := fun i d hd => by
    rw [show x.1 = .agg ([x0, x1, x2, x3, x4].map (·.1)) from congrArg Prod.fst hx]
    simp only [Rows.uptoBulk]
    have := bulk_part ([x0, x1, x2, x3, x4].map (·.1)) i d.1 (by rw [List.getElem?_map, hd]; rfl)
    omega
  have hC : ∀ i (d : DataW H × List MemPlace), [y0, y1, y2, y3, y4][i]? = some d → Rows.uptoBulk d.1 ≤ Rows.uptoBulk x1.1 := fun i d hd => by
    rw [show x1.1 = .agg ([y0, y1, y2, y3, y4].map (·.1)) from congrArg Prod.fst hx1]
    simp only [Rows.uptoBulk]
    have := bulk_part ([y0, y1, y2, y3, y4].map (·.1)) i d.1 (by rw [List.getElem?_map, hd]; rfl)
    omega
  have hD : ∀ i (d : DataW H × List MemPlace), [z0, z1, z2, z3, z4, z5'][i]? = some d → Rows.uptoBulk d.1 ≤ Rows.uptoBulk x2.1 := fun i d hd => by
    rw [show x2.1 = .agg ([z0, z1, z2, z3, z4, z5'].map (·.1)) from congrArg Prod.fst hx2]
    simp only [Rows.uptoBulk]
    have := bulk_part ([z0, z1, z2, z3, z4, z5'].map (·.1)) i d.1 (by rw [List.getElem?_map, hd]; rfl)
    omega
  have b1 := hT 1 x1 rfl
  have b2 := hT 2 x2 rfl
  have b3 := hC 4 y4 rfl
  have b4 := hD 1 z1 rfl
  have b5 := hD 5 z5' rfl
  obtain ⟨kp, km, kc, rfl, -⟩ := hK.shape
  refine ⟨⟨n0, n1, n2, n3, n4, s5, n6, n7, us8, ⟨n9, n10, n11, ks, n13, n14, s15, us16⟩, n17, n18⟩, ⟨p8, p16, kp, k8, k16, km, kc, rfl, hK, r8, r16, m8, m16, ⟨w0, w1, w2, w3, w4, w6, w7, w9, w10, w11, w13, w14, w17, w18⟩⟩, ⟨hwf, ?_, ?_, ?_, z5, z15, q8, q16⟩⟩
  · show ks.cnt + 1 ≤ _; omega
  · show us8.length ≤ _; omega
  · show us16.length ≤ _; omega
end
set_option maxRecDepth 100000 in
theorem open_ov {H : Type} {enc : TypeId × Value → H} {w : World} {sp : Nat → Bool} {held : Bool} {base b0 : Nat} {r : Reach} {v : Value} {d : DataW H} {p : List MemPlace} (hv : Value.okWide Try.prog w r b0 41 v) (h : DataW.Trod enc Try.prog w base sp held 41 v d p) :
    ∃ (cs : Array Value) (y : Ov), v = .agg cs ∧ OvVal w w.heap.size cs y ∧ y.big (Rows.uptoBulk d) := by
  obtain ⟨cs, rfl, hsz⟩ := okWide_struct Try.underlying41 hv
  obtain ⟨fuel, hf⟩ := h
  obtain ⟨y, h1, h2⟩ := trod_ov base fuel _ _ hf
  simp only [Value.cells, Array.toArray_toList] at h1
  exact ⟨cs, y, rfl, h1, h2⟩
set_option maxRecDepth 100000 in
theorem open_ovs {H : Type} {enc : TypeId × Value → H} {w : World} {sp : Nat → Bool} {held : Bool} {base b0 : Nat} {r : Reach} {v : Value} {d : DataW H} {p : List MemPlace} (hv : Value.okWide Try.prog w r b0 22 v) (h : DataW.Trod enc Try.prog w base sp held 22 v d p) :
    ∃ l : List Ov, RowOv w w.heap.size v l ∧ (∀ y ∈ l, y.big (Rows.uptoBulk d)) ∧ l.length ≤ Rows.uptoBulk d := by
  obtain ⟨a, n, c, rfl⟩ := okWide_slice Try.underlying22 hv
  obtain ⟨fuel, e2⟩ := h
  have hC : Try.prog.cellsOf 41 = 19 := by kernel_rfl
  rcases DataW.trod_slice Try.underlying22 e2 with ⟨hc, hx2⟩ | ⟨a, len, cap, elems, rest, m2, hm2, hc, hx2, hb, hlc, hcm, hle, hels, _, _⟩
  · simp only [List.cons.injEq, and_true, Value.cells] at hc
    simp at hc
    obtain ⟨rfl, rfl, rfl⟩ := hc
    exact ⟨[], ⟨none, 0, rfl, .inl rfl⟩, fun y h => (by cases h), Nat.zero_le _⟩
  · simp [Value.cells] at hc
    obtain ⟨rfl, rfl, rfl⟩ := hc
    rw [hC] at hels
    have hd : d = .slice (elems.map (·.1)) (rest.map (·.1)) := congrArg Prod.fst hx2
    have hbd : n ≤ Rows.uptoBulk d := by
      have h1 := bulks.len_le (elems.map (·.1))
      rw [List.length_map] at h1
      rw [hd]
      simp only [Rows.uptoBulk]
      omega
    by_cases hn0 : n = 0
    · subst hn0
      exact ⟨[], ⟨some a, c, rfl, .inl rfl⟩, fun y h => (by cases h), Nat.zero_le _⟩
    have each : ∀ i, i < n → ∃ (y : Ov), y.big (Rows.uptoBulk d) ∧ ∃ (cs : List Value), OvVal w w.heap.size cs.toArray y ∧ ∀ k, k < 19 → ∀ v, cs[k]? = some v → w.cell? ((a.add (i * 19)).add k) = some v := by
      intro i hi
      have he := hels i hi
      rw [List.getElem?_eq_getElem (show i < elems.length by omega)] at he
      obtain ⟨cs', h1', h2'⟩ := Option.bind_eq_some_iff.1 he
      obtain ⟨y, hok, hbig⟩ := trod_ov base m2 _ _ h2'
      obtain ⟨_, hl, hcell⟩ := World.cells?_some h1'
      have hle2 : Rows.uptoBulk (elems[i]'(by omega)).1 ≤ Rows.uptoBulk d := by
        rw [hd]
        simp only [Rows.uptoBulk]
        have := bulk_part (elems.map (·.1)) i (elems[i]'(by omega)).1 (by rw [List.getElem?_map, List.getElem?_eq_getElem (show i < elems.length by omega)]; rfl)
        omega
      refine ⟨y, ⟨hbig.wf, Nat.le_trans hbig.cnt hle2, Nat.le_trans hbig.xs hle2, Nat.le_trans hbig.ys hle2, hbig.s, hbig.tx, hbig.xw, hbig.yw⟩, cs', hok, fun k hk v hv => ?_⟩
      have := hcell k (by have := (List.getElem?_eq_some_iff.1 hv).1; omega)
      rw [this]
      simpa using hv
    have hspot : a.spot = none := by
      obtain ⟨y, -, cs, hv0, h9⟩ := each 0 (by omega)
      have hlen : cs.length = 19 := by have := hv0.n; simpa using this
      have q := World.cell?_spot (h9 0 (by omega) _ (List.getElem?_eq_getElem (by omega)))
      simpa [Addr.add] using q
    obtain ⟨b, o, spot⟩ := a
    simp only at hspot
    subst hspot
    have build : ∀ j, j ≤ n → ∃ l : List Ov, l.length = j ∧ ∀ i x, l[i]? = some x → x.big (Rows.uptoBulk d) ∧ OvAt w w.heap.size b (o + i * 19) x := by
      intro j
      induction j with
      | zero => intro _; exact ⟨[], rfl, fun i e h => by simp at h⟩
      | succ j ih =>
        intro hj
        obtain ⟨l, hl, hA⟩ := ih (by omega)
        obtain ⟨y, hbig, cs, hv1, h9⟩ := each j (by omega)
        have hlen : cs.length = 19 := by have := hv1.n; simpa using this
        refine ⟨l ++ [y], by simp [hl], fun i z hz => ?_⟩
        rcases Nat.lt_or_ge i j with h | h
        · rw [List.getElem?_append_left (by omega)] at hz
          exact hA i z hz
        · rw [List.getElem?_append_right (by omega)] at hz
          have hi : i = j := by
            have := (List.getElem?_eq_some_iff.1 hz).1
            simp at this; omega
          subst hi
          rw [hl, Nat.sub_self] at hz
          simp at hz; subst hz
          refine ⟨hbig, cs.toArray, hv1, fun k v hk => ?_⟩
          have hk' : cs[k]? = some v := by simpa using hk
          have := h9 k (by have := (List.getElem?_eq_some_iff.1 hk').1; omega) v hk'
          rw [add_plain, add_plain] at this
          exact this
    obtain ⟨l, hl, hA⟩ := build n (Nat.le_refl _)
    refine ⟨l, ⟨some ⟨b, o, none⟩, c, by rw [hl], .inr ⟨b, o, rfl, ?_, fun j x hj => (hA j x hj).2⟩⟩, fun y hy => ?_, by omega⟩
    · obtain ⟨y, hy⟩ : ∃ y, l[0]? = some y := ⟨_, List.getElem?_eq_getElem (by omega)⟩
      obtain ⟨-, cs, hv1, h9⟩ := hA 0 y hy
      have h19 := hv1.n
      exact block_lt_of_cell (h9 0 _ (Array.getElem?_eq_getElem (by omega)))
    · obtain ⟨i, hi, rfl⟩ := List.getElem_of_mem hy
      exact (hA i _ (List.getElem?_eq_getElem hi)).1
end Go.Proofs.Ytofgkhoemgimeaa
