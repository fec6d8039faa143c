/- Scripts that come in: a reading is a script in memory. By program (genslv.py). -/
import Derived.Test.YthnpbfboedgmpaaSlk
import Derived.Lib.SmallJoins
import Derived.JoinedCond
namespace Go.Proofs.Ythnpbfboedgmpaa
open Go.ChangeShapes Go.WideShapes Go.ChangeAt Go.RowKit
set_option linter.unusedVariables false
open Go.Joins Go.Deep
set_option linter.unusedSimpArgs false
/-- How much calls hold. -/
def bulkK (l : List Cl) : Nat := (l.map fun c => 1 + c.s.size + c.xs.length).sum
def bulkC (cs : List (List Cl)) : Nat := (cs.map bulkK).sum
theorem bulkK_take {l : List Cl} {k : Nat} {c : Cl} (h : l[k]? = some c) : bulkK (l.take (k + 1)) = bulkK (l.take k) + (1 + c.s.size + c.xs.length) := by
  unfold bulkK
  rw [List.take_add_one, h]; simp
theorem bulkC_take {cs : List (List Cl)} {k : Nat} {l : List Cl} (h : cs[k]? = some l) : bulkC (cs.take (k + 1)) = bulkC (cs.take k) + bulkK l := by
  unfold bulkC
  rw [List.take_add_one, h]; simp
theorem bulkK_le (l : List Cl) (k : Nat) : bulkK (l.take k) ≤ bulkK l := by
  have h : bulkK l = bulkK (l.take k) + bulkK (l.drop k) := by
    unfold bulkK
    rw [← List.sum_append, ← List.map_append, List.take_append_drop]
  omega
theorem bulkC_le (cs : List (List Cl)) (k : Nat) : bulkC (cs.take k) ≤ bulkC cs := by
  have h : bulkC cs = bulkC (cs.take k) + bulkC (cs.drop k) := by
    unfold bulkC
    rw [← List.sum_append, ← List.map_append, List.take_append_drop]
  omega
theorem bulkK_get {l : List Cl} {k : Nat} {c : Cl} (h : l[k]? = some c) : 1 + c.s.size + c.xs.length ≤ bulkK l := by
  have h1 := bulkK_take h
  have h2 := bulkK_le l (k + 1)
  omega
theorem bulkC_get {cs : List (List Cl)} {k : Nat} {l : List Cl} (h : cs[k]? = some l) : bulkC (cs.take k) + bulkK l ≤ bulkC cs := by
  have h1 := bulkC_take h
  have h2 := bulkC_le cs (k + 1)
  omega
section
variable {H : Type} {enc : TypeId × Value → H} {w : World} {sp : Nat → Bool} {held : Bool}
theorem wf_i64r {z : Int} (h : (Lit.int .i64 z).wf = true) : i64r z := by
  simpa [Lit.wf, IntKind.min, IntKind.max, IntKind.signed, IntKind.bits, i64r] using h
theorem sc_one_int {base fuel : Nat} {t : TypeId} {c : Value} {x : DataW H × List MemPlace} (ht : Try.prog.underlying t = some (.int .i64)) (h : DataW.trod enc Try.prog w base sp held fuel t [c] = some x) : ∃ n, c = .int .i64 n ∧ i64r n := by
  obtain ⟨a, ha, -, wa⟩ := DataW.trod_int ht h
  simp only [List.cons.injEq, and_true] at ha
  exact ⟨a, ha, wf_i64r wa⟩
theorem sc_two_int {base fuel : Nat} {t : TypeId} {c d : Value} {x : DataW H × List MemPlace} {f0 f1 : Field} (ht : Try.prog.underlying t = some (.struct #[f0, f1])) (h0 : f0.type = 3) (h1 : f1.type = 3) (o0 : f0.offset = 0) (o1 : f1.offset = 1) (hCi : Try.prog.cellsOf 3 = 1)
    (h : DataW.trod enc Try.prog w base sp held fuel t [c, d] = some x) : ∃ n m, c = .int .i64 n ∧ i64r n ∧ d = .int .i64 m ∧ i64r m := by
  obtain ⟨xs, m, rfl, rfl, hlen, hxs, hel⟩ := DataW.trod_struct ht h
  obtain ⟨x0, x1, rfl⟩ : ∃ x0 x1, xs = [x0, x1] := by
    have h3 : xs.length = 2 := hxs
    match xs, h3 with
    | [a, b], _ => exact ⟨a, b, rfl⟩
  have e0 := hel 0 f0 rfl
  have e1 := hel 1 f1 rfl
  rw [o0, h0, hCi] at e0
  rw [o1, h1, hCi] at e1
  simp only [List.drop_zero, List.take_succ_cons, List.take_zero, List.getElem?_cons_zero, List.drop_succ_cons, List.getElem?_cons_succ] at e0 e1
  obtain ⟨a, rfl, wa⟩ := sc_one_int Try.underlying3 e0
  obtain ⟨b, rfl, wb⟩ := sc_one_int Try.underlying3 e1
  exact ⟨a, b, rfl, wa, rfl, wb⟩
end
namespace bulks
theorem one_le {H : Type} (d : DataW H) : 1 ≤ Rows.uptoBulk d := by
  cases d with
  | lit l => cases l <;> simp [Rows.uptoBulk]
  | nil => simp [Rows.uptoBulk]
  | ptr d => simp [Rows.uptoBulk]
  | slice elems spare => simp [Rows.uptoBulk]
  | agg parts => simp [Rows.uptoBulk]
  | iface t d => simp [Rows.uptoBulk]
  | map entries => simp [Rows.uptoBulk]
  | held h => simp [Rows.uptoBulk]
theorem len_le {H : Type} (l : List (DataW H)) : l.length ≤ Rows.uptoBulkAll l := by
  induction l with
  | nil => simp [Rows.uptoBulkAll]
  | cons x r ih => have := one_le x; simp only [Rows.uptoBulkAll, List.length_cons]; omega
theorem bound {H : Type} {l : List (DataW H)} (hk : Rows.uptoSmall H l = true) : Rows.uptoBulkAll l ≤ 1048576 := of_decide_eq_true hk
theorem get_le {H : Type} : ∀ (l : List (DataW H)) (i : Nat) (d : DataW H), l[i]? = some d → Rows.uptoBulk d ≤ Rows.uptoBulkAll l
  | x :: l, 0, d, h => by
    have e : x = d := by simpa using h
    subst e; simp only [Rows.uptoBulkAll]; omega
  | x :: l, i + 1, d, h => by
    have := get_le l i d (by simpa using h)
    simp only [Rows.uptoBulkAll]; omega
theorem sum_le {H α : Type} (f : α → Nat) : ∀ (l : List α) (ds : List (DataW H)), l.length = ds.length → (∀ (i : Nat) y d, l[i]? = some y → ds[i]? = some d → f y ≤ Rows.uptoBulk d) → (l.map f).sum ≤ Rows.uptoBulkAll ds
  | [], _, _, _ => Nat.zero_le _
  | y :: l, [], h, _ => by simp at h
  | y :: l, d :: ds, h, g => by
    have h1 := g 0 y d rfl rfl
    have h2 := sum_le f l ds (by simpa using h) (fun i y d hy hd => g (i + 1) y d (by simpa using hy) (by simpa using hd))
    rw [List.map_cons, List.sum_cons]
    simp only [Rows.uptoBulkAll]
    omega
end bulks
theorem list_of {α : Type} {P : Nat → α → Prop} : ∀ n, (∀ i, i < n → ∃ y, P i y) → ∃ l : List α, l.length = n ∧ ∀ (i : Nat) y, l[i]? = some y → P i y
  | 0, _ => ⟨[], rfl, fun i y h => by simp at h⟩
  | n + 1, h => by
    obtain ⟨l, hl, hA⟩ := list_of (P := P) n (fun i hi => h i (by omega))
    obtain ⟨y, hy⟩ := h n (by omega)
    refine ⟨l ++ [y], by simp [hl], fun i z hz => ?_⟩
    rcases Nat.lt_or_ge i n with h | h
    · rw [List.getElem?_append_left (by omega)] at hz
      exact hA i z hz
    · rw [List.getElem?_append_right (by omega)] at hz
      have hi : i = n := by
        have := (List.getElem?_eq_some_iff.1 hz).1
        simp at this; omega
      subst hi
      rw [hl, Nat.sub_self] at hz
      simp at hz; subst hz
      exact hy
section
variable {H : Type} {enc : TypeId × Value → H} {w : World} {sp : Nat → Bool} {held : Bool}
theorem trod_nums {k : IntKind} {t e : TypeId} {base fuel : Nat} {c : Value} {x : DataW H × List MemPlace} (ht : Try.prog.underlying t = some (.slice e)) (he : Try.prog.underlying e = some (.int k)) (hC : Try.prog.cellsOf e = 1) (h : DataW.trod enc Try.prog w base sp held fuel t [c] = some x) :
    ∃ p n q, c = .slice p n q ∧ IsRow k w p n q ∧ n ≤ Rows.uptoBulk x.1 ∧ n ≤ q := by
  rcases DataW.trod_slice ht h with ⟨hc, hx⟩ | ⟨a, len, cap, elems, rest, m, _, hc, hx, _, hlc, _, hle, _⟩
  · have hc' : c = .slice none 0 0 := by simpa using hc
    subst hc'
    obtain ⟨yd, yp⟩ := x
    exact ⟨_, _, _, rfl, isRow_of (d := yd) (p := yp) ht he hC ⟨_, h⟩, Nat.zero_le _, Nat.le_refl _⟩
  · have hc' : c = .slice (some a) len cap := by simpa using hc
    subst hc'
    obtain ⟨yd, yp⟩ := x
    refine ⟨_, _, _, rfl, isRow_of (d := yd) (p := yp) ht he hC ⟨_, h⟩, ?_, hlc⟩
    have e : yd = .slice (elems.map (·.1)) (rest.map (·.1)) := congrArg Prod.fst hx
    have h1 := bulks.len_le (elems.map (·.1))
    rw [List.length_map] at h1
    show len ≤ Rows.uptoBulk yd
    rw [e]
    simp only [Rows.uptoBulk]
    omega
set_option maxRecDepth 100000 in
set_option maxHeartbeats 4000000 in
theorem trod_cl (base fuel : Nat) (cs : List Value) (x : DataW H × List MemPlace) (hb : Rows.uptoBulk x.1 ≤ 1048576) (h : DataW.trod enc Try.prog w base sp held fuel 50 cs = some x) :
    ∃ (c : Cl) (xv : Value), cs = clCells c xv ∧ c.ok ∧ RowX w xv c.xs ∧ 1 + c.s.size + c.xs.length ≤ Rows.uptoBulk x.1 := by
  have C2 : Try.prog.cellsOf 47 = 2 := by kernel_rfl
  have C3 : Try.prog.cellsOf 50 = 7 := by kernel_rfl
  have C5 : Try.prog.cellsOf 3 = 1 := by kernel_rfl
  have C6 : Try.prog.cellsOf 45 = 2 := by kernel_rfl
  have C7 : Try.prog.cellsOf 9 = 1 := by kernel_rfl
  have C8 : Try.prog.cellsOf 48 = 1 := by kernel_rfl
  obtain ⟨ys, m', rfl, hx1, hlen', hys, hel'⟩ := DataW.trod_struct Try.underlying50 h
  rw [C3] at hlen'
  obtain ⟨c0, c1, c2, c3, c4, c5, c6, rfl⟩ : ∃ c0 c1 c2 c3 c4 c5 c6, cs = [c0, c1, c2, c3, c4, c5, c6] := by
    match cs, hlen' with
    | [c0, c1, c2, c3, c4, c5, c6], _ => exact ⟨_, _, _, _, _, _, _, rfl⟩
  obtain ⟨y0, y1, y2, y3, y4, rfl⟩ : ∃ x0 x1 x2 x3 x4, ys = [x0, x1, x2, x3, x4] := by
    have h3 : ys.length = 5 := hys
    match ys, h3 with
    | [a, b, c, d, e], _ => exact ⟨a, b, c, d, e, rfl⟩
  have d0 := hel' 0 _ rfl
  have d1 := hel' 1 _ rfl
  have d2 := hel' 2 _ rfl
  have d3 := hel' 3 _ rfl
  have d4 := hel' 4 _ rfl
  simp only [C2, C5, C6, C7, C8, List.drop_zero, List.take_succ_cons, List.take_zero, List.getElem?_cons_zero, List.drop_succ_cons, List.getElem?_cons_succ] at d0 d1 d2 d3 d4
  obtain ⟨n2, rfl, w2⟩ := sc_one_int Try.underlying3 d0
  obtain ⟨n3, n4, rfl, w3, rfl, w4⟩ := sc_two_int Try.underlying45 rfl rfl rfl rfl C5 d1
  obtain ⟨s5, hs5, hy2, -⟩ := DataW.trod_string Try.underlying9 d2
  have e5 : List.take (Try.prog.cellsOf 9) [c3, c4, c5, c6] = [c3] := by rw [C7]; rfl
  have hs5' : c3 = .string s5 := by
    have h5 : [c3] = [Value.string s5] := e5.symm.trans hs5
    simpa using h5
  subst hs5'
  obtain ⟨n6, n7, rfl, w6, rfl, w7⟩ := sc_two_int Try.underlying47 rfl rfl rfl rfl C5 d3
  obtain ⟨p8, l8, k8, rfl, hrow, hbl, -⟩ := trod_nums Try.underlying48 Try.underlying66 (by kernel_rfl) d4
  have ex : x.1 = .agg ([y0, y1, y2, y3, y4].map (·.1)) := congrArg Prod.fst hx1
  have hyb : Rows.uptoBulk y2.1 = s5.size + 1 := by
    rw [hy2]
    simp only [Rows.uptoBulk]
    rfl
  have hbx : s5.size + 1 + l8 + 1 ≤ Rows.uptoBulk x.1 := by
    rw [ex]
    simp only [List.map_cons, List.map_nil, Rows.uptoBulk, Rows.uptoBulkAll]
    omega
  obtain ⟨xs, hxs⟩ := Row.of_isRow hrow (by omega)
  obtain rfl : xs.length = l8 := hxs.len
  exact ⟨⟨n2, n3, n4, s5, n6, n7, xs⟩, _, rfl, ⟨w2, w3, w4, w6, w7⟩, ⟨_, _, rfl, hxs⟩, by show 1 + s5.size + xs.length ≤ _; omega⟩
set_option maxRecDepth 100000 in
set_option maxHeartbeats 4000000 in
theorem trod_cls (base fuel : Nat) (v : Value) (x : DataW H × List MemPlace) (hb : Rows.uptoBulk x.1 ≤ 1048576) (h : DataW.trod enc Try.prog w base sp held fuel 42 [v] = some x) :
    ∃ l : List Cl, RowC w v l ∧ bulkK l ≤ Rows.uptoBulk x.1 ∧ l.length ≤ Rows.uptoBulk x.1 := by
  have hC : Try.prog.cellsOf 50 = 7 := by kernel_rfl
  rcases DataW.trod_slice Try.underlying42 h with ⟨hc, hx2⟩ | ⟨a, len, cap, elems, rest, m2, hm2, hc, hx2, hbs, hlc, hcm, hle, hels, _, _⟩
  · have hc' : v = .slice none 0 0 := by simpa using hc
    subst hc'
    exact ⟨[], ⟨none, 0, rfl, .inl rfl⟩, Nat.zero_le _, Nat.zero_le _⟩
  · have hc' : v = .slice (some a) len cap := by simpa using hc
    subst hc'
    rw [hC] at hels
    have ex : x.1 = .slice (elems.map (·.1)) (rest.map (·.1)) := congrArg Prod.fst hx2
    have hbx : Rows.uptoBulkAll (elems.map (·.1)) + 1 ≤ Rows.uptoBulk x.1 := by rw [ex]; simp only [Rows.uptoBulk]; omega
    have each : ∀ i, i < len → ∃ c : Cl, (∃ u, w.cell? (a.add (i * 7)) = some u) ∧ (∀ b o, a = ⟨b, o, none⟩ → ClAt w b (o + i * 7) c) ∧ ∀ d, (elems.map (·.1))[i]? = some d → 1 + c.s.size + c.xs.length ≤ Rows.uptoBulk d := by
      intro i hi
      have he := hels i hi
      rw [List.getElem?_eq_getElem (show i < elems.length by omega)] at he
      obtain ⟨cs', h1', h2'⟩ := Option.bind_eq_some_iff.1 he
      have hbe : Rows.uptoBulk (elems[i]'(by omega)).1 ≤ Rows.uptoBulkAll (elems.map (·.1)) := bulks.get_le (elems.map (·.1)) i _ (by rw [List.getElem?_map, List.getElem?_eq_getElem (show i < elems.length by omega)]; rfl)
      have hbe2 : Rows.uptoBulk (elems[i]'(by omega)).1 ≤ 1048576 := by omega
      obtain ⟨c, xv, rfl, hok, hxv, hbc⟩ := trod_cl base m2 cs' _ hbe2 h2'
      obtain ⟨_, _, hcell⟩ := World.cells?_some h1'
      have q0 := hcell 0 (by omega)
      have e : (a.add (i * 7)).add 0 = a.add (i * 7) := by obtain ⟨b, o, sp⟩ := a; cases sp <;> simp [Addr.add]
      rw [e] at q0
      refine ⟨c, ⟨_, q0⟩, ?_, fun d hd => ?_⟩
      · rintro b o rfl
        have q1 := hcell 1 (by omega)
        have q2 := hcell 2 (by omega)
        have q3 := hcell 3 (by omega)
        have q4 := hcell 4 (by omega)
        have q5 := hcell 5 (by omega)
        have q6 := hcell 6 (by omega)
        rw [add_plain, add_plain] at q1 q2 q3 q4 q5 q6
        rw [add_plain] at q0
        exact ⟨hok, by simpa [clCells] using q0, by simpa [clCells] using q1, by simpa [clCells] using q2, by simpa [clCells] using q3, by simpa [clCells] using q4, by simpa [clCells] using q5, xv, by simpa [clCells] using q6, hxv⟩
      · rw [List.getElem?_map, List.getElem?_eq_getElem (show i < elems.length by omega)] at hd
        obtain rfl := Option.some.inj hd
        exact hbc
    obtain ⟨l, hl, hA⟩ := list_of len each
    have hlen : l.length = (elems.map (·.1)).length := by rw [List.length_map]; omega
    have hsum := bulks.sum_le (fun c : Cl => 1 + c.s.size + c.xs.length) l (elems.map (·.1)) hlen (fun i y d hy hd => (hA i y hy).2.2 d hd)
    have hll := bulks.len_le (elems.map (·.1))
    refine ⟨l, ⟨some a, cap, by rw [hl], ?_⟩, by unfold bulkK; omega, by omega⟩
    by_cases h0 : l = []
    · exact .inl h0
    · right
      have hpos := List.length_pos_iff.2 h0
      obtain ⟨⟨u, hu⟩, -, -⟩ := hA 0 _ (List.getElem?_eq_getElem hpos)
      obtain ⟨b, o, spot⟩ := a
      have hspot : spot = none := by
        have := World.cell?_spot hu
        cases spot with
        | none => rfl
        | some q => simp [Addr.add] at this
      subst hspot
      rw [add_plain] at hu
      exact ⟨b, o, rfl, block_lt_of_cell hu, fun j y hy => (hA j y hy).2.1 b o rfl⟩
set_option maxRecDepth 100000 in
set_option maxHeartbeats 4000000 in
theorem trod_clss (base fuel : Nat) (v : Value) (x : DataW H × List MemPlace) (hb : Rows.uptoBulk x.1 ≤ 1048576) (h : DataW.trod enc Try.prog w base sp held fuel 22 [v] = some x) :
    ∃ cs : List (List Cl), RowCC w v cs ∧ bulkC cs ≤ Rows.uptoBulk x.1 ∧ cs.length ≤ Rows.uptoBulk x.1 ∧ ∀ l ∈ cs, l.length ≤ 1048576 := by
  have hC : Try.prog.cellsOf 42 = 1 := by kernel_rfl
  rcases DataW.trod_slice Try.underlying22 h with ⟨hc, hx2⟩ | ⟨a, len, cap, elems, rest, m2, hm2, hc, hx2, hbs, hlc, hcm, hle, hels, _, _⟩
  · have hc' : v = .slice none 0 0 := by simpa using hc
    subst hc'
    exact ⟨[], ⟨none, 0, rfl, .inl rfl⟩, Nat.zero_le _, Nat.zero_le _, fun l hl => by cases hl⟩
  · have hc' : v = .slice (some a) len cap := by simpa using hc
    subst hc'
    rw [hC] at hels
    have ex : x.1 = .slice (elems.map (·.1)) (rest.map (·.1)) := congrArg Prod.fst hx2
    have hbx : Rows.uptoBulkAll (elems.map (·.1)) + 1 ≤ Rows.uptoBulk x.1 := by rw [ex]; simp only [Rows.uptoBulk]; omega
    have each : ∀ i, i < len → ∃ l : List Cl, (∃ u, w.cell? (a.add (i * 1)) = some u ∧ RowC w u l) ∧ l.length ≤ 1048576 ∧ ∀ d, (elems.map (·.1))[i]? = some d → bulkK l ≤ Rows.uptoBulk d := by
      intro i hi
      have he := hels i hi
      rw [List.getElem?_eq_getElem (show i < elems.length by omega)] at he
      obtain ⟨cs', h1', h2'⟩ := Option.bind_eq_some_iff.1 he
      have hbe : Rows.uptoBulk (elems[i]'(by omega)).1 ≤ Rows.uptoBulkAll (elems.map (·.1)) := bulks.get_le (elems.map (·.1)) i _ (by rw [List.getElem?_map, List.getElem?_eq_getElem (show i < elems.length by omega)]; rfl)
      have hbe2 : Rows.uptoBulk (elems[i]'(by omega)).1 ≤ 1048576 := by omega
      obtain ⟨hn, hl1, hcell⟩ := World.cells?_some h1'
      obtain ⟨u, rfl⟩ : ∃ u, cs' = [u] := by
        match cs', hl1 with
        | [u], _ => exact ⟨u, rfl⟩
      obtain ⟨l, hrl, hbk, hll⟩ := trod_cls base m2 u _ hbe2 h2'
      have q0 := hcell 0 (by omega)
      have e : (a.add (i * 1)).add 0 = a.add (i * 1) := by obtain ⟨b, o, sp⟩ := a; cases sp <;> simp [Addr.add]
      rw [e] at q0
      refine ⟨l, ⟨u, by simpa using q0, hrl⟩, by omega, fun d hd => ?_⟩
      rw [List.getElem?_map, List.getElem?_eq_getElem (show i < elems.length by omega)] at hd
      obtain rfl := Option.some.inj hd
      exact hbk
    obtain ⟨cs, hl, hA⟩ := list_of len each
    have hlen : cs.length = (elems.map (·.1)).length := by rw [List.length_map]; omega
    have hsum := bulks.sum_le bulkK cs (elems.map (·.1)) hlen (fun i y d hy hd => (hA i y hy).2.2 d hd)
    have hll := bulks.len_le (elems.map (·.1))
    refine ⟨cs, ⟨some a, cap, by rw [hl], ?_⟩, by unfold bulkC; omega, by omega, fun l hlm => ?_⟩
    · by_cases h0 : cs = []
      · exact .inl h0
      · right
        have hpos := List.length_pos_iff.2 h0
        obtain ⟨⟨u, hu, -⟩, -⟩ := hA 0 _ (List.getElem?_eq_getElem hpos)
        obtain ⟨b, o, spot⟩ := a
        have hspot : spot = none := by
          have := World.cell?_spot hu
          cases spot with
          | none => rfl
          | some q => simp [Addr.add] at this
        subst hspot
        rw [add_plain] at hu
        refine ⟨b, o, rfl, block_lt_of_cell hu, fun j y hy => ?_⟩
        obtain ⟨⟨u2, hu2, hr2⟩, -⟩ := hA j y hy
        rw [add_plain, Nat.mul_one] at hu2
        exact ⟨u2, hu2, hr2⟩
    · obtain ⟨q, hq, rfl⟩ := List.getElem_of_mem hlm
      exact (hA q _ (List.getElem?_eq_getElem hq)).2.1
set_option maxRecDepth 100000 in
set_option maxHeartbeats 4000000 in
theorem open_script {base b0 : Nat} {r : Reach} {v : Value} {d : DataW H} {p : List MemPlace} (hv : Value.okWide Try.prog w r b0 25 v) (h : DataW.Trod enc Try.prog w base sp held 25 v d p) (hb : Rows.uptoBulk d ≤ 1048576) :
    ∃ (st rm : Int) (cv : Value) (cs : List (List Cl)) (pp tp : Option Addr) (pk tk : Nat) (ps ts : List Int), v = .agg #[.int .i64 st, .int .i64 rm, cv, .slice pp ps.length pk, .slice tp ts.length tk] ∧
      (i64r st ∧ i64r rm) ∧ RowCC w cv cs ∧ RowI w pp ps.length ps ∧ RowI w tp ts.length ts ∧ cs.length ≤ 1048576 ∧ (∀ l ∈ cs, l.length ≤ 1048576) ∧ ps.length + ts.length + bulkC cs ≤ 1048576 ∧ ps.length ≤ pk := by
  have C5 : Try.prog.cellsOf 3 = 1 := by kernel_rfl
  have C6 : Try.prog.cellsOf 23 = 1 := by kernel_rfl
  have C7 : Try.prog.cellsOf 22 = 1 := by kernel_rfl
  have C3 : Try.prog.cellsOf 25 = 5 := by kernel_rfl
  obtain ⟨cs0, rfl, hsz⟩ := okWide_struct Try.underlying25 hv
  obtain ⟨fuel, hf⟩ := h
  obtain ⟨ys, m', rfl, hx1, hlen', hys, hel'⟩ := DataW.trod_struct Try.underlying25 hf
  rw [C3] at hlen'
  simp only [Value.cells] at hlen' hel'
  obtain ⟨c0, c1, c2, c3, c4, hcs⟩ : ∃ c0 c1 c2 c3 c4, cs0.toList = [c0, c1, c2, c3, c4] := by
    match hl : cs0.toList, hlen' with
    | [c0, c1, c2, c3, c4], _ => exact ⟨_, _, _, _, _, rfl⟩
  rw [hcs] at hel'
  obtain ⟨y0, y1, y2, y3, y4, rfl⟩ : ∃ x0 x1 x2 x3 x4, ys = [x0, x1, x2, x3, x4] := by
    have h3 : ys.length = 5 := hys
    match ys, h3 with
    | [a, b, c, d, e], _ => exact ⟨a, b, c, d, e, rfl⟩
  have d0 := hel' 0 _ rfl
  have d1 := hel' 1 _ rfl
  have d2 := hel' 2 _ rfl
  have d3 := hel' 3 _ rfl
  have d4 := hel' 4 _ rfl
  simp only [C5, C6, C7, List.drop_zero, List.take_succ_cons, List.take_zero, List.getElem?_cons_zero, List.drop_succ_cons, List.getElem?_cons_succ] at d0 d1 d2 d3 d4
  have ex : d = .agg ([y0, y1, y2, y3, y4].map (·.1)) := congrArg Prod.fst hx1
  have hbd : Rows.uptoBulk y2.1 + Rows.uptoBulk y3.1 + Rows.uptoBulk y4.1 ≤ Rows.uptoBulk d := by
    rw [ex]
    simp only [List.map_cons, List.map_nil, Rows.uptoBulk, Rows.uptoBulkAll]
    omega
  have hb2 : Rows.uptoBulk y2.1 ≤ 1048576 := by omega
  obtain ⟨st, rfl, w0⟩ := sc_one_int Try.underlying3 d0
  obtain ⟨rm, rfl, w1⟩ := sc_one_int Try.underlying3 d1
  obtain ⟨cs, hcc, hbc, hcl, hll⟩ := trod_clss base m' c2 y2 hb2 d2
  obtain ⟨pp, pn, pk, rfl, hp, hpb, hpk⟩ := trod_nums Try.underlying23 Try.underlying3 (by kernel_rfl) d3
  obtain ⟨tp, tn, tk, rfl, ht, htb, htk⟩ := trod_nums Try.underlying23 Try.underlying3 (by kernel_rfl) d4
  obtain ⟨ps, hps⟩ := RowI.of_isRow hp (by omega)
  obtain ⟨ts, hts⟩ := RowI.of_isRow ht (by omega)
  obtain rfl : ps.length = pn := hps.len
  obtain rfl : ts.length = tn := hts.len
  refine ⟨st, rm, c2, cs, pp, tp, pk, tk, ps, ts, ?_, ⟨w0, w1⟩, hcc, hps, hts, by omega, hll, by omega, hpk⟩
  congr 1
  exact Array.ext' (by simpa using hcs)
end
end Go.Proofs.Ythnpbfboedgmpaa
