/- Put together by program (merge2.py): Sqv Sqw Sqy Squ. -/
import Derived.Lib.SmallJoins
import Derived.JoinedCond
import Derived.Lib.LaidTab
import Derived.Stop.LaidErr
import Derived.Test.YtoejflnlkapkiaaDoorSy12
import Derived.Test.YtoejflnlkapkiaaDoorSy14
import Derived.Test.YtoejflnlkapkiaaDoorSy20
import Derived.Test.YtoejflnlkapkiaaDoorSy22
/- Scripts that come in: a reading is a script in memory. -/
namespace Go.Proofs.YtoejflnlkapkiaaDoor
open Go.ChangeShapes Go.WideShapes Go.ChangeAt Go.RowKit
set_option linter.unusedVariables false
open Go.Joins Go.Deep
set_option linter.unusedSimpArgs false
namespace bulks
theorem one_le {H : Type} (d : DataW H) : 1 ≤ Rows.uptoBulk d := by
  cases d with
  | lit l => cases l <;> simp [Rows.uptoBulk]
  | nil => simp [Rows.uptoBulk]
  | ptr d => simp [Rows.uptoBulk]
  | slice elems spare => simp [Rows.uptoBulk]
  | agg parts => simp [Rows.uptoBulk]
  | iface t d => simp [Rows.uptoBulk]
  | map entries => simp [Rows.uptoBulk]
  | held h => simp [Rows.uptoBulk]
theorem len_le {H : Type} (l : List (DataW H)) : l.length ≤ Rows.uptoBulkAll l := by
  induction l with
  | nil => simp [Rows.uptoBulkAll]
  | cons x r ih => have := one_le x; simp only [Rows.uptoBulkAll, List.length_cons]; omega
theorem bound {H : Type} {l : List (DataW H)} (hk : Rows.uptoSmall H l = true) : Rows.uptoBulkAll l ≤ 1048576 := of_decide_eq_true hk
theorem get_le {H : Type} : ∀ (l : List (DataW H)) (i : Nat) (d : DataW H), l[i]? = some d → Rows.uptoBulk d ≤ Rows.uptoBulkAll l
  | x :: l, 0, d, h => by
    have e : x = d := by simpa using h
    subst e; simp only [Rows.uptoBulkAll]; omega
  | x :: l, i + 1, d, h => by
    have := get_le l i d (by simpa using h)
    simp only [Rows.uptoBulkAll]; omega
theorem sum_le {H α : Type} (f : α → Nat) : ∀ (l : List α) (ds : List (DataW H)), l.length = ds.length → (∀ (i : Nat) y d, l[i]? = some y → ds[i]? = some d → f y ≤ Rows.uptoBulk d) → (l.map f).sum ≤ Rows.uptoBulkAll ds
  | [], _, _, _ => Nat.zero_le _
  | y :: l, [], h, _ => by simp at h
  | y :: l, d :: ds, h, g => by
    have h1 := g 0 y d rfl rfl
    have h2 := sum_le f l ds (by simpa using h) (fun i y d hy hd => g (i + 1) y d (by simpa using hy) (by simpa using hd))
    rw [List.map_cons, List.sum_cons]
    simp only [Rows.uptoBulkAll]
    omega
end bulks
theorem list_of {α : Type} {P : Nat → α → Prop} : ∀ n, (∀ i, i < n → ∃ y, P i y) → ∃ l : List α, l.length = n ∧ ∀ (i : Nat) y, l[i]? = some y → P i y
  | 0, _ => ⟨[], rfl, fun i y h => by simp at h⟩
  | n + 1, h => by
    obtain ⟨l, hl, hA⟩ := list_of (P := P) n (fun i hi => h i (by omega))
    obtain ⟨y, hy⟩ := h n (by omega)
    refine ⟨l ++ [y], by simp [hl], fun i z hz => ?_⟩
    rcases Nat.lt_or_ge i n with h | h
    · rw [List.getElem?_append_left (by omega)] at hz
      exact hA i z hz
    · rw [List.getElem?_append_right (by omega)] at hz
      have hi : i = n := by
        have := (List.getElem?_eq_some_iff.1 hz).1
        simp at this; omega
      subst hi
      rw [hl, Nat.sub_self] at hz
      simp at hz; subst hz
      exact hy
section
variable {H : Type} {enc : TypeId × Value → H} {w : World} {sp : Nat → Bool} {held : Bool}
theorem trod_nums {k : IntKind} {t e : TypeId} {base fuel : Nat} {c : Value} {x : DataW H × List MemPlace} (ht : Tryd.prog.underlying t = some (.slice e)) (he : Tryd.prog.underlying e = some (.int k)) (hC : Tryd.prog.cellsOf e = 1) (h : DataW.trod enc Tryd.prog w base sp held fuel t [c] = some x) :
    ∃ p n q, c = .slice p n q ∧ IsRow k w p n q ∧ n ≤ Rows.uptoBulk x.1 := by
  rcases DataW.trod_slice ht h with ⟨hc, hx⟩ | ⟨a, len, cap, elems, rest, m, _, hc, hx, _, _, _, hle, _⟩
  · have hc' : c = .slice none 0 0 := by simpa using hc
    subst hc'
    obtain ⟨yd, yp⟩ := x
    exact ⟨_, _, _, rfl, isRow_of (d := yd) (p := yp) ht he hC ⟨_, h⟩, Nat.zero_le _⟩
  · have hc' : c = .slice (some a) len cap := by simpa using hc
    subst hc'
    obtain ⟨yd, yp⟩ := x
    refine ⟨_, _, _, rfl, isRow_of (d := yd) (p := yp) ht he hC ⟨_, h⟩, ?_⟩
    have e : yd = .slice (elems.map (·.1)) (rest.map (·.1)) := congrArg Prod.fst hx
    have h1 := bulks.len_le (elems.map (·.1))
    rw [List.length_map] at h1
    show len ≤ Rows.uptoBulk yd
    rw [e]
    simp only [Rows.uptoBulk]
    omega
set_option maxRecDepth 100000 in
set_option maxHeartbeats 4000000 in
theorem trod_cl (base fuel : Nat) (cs : List Value) (x : DataW H × List MemPlace) (hb : Rows.uptoBulk x.1 ≤ 1048576) (h : DataW.trod enc Tryd.prog w base sp held fuel 49 cs = some x) :
    ∃ (c : Cl) (xv : Value), cs = clCells c xv ∧ c.ok ∧ RowX w xv c.xs ∧ 1 + c.s.size + c.xs.length ≤ Rows.uptoBulk x.1 := by
  have C2 : Tryd.prog.cellsOf 46 = 2 := by kernel_rfl
  have C3 : Tryd.prog.cellsOf 49 = 7 := by kernel_rfl
  have C5 : Tryd.prog.cellsOf 3 = 1 := by kernel_rfl
  have C6 : Tryd.prog.cellsOf 44 = 2 := by kernel_rfl
  have C7 : Tryd.prog.cellsOf 9 = 1 := by kernel_rfl
  have C8 : Tryd.prog.cellsOf 47 = 1 := by kernel_rfl
  obtain ⟨ys, m', rfl, hx1, hlen', hys, hel'⟩ := DataW.trod_struct Tryd.underlying49 h
  rw [C3] at hlen'
  obtain ⟨c0, c1, c2, c3, c4, c5, c6, rfl⟩ : ∃ c0 c1 c2 c3 c4 c5 c6, cs = [c0, c1, c2, c3, c4, c5, c6] := by
    match cs, hlen' with
    | [c0, c1, c2, c3, c4, c5, c6], _ => exact ⟨_, _, _, _, _, _, _, rfl⟩
  obtain ⟨y0, y1, y2, y3, y4, rfl⟩ : ∃ x0 x1 x2 x3 x4, ys = [x0, x1, x2, x3, x4] := by
    have h3 : ys.length = 5 := hys
    match ys, h3 with
    | [a, b, c, d, e], _ => exact ⟨a, b, c, d, e, rfl⟩
  have d0 := hel' 0 _ rfl
  have d1 := hel' 1 _ rfl
  have d2 := hel' 2 _ rfl
  have d3 := hel' 3 _ rfl
  have d4 := hel' 4 _ rfl
  simp only [C2, C5, C6, C7, C8, List.drop_zero, List.take_succ_cons, List.take_zero, List.getElem?_cons_zero, List.drop_succ_cons, List.getElem?_cons_succ] at d0 d1 d2 d3 d4
  obtain ⟨n2, rfl, w2⟩ := sc_one_int Tryd.underlying3 d0
  obtain ⟨n3, n4, rfl, w3, rfl, w4⟩ := sc_two_int Tryd.underlying44 rfl rfl rfl rfl C5 d1
  obtain ⟨s5, hs5, hy2, -⟩ := DataW.trod_string Tryd.underlying9 d2
  have e5 : List.take (Tryd.prog.cellsOf 9) [c3, c4, c5, c6] = [c3] := by rw [C7]; rfl
  have hs5' : c3 = .string s5 := by
    have h5 : [c3] = [Value.string s5] := e5.symm.trans hs5
    simpa using h5
  subst hs5'
  obtain ⟨n6, n7, rfl, w6, rfl, w7⟩ := sc_two_int Tryd.underlying46 rfl rfl rfl rfl C5 d3
  obtain ⟨p8, l8, k8, rfl, hrow, hbl⟩ := trod_nums Tryd.underlying47 Tryd.underlying78 (by kernel_rfl) d4
  have ex : x.1 = .agg ([y0, y1, y2, y3, y4].map (·.1)) := congrArg Prod.fst hx1
  have hyb : Rows.uptoBulk y2.1 = s5.size + 1 := by
    rw [hy2]
    simp only [Rows.uptoBulk]
    rfl
  have hbx : s5.size + 1 + l8 + 1 ≤ Rows.uptoBulk x.1 := by
    rw [ex]
    simp only [List.map_cons, List.map_nil, Rows.uptoBulk, Rows.uptoBulkAll]
    omega
  obtain ⟨xs, hxs⟩ := Row.of_isRow hrow (by omega)
  obtain rfl : xs.length = l8 := hxs.len
  exact ⟨⟨n2, n3, n4, s5, n6, n7, xs⟩, _, rfl, ⟨w2, w3, w4, w6, w7⟩, ⟨_, _, rfl, hxs⟩, by show 1 + s5.size + xs.length ≤ _; omega⟩
set_option maxRecDepth 100000 in
set_option maxHeartbeats 4000000 in
theorem trod_cls (base fuel : Nat) (v : Value) (x : DataW H × List MemPlace) (hb : Rows.uptoBulk x.1 ≤ 1048576) (h : DataW.trod enc Tryd.prog w base sp held fuel 55 [v] = some x) :
    ∃ l : List Cl, RowC w v l ∧ bulkK l ≤ Rows.uptoBulk x.1 ∧ l.length ≤ Rows.uptoBulk x.1 := by
  have hC : Tryd.prog.cellsOf 49 = 7 := by kernel_rfl
  rcases DataW.trod_slice Tryd.underlying55 h with ⟨hc, hx2⟩ | ⟨a, len, cap, elems, rest, m2, hm2, hc, hx2, hbs, hlc, hcm, hle, hels, _, _⟩
  · have hc' : v = .slice none 0 0 := by simpa using hc
    subst hc'
    exact ⟨[], ⟨none, 0, rfl, .inl rfl⟩, Nat.zero_le _, Nat.zero_le _⟩
  · have hc' : v = .slice (some a) len cap := by simpa using hc
    subst hc'
    rw [hC] at hels
    have ex : x.1 = .slice (elems.map (·.1)) (rest.map (·.1)) := congrArg Prod.fst hx2
    have hbx : Rows.uptoBulkAll (elems.map (·.1)) + 1 ≤ Rows.uptoBulk x.1 := by rw [ex]; simp only [Rows.uptoBulk]; omega
    have each : ∀ i, i < len → ∃ c : Cl, (∃ u, w.cell? (a.add (i * 7)) = some u) ∧ (∀ b o, a = ⟨b, o, none⟩ → ClAt w b (o + i * 7) c) ∧ ∀ d, (elems.map (·.1))[i]? = some d → 1 + c.s.size + c.xs.length ≤ Rows.uptoBulk d := by
      intro i hi
      have he := hels i hi
      rw [List.getElem?_eq_getElem (show i < elems.length by omega)] at he
      obtain ⟨cs', h1', h2'⟩ := Option.bind_eq_some_iff.1 he
      have hbe : Rows.uptoBulk (elems[i]'(by omega)).1 ≤ Rows.uptoBulkAll (elems.map (·.1)) := bulks.get_le (elems.map (·.1)) i _ (by rw [List.getElem?_map, List.getElem?_eq_getElem (show i < elems.length by omega)]; rfl)
      have hbe2 : Rows.uptoBulk (elems[i]'(by omega)).1 ≤ 1048576 := by omega
      obtain ⟨c, xv, rfl, hok, hxv, hbc⟩ := trod_cl base m2 cs' _ hbe2 h2'
      obtain ⟨_, _, hcell⟩ := World.cells?_some h1'
      have q0 := hcell 0 (by omega)
      have e : (a.add (i * 7)).add 0 = a.add (i * 7) := by obtain ⟨b, o, sp⟩ := a; cases sp <;> simp [Addr.add]
      rw [e] at q0
      refine ⟨c, ⟨_, q0⟩, ?_, fun d hd => ?_⟩
      · rintro b o rfl
        have q1 := hcell 1 (by omega)
        have q2 := hcell 2 (by omega)
        have q3 := hcell 3 (by omega)
        have q4 := hcell 4 (by omega)
        have q5 := hcell 5 (by omega)
        have q6 := hcell 6 (by omega)
        rw [add_plain, add_plain] at q1 q2 q3 q4 q5 q6
        rw [add_plain] at q0
        exact ⟨hok, by simpa [clCells] using q0, by simpa [clCells] using q1, by simpa [clCells] using q2, by simpa [clCells] using q3, by simpa [clCells] using q4, by simpa [clCells] using q5, xv, by simpa [clCells] using q6, hxv⟩
      · rw [List.getElem?_map, List.getElem?_eq_getElem (show i < elems.length by omega)] at hd
        obtain rfl := Option.some.inj hd
        exact hbc
    obtain ⟨l, hl, hA⟩ := list_of len each
    have hlen : l.length = (elems.map (·.1)).length := by rw [List.length_map]; omega
    have hsum := bulks.sum_le (fun c : Cl => 1 + c.s.size + c.xs.length) l (elems.map (·.1)) hlen (fun i y d hy hd => (hA i y hy).2.2 d hd)
    have hll := bulks.len_le (elems.map (·.1))
    refine ⟨l, ⟨some a, cap, by rw [hl], ?_⟩, by unfold bulkK; omega, by omega⟩
    by_cases h0 : l = []
    · exact .inl h0
    · right
      have hpos := List.length_pos_iff.2 h0
      obtain ⟨⟨u, hu⟩, -, -⟩ := hA 0 _ (List.getElem?_eq_getElem hpos)
      obtain ⟨b, o, spot⟩ := a
      have hspot : spot = none := by
        have := World.cell?_spot hu
        cases spot with
        | none => rfl
        | some q => simp [Addr.add] at this
      subst hspot
      rw [add_plain] at hu
      exact ⟨b, o, rfl, block_lt_of_cell hu, fun j y hy => (hA j y hy).2.1 b o rfl⟩
set_option maxRecDepth 100000 in
set_option maxHeartbeats 4000000 in
theorem trod_clss (base fuel : Nat) (v : Value) (x : DataW H × List MemPlace) (hb : Rows.uptoBulk x.1 ≤ 1048576) (h : DataW.trod enc Tryd.prog w base sp held fuel 22 [v] = some x) :
    ∃ cs : List (List Cl), RowCC w v cs ∧ bulkC cs ≤ Rows.uptoBulk x.1 ∧ cs.length ≤ Rows.uptoBulk x.1 ∧ ∀ l ∈ cs, l.length ≤ 1048576 := by
  have hC : Tryd.prog.cellsOf 55 = 1 := by kernel_rfl
  rcases DataW.trod_slice Tryd.underlying22 h with ⟨hc, hx2⟩ | ⟨a, len, cap, elems, rest, m2, hm2, hc, hx2, hbs, hlc, hcm, hle, hels, _, _⟩
  · have hc' : v = .slice none 0 0 := by simpa using hc
    subst hc'
    exact ⟨[], ⟨none, 0, rfl, .inl rfl⟩, Nat.zero_le _, Nat.zero_le _, fun l hl => by cases hl⟩
  · have hc' : v = .slice (some a) len cap := by simpa using hc
    subst hc'
    rw [hC] at hels
    have ex : x.1 = .slice (elems.map (·.1)) (rest.map (·.1)) := congrArg Prod.fst hx2
    have hbx : Rows.uptoBulkAll (elems.map (·.1)) + 1 ≤ Rows.uptoBulk x.1 := by rw [ex]; simp only [Rows.uptoBulk]; omega
    have each : ∀ i, i < len → ∃ l : List Cl, (∃ u, w.cell? (a.add (i * 1)) = some u ∧ RowC w u l) ∧ l.length ≤ 1048576 ∧ ∀ d, (elems.map (·.1))[i]? = some d → bulkK l ≤ Rows.uptoBulk d := by
      intro i hi
      have he := hels i hi
      rw [List.getElem?_eq_getElem (show i < elems.length by omega)] at he
      obtain ⟨cs', h1', h2'⟩ := Option.bind_eq_some_iff.1 he
      have hbe : Rows.uptoBulk (elems[i]'(by omega)).1 ≤ Rows.uptoBulkAll (elems.map (·.1)) := bulks.get_le (elems.map (·.1)) i _ (by rw [List.getElem?_map, List.getElem?_eq_getElem (show i < elems.length by omega)]; rfl)
      have hbe2 : Rows.uptoBulk (elems[i]'(by omega)).1 ≤ 1048576 := by omega
      obtain ⟨hn, hl1, hcell⟩ := World.cells?_some h1'
      obtain ⟨u, rfl⟩ : ∃ u, cs' = [u] := by
        match cs', hl1 with
        | [u], _ => exact ⟨u, rfl⟩
      obtain ⟨l, hrl, hbk, hll⟩ := trod_cls base m2 u _ hbe2 h2'
      have q0 := hcell 0 (by omega)
      have e : (a.add (i * 1)).add 0 = a.add (i * 1) := by obtain ⟨b, o, sp⟩ := a; cases sp <;> simp [Addr.add]
      rw [e] at q0
      refine ⟨l, ⟨u, by simpa using q0, hrl⟩, by omega, fun d hd => ?_⟩
      rw [List.getElem?_map, List.getElem?_eq_getElem (show i < elems.length by omega)] at hd
      obtain rfl := Option.some.inj hd
      exact hbk
    obtain ⟨cs, hl, hA⟩ := list_of len each
    have hlen : cs.length = (elems.map (·.1)).length := by rw [List.length_map]; omega
    have hsum := bulks.sum_le bulkK cs (elems.map (·.1)) hlen (fun i y d hy hd => (hA i y hy).2.2 d hd)
    have hll := bulks.len_le (elems.map (·.1))
    refine ⟨cs, ⟨some a, cap, by rw [hl], ?_⟩, by unfold bulkC; omega, by omega, fun l hlm => ?_⟩
    · by_cases h0 : cs = []
      · exact .inl h0
      · right
        have hpos := List.length_pos_iff.2 h0
        obtain ⟨⟨u, hu, -⟩, -⟩ := hA 0 _ (List.getElem?_eq_getElem hpos)
        obtain ⟨b, o, spot⟩ := a
        have hspot : spot = none := by
          have := World.cell?_spot hu
          cases spot with
          | none => rfl
          | some q => simp [Addr.add] at this
        subst hspot
        rw [add_plain] at hu
        refine ⟨b, o, rfl, block_lt_of_cell hu, fun j y hy => ?_⟩
        obtain ⟨⟨u2, hu2, hr2⟩, -⟩ := hA j y hy
        rw [add_plain, Nat.mul_one] at hu2
        exact ⟨u2, hu2, hr2⟩
    · obtain ⟨q, hq, rfl⟩ := List.getElem_of_mem hlm
      exact (hA q _ (List.getElem?_eq_getElem hq)).2.1
set_option maxRecDepth 100000 in
set_option maxHeartbeats 4000000 in
theorem open_script {base b0 : Nat} {r : Reach} {v : Value} {d : DataW H} {p : List MemPlace} (hv : Value.okWide Tryd.prog w r b0 25 v) (h : DataW.Trod enc Tryd.prog w base sp held 25 v d p) (hb : Rows.uptoBulk d ≤ 1048576) :
    ∃ (st rm : Int) (cv : Value) (cs : List (List Cl)) (pp tp : Option Addr) (pk tk : Nat) (ps ts : List Int), v = .agg #[.int .i64 st, .int .i64 rm, cv, .slice pp ps.length pk, .slice tp ts.length tk] ∧
      (i64r st ∧ i64r rm) ∧ RowCC w cv cs ∧ RowI w pp ps.length ps ∧ RowI w tp ts.length ts ∧ cs.length ≤ 1048576 ∧ (∀ l ∈ cs, l.length ≤ 1048576) ∧ ps.length + ts.length + bulkC cs ≤ 1048576 := by
  have C5 : Tryd.prog.cellsOf 3 = 1 := by kernel_rfl
  have C6 : Tryd.prog.cellsOf 23 = 1 := by kernel_rfl
  have C7 : Tryd.prog.cellsOf 22 = 1 := by kernel_rfl
  have C3 : Tryd.prog.cellsOf 25 = 5 := by kernel_rfl
  obtain ⟨cs0, rfl, hsz⟩ := okWide_struct Tryd.underlying25 hv
  obtain ⟨fuel, hf⟩ := h
  obtain ⟨ys, m', rfl, hx1, hlen', hys, hel'⟩ := DataW.trod_struct Tryd.underlying25 hf
  rw [C3] at hlen'
  simp only [Value.cells] at hlen' hel'
  obtain ⟨c0, c1, c2, c3, c4, hcs⟩ : ∃ c0 c1 c2 c3 c4, cs0.toList = [c0, c1, c2, c3, c4] := by
    match hl : cs0.toList, hlen' with
    | [c0, c1, c2, c3, c4], _ => exact ⟨_, _, _, _, _, rfl⟩
  rw [hcs] at hel'
  obtain ⟨y0, y1, y2, y3, y4, rfl⟩ : ∃ x0 x1 x2 x3 x4, ys = [x0, x1, x2, x3, x4] := by
    have h3 : ys.length = 5 := hys
    match ys, h3 with
    | [a, b, c, d, e], _ => exact ⟨a, b, c, d, e, rfl⟩
  have d0 := hel' 0 _ rfl
  have d1 := hel' 1 _ rfl
  have d2 := hel' 2 _ rfl
  have d3 := hel' 3 _ rfl
  have d4 := hel' 4 _ rfl
  simp only [C5, C6, C7, List.drop_zero, List.take_succ_cons, List.take_zero, List.getElem?_cons_zero, List.drop_succ_cons, List.getElem?_cons_succ] at d0 d1 d2 d3 d4
  have ex : d = .agg ([y0, y1, y2, y3, y4].map (·.1)) := congrArg Prod.fst hx1
  have hbd : Rows.uptoBulk y2.1 + Rows.uptoBulk y3.1 + Rows.uptoBulk y4.1 ≤ Rows.uptoBulk d := by
    rw [ex]
    simp only [List.map_cons, List.map_nil, Rows.uptoBulk, Rows.uptoBulkAll]
    omega
  have hb2 : Rows.uptoBulk y2.1 ≤ 1048576 := by omega
  obtain ⟨st, rfl, w0⟩ := sc_one_int Tryd.underlying3 d0
  obtain ⟨rm, rfl, w1⟩ := sc_one_int Tryd.underlying3 d1
  obtain ⟨cs, hcc, hbc, hcl, hll⟩ := trod_clss base m' c2 y2 hb2 d2
  obtain ⟨pp, pn, pk, rfl, hp, hpb⟩ := trod_nums Tryd.underlying23 Tryd.underlying3 (by kernel_rfl) d3
  obtain ⟨tp, tn, tk, rfl, ht, htb⟩ := trod_nums Tryd.underlying23 Tryd.underlying3 (by kernel_rfl) d4
  obtain ⟨ps, hps⟩ := RowI.of_isRow hp (by omega)
  obtain ⟨ts, hts⟩ := RowI.of_isRow ht (by omega)
  obtain rfl : ps.length = pn := hps.len
  obtain rfl : ts.length = tn := hts.len
  refine ⟨st, rm, c2, cs, pp, tp, pk, tk, ps, ts, ?_, ⟨w0, w1⟩, hcc, hps, hts, by omega, hll, by omega⟩
  congr 1
  exact Array.ext' (by simpa using hcs)
end
end Go.Proofs.YtoejflnlkapkiaaDoor
/- Scripts: the variables of errors, as they are laid. -/
namespace Go.Proofs.YtoejflnlkapkiaaDoor
open Go.ChangeShapes Go.WideShapes Go.ChangeAt Go.RowKit
set_option linter.unusedVariables false
set_option linter.unusedSimpArgs false
theorem sw_pow10_data : (Rows.laid_internal_strconv_uint64pow10 : DataW Unit) = Lib.tabData .u64 Lib.pow10Tab := by kernel_rfl
theorem sw_pow10_head {W : World} {l : List (String × DataW Unit)} (hL : laidMet Tryd.prog (("internal/strconv.uint64pow10", Rows.laid_internal_strconv_uint64pow10) :: l) W) : Lib.TabIs Tryd.prog W "internal/strconv.uint64pow10" .u64 Lib.pow10Tab := by
  rw [sw_pow10_data] at hL
  exact Lib.tabIs_of_head (g := 0) (t := 127) (e := 78) (n := 20) (by kernel_rfl) (by kernel_rfl) Tryd.underlying127 Tryd.underlying78 (by kernel_rfl) (by kernel_rfl) hL
theorem sw_star : "*" ++ "errors.errorString" = "*errors.errorString" := by decide
theorem sw_row (u : TypeId) (h : Tryd.prog.typeName? 3 u = some "*errors.errorString") : u = 152 :=
  typeName_ptr_named (nm := "errors.errorString") (by rw [sw_star]; kernel_rfl) (by kernel_rfl) (by decide) u (by rw [sw_star]; exact h)
theorem sw_ev {W : World} {n : String} {text : List UInt8} {l : List (String × DataW Unit)} {g : Nat} (hL : laidMet Tryd.prog ((n, .iface "*errors.errorString" (.ptr (.agg [.lit (.string text)]))) :: l) W) (hg : Tryd.prog.globalNamed n = some g) (ht : (Tryd.prog.globals[g]?).map (·.type) = some 81) : EvAt W g := by
  obtain ⟨a, s, hv, -, -, -⟩ := laid_sentinel hL hg ht Tryd.underlying81 sw_row Tryd.underlying152 Tryd.underlying154 rfl rfl Tryd.underlying9 (by kernel_rfl) (by kernel_rfl)
  have h := World.var?_cell hg hv 0
  exact ⟨_, h.trans rfl, .inr ⟨_, _, rfl⟩⟩
end Go.Proofs.YtoejflnlkapkiaaDoor
/- Scripts: a text that was read is its script's text. -/
namespace Go.Proofs.YtoejflnlkapkiaaDoor
open Go.ChangeShapes Go.WideShapes Go.ChangeAt Go.RowKit
set_option linter.unusedVariables false
set_option linter.unusedSimpArgs false
theorem tail_join (x : List UInt8) (r : List (List UInt8)) : Lib.joinTail [32] (x :: r) = 32 :: Lib.join (x :: r) [32] := by
  rw [Lib.join_cons]; simp [Lib.joinTail]
theorem splA_ne : ∀ (l cur : List UInt8), splA cur l ≠ []
  | [], cur => by simp [splA]
  | b :: l, cur => by
    unfold splA
    split
    · simp
    · exact splA_ne l _
theorem join_splA : ∀ (l cur : List UInt8), Lib.join (splA cur l) [32] = cur ++ l
  | [], cur => by simp [splA, Lib.join_one]
  | b :: l, cur => by
    unfold splA
    split
    · rename_i hb
      subst hb
      rw [Lib.join_cons]
      have ih := join_splA l []
      cases hs : splA [] l with
      | nil => exact absurd hs (splA_ne l [])
      | cons x r =>
        rw [hs] at ih
        rw [tail_join, ih]; simp
    · rw [join_splA l _]; simp
theorem wds_back {l : List UInt8} {ws : List (List UInt8)} (h : wds l = some ws) (hne : ws ≠ []) : Lib.join ws [32] = l ∧ ∀ w ∈ ws, w ≠ [] := by
  unfold wds at h
  split at h
  · exact absurd (Option.some.inj h).symm hne
  · split at h
    · rename_i hc
      obtain rfl := Option.some.inj h
      refine ⟨by rw [join_splA]; rfl, fun w hw => ?_⟩
      rw [Bool.and_eq_true] at hc
      have := List.all_eq_true.1 hc.2 w hw
      exact of_decide_eq_true this
    · cases h
theorem lineN_back {t : ByteArray} {a a' : Nat} {ws : List (List UInt8)} (h : lineN t a = some (ws, a')) : t.data.toList.take a' = t.data.toList.take a ++ lineW ws ∧ a < a' ∧ a' ≤ t.size ∧ ws ≠ [] ∧ ∀ w ∈ ws, w ≠ [] := by
  classical
  by_cases hf : ∃ i, Fst t (a : Int) i
  · obtain ⟨i, hf⟩ := hf
    rw [lineN_of hf] at h
    split at h
    · rename_i w r hw
      simp only [Option.some.injEq, Prod.mk.injEq] at h
      obtain ⟨rfl, rfl⟩ := h
      obtain ⟨hj, hn⟩ := wds_back hw (by simp)
      have hai : a ≤ i := by have := hf.2.1; omega
      have hil := hf.2.2.1
      refine ⟨?_, by omega, hil, by simp, hn⟩
      have hx : (t.extract a i).data.toList = (t.data.toList.drop a).take (i - a) := by
        rw [ByteArray.data_extract, Array.toList_extract]
        (try simp [List.extract_eq_take_drop])
      have h10 : t.data.toList[i]? = some 10 := by
        obtain ⟨h1, h2⟩ := bt_list t i hil
        rw [h1]
        have h3 := hf.2.2.2.1
        rw [h2] at h3
        exact congrArg some (UInt8.toNat_inj.1 h3)
      have e1 : t.data.toList.take (i + 1) = t.data.toList.take i ++ [10] := by rw [List.take_add_one, h10]; rfl
      have e2 : t.data.toList.take i = t.data.toList.take a ++ (t.data.toList.drop a).take (i - a) := by
        conv => lhs; rw [show i = a + (i - a) from by omega]
        rw [List.take_add]
      unfold lineW
      rw [hj, hx, e1, e2, List.append_assoc]
    · cases h
  · unfold lineN at h
    rw [dif_neg hf] at h
    cases h
/-- The text so far. -/
def txS : Nat → Sc → List UInt8
  | 0, _ => []
  | 1, s => lineB (wsL plW [s.st, s.rm])
  | 2, s => lineB (wsL plW [s.st, s.rm]) ++ lineB (wsL piW s.ps)
  | _ + 3, s => scT s.st s.rm s.ps s.ts s.cs
/-- A call that was read. -/
structure CallG (N : Nat) (c : Cl) : Prop where
  good : GoodL c
  own : ownC c = c
  sz : 2 * c.s.size ≤ N
  xs : c.xs.length ≤ N
theorem cliT_snoc {cs : List (List Cl)} (hne : cs ≠ []) (c : Cl) : ((addC cs c).map cliT).flatten = (cs.map cliT).flatten ++ lineB (wsC c) := by
  obtain ⟨C, l, rfl⟩ : ∃ C l, cs = C ++ [l] := ⟨cs.dropLast, cs.getLast hne, (List.dropLast_concat_getLast hne).symm⟩
  rw [addC_last]
  simp only [List.map_append, List.map_cons, List.map_nil, List.flatten_append, List.flatten_cons, List.flatten_nil, List.append_nil, List.append_assoc]
  have e : cliT (l ++ [c]) = cliT l ++ lineB (wsC c) := by
    unfold cliT callsT
    rw [List.map_append, List.flatten_append]
    simp
  rw [e]
theorem back_lineB {ws : List ByteArray} {xs : List (List UInt8)} (h : wsB ws = xs) : lineW xs = lineB ws := by rw [← h]; rfl
theorem add_back {n N : Nat} {s s' : Sc} {ws : List (List UInt8)} (hw : ∀ w ∈ ws, w ≠ []) (hN : ∀ w ∈ ws, w.length ≤ N) (hl : ws.length ≤ N) (h0 : n < 3 → s.cs = []) (hc : ∀ l ∈ s.cs, ∀ c ∈ l, CallG N c) (hI : (∀ x ∈ s.ps, i64r x) ∧ (∀ x ∈ s.ts, i64r x) ∧ i64r s.st ∧ i64r s.rm)
    (h : addN s (n + 1) ws = some s') : txS (n + 1) s' = txS n s ++ lineW ws ∧ (n + 1 < 3 → s'.cs = []) ∧ (∀ l ∈ s'.cs, ∀ c ∈ l, CallG N c) ∧ ((∀ x ∈ s'.ps, i64r x) ∧ (∀ x ∈ s'.ts, i64r x) ∧ i64r s'.st ∧ i64r s'.rm) := by
  unfold addN at h
  split at h
  · cases h
  · rename_i f r
    split at h
    · rename_i hn
      obtain rfl : n = 0 := by omega
      split at h
      · rename_i u v hv
        split at h
        · rename_i hf
          obtain rfl := Option.some.inj h
          have hb := (numsW_back hv).2
          refine ⟨?_, fun _ => h0 (by omega), hc, hI.1, hI.2.1, hb u (by simp), hb v (by simp)⟩
          show lineB (wsL plW [u, v]) = [] ++ lineW (f :: r)
          rw [List.nil_append]
          exact (back_lineB (by rw [hf]; exact wsL_back hv)).symm
        · cases h
      · cases h
    · split at h
      · rename_i hn
        obtain rfl : n = 1 := by omega
        split at h
        · rename_i vs hv
          split at h
          · rename_i hf
            obtain rfl := Option.some.inj h
            refine ⟨?_, fun _ => h0 (by omega), hc, (numsW_back hv).2, hI.2.1, hI.2.2.1, hI.2.2.2⟩
            show lineB (wsL plW [s.st, s.rm]) ++ lineB (wsL piW vs) = lineB (wsL plW [s.st, s.rm]) ++ lineW (f :: r)
            rw [back_lineB (ws := wsL piW vs) (by rw [hf]; exact wsL_back hv)]
          · cases h
        · cases h
      · split at h
        · rename_i hn
          obtain rfl : n = 2 := by omega
          split at h
          · rename_i vs hv
            split at h
            · rename_i hf
              obtain rfl := Option.some.inj h
              refine ⟨?_, fun h => absurd h (by omega), hc, hI.1, (numsW_back hv).2, hI.2.2.1, hI.2.2.2⟩
              have hcs := h0 (by omega)
              show scT s.st s.rm s.ps vs s.cs = (lineB (wsL plW [s.st, s.rm]) ++ lineB (wsL piW s.ps)) ++ lineW (f :: r)
              rw [hcs, back_lineB (ws := wsL tiW vs) (by rw [hf]; exact wsL_back hv)]
              unfold scT headT
              simp only [List.map_nil, List.flatten_nil, List.append_nil]
              rfl
            · cases h
          · cases h
        · rename_i hn1 hn2 hn3
          obtain ⟨m, rfl⟩ : ∃ m, n = m + 3 := ⟨n - 3, by omega⟩
          split at h
          · rename_i hf
            split at h
            · rename_i hr
              obtain rfl := Option.some.inj h
              refine ⟨?_, fun h => absurd h (by omega), fun l hl c hcl => ?_, hI⟩
              · show scT s.st s.rm s.ps s.ts (s.cs ++ [[]]) = scT s.st s.rm s.ps s.ts s.cs ++ lineW (f :: r)
                rw [hf, hr]
                unfold scT
                rw [List.map_append, List.flatten_append, List.append_assoc]
                rfl
              · rcases List.mem_append.1 hl with hl | hl
                · exact hc l hl c hcl
                · simp at hl; subst hl; cases hcl
            · cases h
          · split at h
            · rename_i c hcall
              split at h
              · cases h
              · rename_i hne
                obtain rfl := Option.some.inj h
                have hg := callN_good hcall
                have hG : CallG N c := by
                  refine ⟨⟨hg.ok, hg.lo, hg.hi, fun x hx => ?_⟩, hg.own, ?_, ?_⟩
                  · have := hg.wf x hx
                    simp [Lit.wf, IntKind.min, IntKind.max, IntKind.signed, IntKind.bits] at this
                    omega
                  · rcases hg.txt with h | ⟨x, hx, h⟩
                    · rw [h]; exact Nat.zero_le _
                    · rw [h]; exact hN x (List.mem_cons_of_mem _ hx)
                  · have := hg.xs; simp only [List.length_cons] at hl; omega
                refine ⟨?_, fun h => absurd h (by omega), fun l hl c' hcl => ?_, hI⟩
                · show scT s.st s.rm s.ps s.ts (addC s.cs c) = scT s.st s.rm s.ps s.ts s.cs ++ lineW (f :: r)
                  have hb := hg.back (fun x hx => hw x (List.mem_cons_of_mem _ hx))
                  rw [back_lineB (ws := wsC c) hb]
                  unfold scT
                  rw [cliT_snoc hne, List.append_assoc]
                · have hl' : l ∈ s.cs.set (s.cs.length - 1) (s.cs.getD (s.cs.length - 1) [] ++ [c]) := hl
                  rcases List.mem_or_eq_of_mem_set hl' with hl2 | rfl
                  · exact hc l hl2 c' hcl
                  · rcases List.mem_append.1 hcl with h | h
                    · rw [List.getD_eq_getElem?_getD] at h
                      cases he : s.cs[s.cs.length - 1]? with
                      | none => rw [he] at h; simp at h
                      | some l2 => rw [he] at h; exact hc l2 (List.mem_of_getElem? he) c' h
                    · simp at h; subst h; exact hG
            · cases h
/-- What was read is the script of just that text. -/
theorem prs_back {t : ByteArray} : ∀ (k n a : Nat) (s s' : Sc), prsN t k n a s = .ok s' → t.data.toList.take a = txS n s → (n < 3 → s.cs = []) → (∀ l ∈ s.cs, ∀ c ∈ l, CallG (t.size + 1) c) → ((∀ x ∈ s.ps, i64r x) ∧ (∀ x ∈ s.ts, i64r x) ∧ i64r s.st ∧ i64r s.rm) →
    t.data.toList = scT s'.st s'.rm s'.ps s'.ts s'.cs ∧ (∀ l ∈ s'.cs, ∀ c ∈ l, CallG (t.size + 1) c) ∧ ((∀ x ∈ s'.ps, i64r x) ∧ (∀ x ∈ s'.ts, i64r x) ∧ i64r s'.st ∧ i64r s'.rm)
  | 0, n, a, s, s', h, _, _, _, _ => by simp [prsN] at h
  | k + 1, n, a, s, s', h, hT, h0, hc, hI => by
    rw [prsN] at h
    split at h
    · rename_i he
      have e : s = s' := by injection h
      subst e
      obtain ⟨m, rfl⟩ : ∃ m, n = m + 3 := ⟨n - 3, by omega⟩
      rw [he.1] at hT
      have hsz : t.data.toList.length = t.size := rfl
      rw [List.take_of_length_le (by omega)] at hT
      exact ⟨hT, hc, hI⟩
    · split at h
      · cases h
      · rename_i ws a' hln
        split at h
        · cases h
        · rename_i s1 hadd
          obtain ⟨g1, g2, g3, g4, g5⟩ := lineN_back hln
          have hlw : (lineW ws).length ≤ t.size := by
            have h1 := congrArg List.length g1
            rw [List.length_append, List.length_take] at h1
            have hsz : t.data.toList.length = t.size := rfl
            rw [List.length_take] at h1
            omega
          have hjl : (Lib.join ws [32]).length ≤ t.size := by
            unfold lineW at hlw
            rw [List.length_append] at hlw
            omega
          have hwl : ∀ (ws : List (List UInt8)) (w : List UInt8), w ∈ ws → w.length ≤ (Lib.join ws [32]).length := by
            intro ws w hw
            cases ws with
            | nil => cases hw
            | cons x r =>
              rw [Lib.join_cons, List.length_append]
              rcases List.mem_cons.1 hw with rfl | hw
              · omega
              · have : ∀ r : List (List UInt8), w ∈ r → w.length ≤ (Lib.joinTail [32] r).length := fun r => by
                  induction r with
                  | nil => intro h; cases h
                  | cons y r ih =>
                    intro h
                    have e : Lib.joinTail [32] (y :: r) = 32 :: (y ++ Lib.joinTail [32] r) := by simp [Lib.joinTail]
                    rw [e, List.length_cons, List.length_append]
                    rcases List.mem_cons.1 h with rfl | h
                    · omega
                    · have := ih h; omega
                have := this r hw
                omega
          obtain ⟨e1, e2, e3, e4⟩ := add_back (N := t.size + 1) g5 (fun w hw => Nat.le_trans (hwl ws w hw) (by omega)) (by have := join_ge ws; omega) h0 hc hI hadd
          exact prs_back k (n + 1) a' s1 s' h (by rw [g1, hT, e1]) e2 e3 e4
end Go.Proofs.YtoejflnlkapkiaaDoor
/- 'append([]T{}, l...)'; reference 42's script that is being read, in memory. -/
namespace Go.Proofs.YtoejflnlkapkiaaDoor
open Go.ChangeShapes Go.WideShapes Go.ChangeAt Go.RowKit
set_option linter.unusedVariables false
set_option linter.unusedSimpArgs false
theorem own_madeN (w : World) (B : Nat) (E : TypeId) (sz : Nat) (hB : B ≤ w.heap.size) : (w.alloc (.cells #[] E)).ownsRow B E sz (.slice (some ⟨w.heap.size, 0, none⟩) 0 0) 0 [] :=
  ⟨by simp, .inr ⟨w.heap.size, 0, #[], rfl, hB, heap_alloc_new _ _, Nat.le_refl _, by decide, by simp, by simp⟩⟩
theorem run_appall {W : World} {T E ty : TypeId} {sz bys B B' : Nat} {xv : Value} {b n : Nat} {news : List Value} (hT : Tryd.prog.underlying T = some (.slice E))
    (hI : (Tryd.prog.info? E).map (fun i => (i.zero.map (fun z => z.cells.size), i.size, i.bytes)) = some (some sz, sz, bys)) (hsz : 0 < sz) (hby : bys ≤ 128)
    (hown : W.ownsRow B E sz (.slice (some ⟨b, 0, none⟩) 0 0) 0 []) (hsrc : W.ownsRow B' E sz xv n news) (hB : B ≤ W.heap.size) (hn : n < 10000000) (h1 : ∀ u ∈ news, u.oneCell' = true) :
    ∃ g cap w', (Builtin.append_ #[T, T] ty #[.slice (some ⟨b, 0, none⟩) 0 0, xv]).run Tryd.prog W = .ok (.slice (some ⟨g, 0, none⟩) n cap) w' ∧ w'.ownsRow B E sz (.slice (some ⟨g, 0, none⟩) n cap) n news ∧ Ex (fun t => t ≠ b) W w' ∧ (g = b ∨ W.heap.size ≤ g) ∧ Below B W w' := by
  obtain ⟨i0, hi⟩ : ∃ i, Tryd.prog.info? E = some i := by
    cases h0 : Tryd.prog.info? E with
    | none => rw [h0] at hI; cases hI
    | some i => exact ⟨i, rfl⟩
  rw [hi] at hI
  simp only [Option.map_some, Option.some.injEq, Prod.mk.injEq] at hI
  obtain ⟨hz, hsz2, hby2⟩ := hI
  obtain ⟨z, hz1, hz2⟩ : ∃ z, i0.zero = some z ∧ z.cells.size = sz := by
    cases h0 : i0.zero with
    | none => rw [h0] at hz; cases hz
    | some z => rw [h0] at hz; simp at hz; exact ⟨z, rfl, hz⟩
  by_cases h0 : n = 0
  · subst h0
    have hnil : news = [] := List.length_eq_zero_iff.1 (by have := hsrc.1; omega)
    subst hnil
    have hs : Src Tryd.prog i0.size T xv 0 [] W := by
      rcases own_form hsrc with ⟨rfl, -, -⟩ | ⟨g, c, rfl, -⟩
      · exact Src.ofNil W hT 0
      · exact Src.ofSlice W hT _ 0 c [] (by simp) (fun j u hj => by simp at hj) (fun u hu => by cases hu)
    have hrun := run_append_room_src (P := Tryd.prog) W T T ty E i0 hT hi b 0 0 0 _ 0 [] hs (by omega) (fun j hj => by simp at hj) (fun j hj => by simp at hj)
    exact ⟨b, 0, W, hrun, hown, Ex.refl _ _, .inl rfl, Below.refl _ _⟩
  · rcases own_form hsrc with ⟨rfl, hz0, -⟩ | ⟨g0, c0, rfl, -, -, -, -, hcell⟩
    · exact absurd hz0 h0
    · obtain ⟨g, cap, w', hr, h2, h3, h4, h5⟩ := run_append_lies (P := Tryd.prog) W T ty B E i0 z sz bys hT hi hz1 hsz2 hby2 hz2 hsz _ 0 [] hown ⟨g0, 0, none⟩ n c0 news hsrc.1 (fun j u hj => by
        obtain ⟨hj2, -⟩ := List.getElem?_eq_some_iff.1 hj
        obtain ⟨u', h1, h2, -⟩ := hcell j (by have := hsrc.1; omega)
        rw [hj] at h1
        obtain rfl := Option.some.inj h1
        rw [Addr.add_lit, Nat.zero_add]; exact h2) h1 (by omega) (by unfold maxLen; omega) (by
          have : (0 + n) * bys ≤ 10000000 * 128 := Nat.mul_le_mul (by omega) hby
          omega) hB _ rfl
      rw [Nat.zero_add] at hr h2
      rw [List.nil_append] at h2
      refine ⟨g, cap, w', hr, h2, Ex.grown h3 (fun k hk hn => hn (by simpa [Value.ownBlock] using hk.symm)), ?_, (Below.refl _ _).grown h3 hB (fun i hi => (World.ownsRow.lt hown i hi).1)⟩
      rcases h4 with h4 | h4
      · left; simpa [Value.ownBlock] using h4.symm
      · right; rw [h4]; exact Nat.le_refl _
theorem append_allK {ops : Array Oper} {rest : List Oper} {o : Oper} {a : Act} {Q : Exit → Act → World → Prop} {W : World} {T E : TypeId} {sz bys B B' : Nat} {xv : Value} {b n : Nat} {news : List Value} (hT : Tryd.prog.underlying T = some (.slice E))
    (hI : (Tryd.prog.info? E).map (fun i => (i.zero.map (fun z => z.cells.size), i.size, i.bytes)) = some (some sz, sz, bys)) (hsz : 0 < sz) (hby : bys ≤ 128) (hgd : o.guard = none) (s x : Operand)
    (ho : o.op = .call { callee := .builtin .append, args := #[s, x], argTypes := #[T, T] }) (hs : a.eval s = .slice (some ⟨b, 0, none⟩) 0 0) (hown : W.ownsRow B E sz (.slice (some ⟨b, 0, none⟩) 0 0) 0 []) (hx : a.eval x = xv) (hsrc : W.ownsRow B' E sz xv n news) (hB : B ≤ W.heap.size) (hn : n < 10000000)
    (h1 : ∀ u ∈ news, u.oneCell' = true)
    (h : ∀ g cap w', w'.ownsRow B E sz (.slice (some ⟨g, 0, none⟩) n cap) n news → Ex (fun t => t ≠ b) W w' → (g = b ∨ W.heap.size ≤ g) → Below B W w' → wpList Tryd.prog ops Q rest (a.put o.dst (.slice (some ⟨g, 0, none⟩) n cap)) w') : wpList Tryd.prog ops Q (o :: rest) a W := by
  obtain ⟨g, cap, w', hr, h2, h3, h4, h5⟩ := run_appall (ty := o.type) hT hI hsz hby hown hsrc hB hn h1
  refine wpList_plain hgd fun _ hK => ?_
  unfold Oper.wp execOp
  simp only [ho, resolve, invoke, builtin, Sem.run_bind, Sem.run_pure, Result.andThen_ok, List.map_toArray, List.map_cons, List.map_nil, hs, hx, hr]
  exact hK _ _ (h g cap w' h2 h3 h4 h5)
theorem step_allK {ops : Array Oper} {o : Oper} {a : Act} {K : Act → World → Prop} {Q : Exit → Act → World → Prop} {E' : Prop} {W : World} {T E : TypeId} {sz bys B B' : Nat} {xv : Value} {b n : Nat} {news : List Value} (hT : Tryd.prog.underlying T = some (.slice E))
    (hI : (Tryd.prog.info? E).map (fun i => (i.zero.map (fun z => z.cells.size), i.size, i.bytes)) = some (some sz, sz, bys)) (hsz : 0 < sz) (hby : bys ≤ 128) (hgd : o.guard = none) (s x : Operand)
    (ho : o.op = .call { callee := .builtin .append, args := #[s, x], argTypes := #[T, T] }) (hs : a.eval s = .slice (some ⟨b, 0, none⟩) 0 0) (hown : W.ownsRow B E sz (.slice (some ⟨b, 0, none⟩) 0 0) 0 []) (hx : a.eval x = xv) (hsrc : W.ownsRow B' E sz xv n news) (hB : B ≤ W.heap.size) (hn : n < 10000000)
    (h1 : ∀ u ∈ news, u.oneCell' = true)
    (h : ∀ g cap w', w'.ownsRow B E sz (.slice (some ⟨g, 0, none⟩) n cap) n news → Ex (fun t => t ≠ b) W w' → (g = b ∨ W.heap.size ≤ g) → Below B W w' → K (a.put o.dst (.slice (some ⟨g, 0, none⟩) n cap)) w') : if Region.wanted o (yielded ops a.tmps) = true then Oper.wp Tryd.prog o a W K Q else E' := by
  obtain ⟨g, cap, w', hr, h2, h3, h4, h5⟩ := run_appall (ty := o.type) hT hI hsz hby hown hsrc hB hn h1
  have hw : Region.wanted o (yielded ops a.tmps) = true := by simp [Region.wanted, hgd]
  rw [if_pos hw]
  unfold Oper.wp execOp
  simp only [ho, resolve, invoke, builtin, Sem.run_bind, Sem.run_pure, Result.andThen_ok, List.map_toArray, List.map_cons, List.map_nil, hs, hx, hr]
  exact h g cap w' h2 h3 h4 h5
/-- A script that the reference is reading, in memory. -/
structure ScT (B : Nat) (w : World) (s : Sc) (cv pv tv : Value) (us : List Value) (ul : Value) (L : List (Cl × Value)) : Prop where
  sz : B ≤ w.heap.size
  m : ScM B w cv s.cs us ul L
  p : PK (KS B cv ul) w pv s.ps
  t : PK (KS B cv ul) w tv s.ts
  r : i64r s.st ∧ i64r s.rm
theorem ScT.keep {B : Nat} {w w' : World} {s : Sc} {cv pv tv : Value} {us : List Value} {ul : Value} {L : List (Cl × Value)} (h : ScT B w s cv pv tv us ul L) (he : Ex (fun t => B ≤ t) w w') : ScT B w' s cv pv tv us ul L :=
  have h2 : Ex (KS B cv ul) w w' := he.mono (fun _ _ hk => hk.1)
  ⟨Nat.le_trans h.sz he.1, h.m.keep he, h.p.keep h2, h.t.keep h2, h.r⟩
theorem ScT.below {B : Nat} {w w' : World} {s : Sc} {cv pv tv : Value} {us : List Value} {ul : Value} {L : List (Cl × Value)} (h : ScT B w s cv pv tv us ul L) (hb : Below w.heap.size w w') : ScT B w' s cv pv tv us ul L := h.keep (Ex.of_below hb)
theorem ScT.fresh {B : Nat} {w : World} {s : Sc} {cv pv tv : Value} {us : List Value} {ul : Value} {L : List (Cl × Value)} (h : ScT B w s cv pv tv us ul L) {t : Nat} (ht : w.heap.size ≤ t) : KS B cv ul t :=
  ⟨Nat.le_trans h.sz ht, fun e => by have := (World.ownsRow.lt h.m.own t e).2; omega, fun e => by have := (World.ownsRow.lt h.m.row t e).2; omega⟩
def scV (s : Sc) (cv pv tv : Value) : Value := .agg #[.int .i64 s.st, .int .i64 s.rm, cv, pv, tv]
/-- What 'take' does. -/
def TakeOk (B : Nat) (o : Option Sc) (W : World) (e : Ending) (w' : World) : Prop :=
  ((∃ s cv pv tv us ul L, o = some s ∧ e = .returned (.tuple #[scV s cv pv tv, .bool true]) ∧ ScT B w' s cv pv tv us ul L) ∨ (o = none ∧ ∃ (s : Sc) (p : Option Addr) (n k : Nat) (p' : Option Addr) (n' k' : Nat) (p'' : Option Addr) (n'' k'' : Nat), e = .returned (.tuple #[scV s (.slice p n k) (.slice p' n' k') (.slice p'' n'' k''), .bool false]))) ∧ Below B W w'
theorem ScT.nums {B : Nat} {w w' : World} {s s' : Sc} {cv pv tv pv' tv' : Value} {us : List Value} {ul : Value} {L : List (Cl × Value)} (h : ScT B w s cv pv tv us ul L) (he : Ex (fun t => B ≤ t) w w') (hcs : s'.cs = s.cs)
    (hp : PK (KS B cv ul) w' pv' s'.ps) (ht : PK (KS B cv ul) w' tv' s'.ts) (hr : i64r s'.st ∧ i64r s'.rm) : ScT B w' s' cv pv' tv' us ul L :=
  ⟨Nat.le_trans h.sz he.1, by rw [hcs]; exact h.m.keep he, hp, ht, hr⟩
/-- The rows of clients hold one cell each. -/
theorem ScM.oneu {B : Nat} {w : World} {cv : Value} {cs : List (List Cl)} {us : List Value} {ul : Value} {L : List (Cl × Value)} (h : ScM B w cv cs us ul L) : ∀ u ∈ us, u.oneCell' = true := by
  intro u hu
  obtain ⟨j, hj, rfl⟩ := List.getElem_of_mem hu
  have hl := h.len
  obtain ⟨p, c, e, -⟩ := h.at (List.getElem?_eq_getElem hj) (List.getElem?_eq_getElem (by omega : j < cs.length))
  rw [e]; rfl
theorem encP_one {K : Nat → Prop} {w : World} : ∀ (L : List (Cl × Value)), (∀ p ∈ L, p.1.ok ∧ XK K w p.2 p.1.xs) → ∀ u ∈ encP L, u.oneCell' = true
  | [], _, u, hu => by cases hu
  | p :: L, h, u, hu => by
    have hu' : u ∈ clCells p.1 p.2 ++ encP L := hu
    rcases List.mem_append.1 hu' with h1 | h1
    · obtain ⟨-, ⟨q, k, e, -⟩, -⟩ := h p (List.mem_cons_self ..)
      simp only [clCells, List.mem_cons, List.not_mem_nil, or_false] at h1
      rcases h1 with rfl | rfl | rfl | rfl | rfl | rfl | rfl
      · rfl
      · rfl
      · rfl
      · rfl
      · rfl
      · rfl
      · rw [e]; rfl
    · exact encP_one L (fun q hq => h q (List.mem_cons_of_mem _ hq)) u h1
/-- One client more. -/
theorem ScT.client {B : Nat} {w w' : World} {s : Sc} {cv cv' pv tv : Value} {us : List Value} {ul : Value} {L : List (Cl × Value)} (h : ScT B w s cv pv tv us ul L) (ho : w'.ownsRow B 55 1 cv' (s.cs.length + 1) (us ++ [.slice none 0 0]))
    (he : Ex (fun t => t < w.heap.size) w w') (hc : ∀ t, cv'.ownBlock = some t → w.heap.size ≤ t) : ScT B w' { s with cs := s.cs ++ [[]] } cv' pv tv (us ++ [.slice none 0 0]) (.slice none 0 0) [] := by
  have hKK : ∀ t, t < w.heap.size → KS B cv ul t → KS B cv' (.slice none 0 0) t := fun t ht hk => ⟨hk.1, fun e => by have := hc t e; omega, by simp [Value.ownBlock]⟩
  have hPK : ∀ (v : Value) (xs : List Int), PK (KS B cv ul) w v xs → PK (KS B cv' (.slice none 0 0)) w' v xs := fun v xs hv =>
    ((hv.mono (K' := fun t => KS B cv ul t ∧ t < w.heap.size) (fun t ht hk => ⟨hk, ht⟩)).keep (he.mono (fun t _ hk => hk.2))).mono (fun t _ hk => hKK t hk.2 hk.1)
  exact ⟨Nat.le_trans h.sz he.1, h.m.client ho (he.mono (fun t ht _ => ht)) (fun t e => .inr (hc t e)), hPK _ _ h.p, hPK _ _ h.t, h.r⟩
/-- One call more: a copy of the last row, with it. -/
theorem ScT.call {B : Nat} {w w4 : World} {s : Sc} {cv pv tv : Value} {us : List Value} {ul : Value} {L : List (Cl × Value)} (h : ScT B w s cv pv tv us ul L) (hne : s.cs ≠ []) {G kc : Nat} (hcv : cv = .slice (some ⟨G, 0, none⟩) s.cs.length kc)
    {c : Cl} {x : Value} (hc : c.ok) (hx : XK (KS B cv ul) w x c.xs) {g cap : Nat} (ho : w4.ownsRow B 49 7 (.slice (some ⟨g, 0, none⟩) (L.length + 1) cap) (L.length + 1) (encP L ++ clCells c x))
    (he : Ex (fun t => t < w.heap.size) w w4) (hg : w.heap.size ≤ g) :
    ScT B (w4.setCell ⟨G, s.cs.length - 1, none⟩ (.slice (some ⟨g, 0, none⟩) (L.length + 1) cap)) { s with cs := addC s.cs c } cv pv tv (us.set (s.cs.length - 1) (.slice (some ⟨g, 0, none⟩) (L.length + 1) cap)) (.slice (some ⟨g, 0, none⟩) (L.length + 1) cap) (L ++ [(c, x)]) := by
  have hcb : cv.ownBlock = some G := by rw [hcv]; rfl
  have hGB := World.ownsRow.lt h.m.own G hcb
  have hgk : ∀ t, (Value.slice (some ⟨g, 0, none⟩) (L.length + 1) cap).ownBlock = some t → w.heap.size ≤ t := fun t e => by
    have e2 : g = t := by simpa [Value.ownBlock] using e
    rw [← e2]; exact hg
  have hs4 := own_ex h.m.own he (fun t ht => (World.ownsRow.lt h.m.own t ht).2)
  have he2 : Ex (fun t => cv.ownBlock ≠ some t) w4 (w4.setCell ⟨G, s.cs.length - 1, none⟩ (.slice (some ⟨g, 0, none⟩) (L.length + 1) cap)) := Ex.set (fun hn => hn hcb)
  have hs5 : (w4.setCell ⟨G, s.cs.length - 1, none⟩ (.slice (some ⟨g, 0, none⟩) (L.length + 1) cap)).ownsRow B 55 1 cv s.cs.length (us.set (s.cs.length - 1) (.slice (some ⟨g, 0, none⟩) (L.length + 1) cap)) := by
    rw [hcv] at hs4 ⊢
    exact own_set hs4 _ _
  have hKK : ∀ t, t < w.heap.size → KS B cv ul t → KS B cv (.slice (some ⟨g, 0, none⟩) (L.length + 1) cap) t := fun t ht hk => ⟨hk.1, hk.2.1, fun e => by
    have := hgk t e
    omega⟩
  have hPK : ∀ (v : Value) (xs : List Int), PK (KS B cv ul) w v xs → PK (KS B cv (.slice (some ⟨g, 0, none⟩) (L.length + 1) cap)) (w4.setCell ⟨G, s.cs.length - 1, none⟩ (.slice (some ⟨g, 0, none⟩) (L.length + 1) cap)) v xs := fun v xs hv =>
    ((hv.mono (K' := fun t => KS B cv ul t ∧ t < w.heap.size) (fun t ht hk => ⟨hk, ht⟩)).keep ((he.mono (fun t _ hk => hk.2)).trans (he2.mono (fun t _ hk => hk.1.2.1)))).mono (fun t _ hk => hKK t hk.2 hk.1)
  refine ⟨by have := h.sz; have := he.1; simp; omega, ?_, hPK _ _ h.p, hPK _ _ h.t, h.r⟩
  exact h.m.call hne hc hx ho (he.mono (fun t ht _ => ht)) (fun t e => .inr (hgk t e)) hs5 he2
end Go.Proofs.YtoejflnlkapkiaaDoor
