/- Put together by program (merge2.py): Sqv Sqw Sqm Shm Shapd. -/
import Derived.Lib.SmallJoins
import Derived.JoinedCond
import Derived.Lib.LaidTab
import Derived.Stop.LaidErr
import Derived.HandedShaped
import Derived.Handed
import Derived.Shelf.Vars
import Derived.Test.YtoejflnlkapkiaaDoorSz1
import Derived.Test.YtoejflnlkapkiaaDoorSz6
import Derived.Test.YtoejflnlkapkiaaDoorSz20
import Derived.Test.YtoejflnlkapkiaaDoorSz22
/- Scripts that come in: a reading is a script in memory. -/
namespace Go.Proofs.YtoejflnlkapkiaaDoor
open Go.ChangeShapes Go.WideShapes Go.ChangeAt Go.RowKit
set_option linter.unusedVariables false
open Go.Joins Go.Deep
set_option linter.unusedSimpArgs false
namespace bulks
theorem one_le {H : Type} (d : DataW H) : 1 ≤ Rows.uptoBulk d := by
  cases d with
  | lit l => cases l <;> simp [Rows.uptoBulk]
  | nil => simp [Rows.uptoBulk]
  | ptr d => simp [Rows.uptoBulk]
  | slice elems spare => simp [Rows.uptoBulk]
  | agg parts => simp [Rows.uptoBulk]
  | iface t d => simp [Rows.uptoBulk]
  | map entries => simp [Rows.uptoBulk]
  | held h => simp [Rows.uptoBulk]
theorem len_le {H : Type} (l : List (DataW H)) : l.length ≤ Rows.uptoBulkAll l := by
  induction l with
  | nil => simp [Rows.uptoBulkAll]
  | cons x r ih => have := one_le x; simp only [Rows.uptoBulkAll, List.length_cons]; omega
theorem bound {H : Type} {l : List (DataW H)} (hk : Rows.uptoSmall H l = true) : Rows.uptoBulkAll l ≤ 1048576 := of_decide_eq_true hk
theorem get_le {H : Type} : ∀ (l : List (DataW H)) (i : Nat) (d : DataW H), l[i]? = some d → Rows.uptoBulk d ≤ Rows.uptoBulkAll l
  | x :: l, 0, d, h => by
    have e : x = d := by simpa using h
    subst e; simp only [Rows.uptoBulkAll]; omega
  | x :: l, i + 1, d, h => by
    have := get_le l i d (by simpa using h)
    simp only [Rows.uptoBulkAll]; omega
theorem sum_le {H α : Type} (f : α → Nat) : ∀ (l : List α) (ds : List (DataW H)), l.length = ds.length → (∀ (i : Nat) y d, l[i]? = some y → ds[i]? = some d → f y ≤ Rows.uptoBulk d) → (l.map f).sum ≤ Rows.uptoBulkAll ds
  | [], _, _, _ => Nat.zero_le _
  | y :: l, [], h, _ => by simp at h
  | y :: l, d :: ds, h, g => by
    have h1 := g 0 y d rfl rfl
    have h2 := sum_le f l ds (by simpa using h) (fun i y d hy hd => g (i + 1) y d (by simpa using hy) (by simpa using hd))
    rw [List.map_cons, List.sum_cons]
    simp only [Rows.uptoBulkAll]
    omega
end bulks
theorem list_of {α : Type} {P : Nat → α → Prop} : ∀ n, (∀ i, i < n → ∃ y, P i y) → ∃ l : List α, l.length = n ∧ ∀ (i : Nat) y, l[i]? = some y → P i y
  | 0, _ => ⟨[], rfl, fun i y h => by simp at h⟩
  | n + 1, h => by
    obtain ⟨l, hl, hA⟩ := list_of (P := P) n (fun i hi => h i (by omega))
    obtain ⟨y, hy⟩ := h n (by omega)
    refine ⟨l ++ [y], by simp [hl], fun i z hz => ?_⟩
    rcases Nat.lt_or_ge i n with h | h
    · rw [List.getElem?_append_left (by omega)] at hz
      exact hA i z hz
    · rw [List.getElem?_append_right (by omega)] at hz
      have hi : i = n := by
        have := (List.getElem?_eq_some_iff.1 hz).1
        simp at this; omega
      subst hi
      rw [hl, Nat.sub_self] at hz
      simp at hz; subst hz
      exact hy
section
variable {H : Type} {enc : TypeId × Value → H} {w : World} {sp : Nat → Bool} {held : Bool}
theorem trod_nums {k : IntKind} {t e : TypeId} {base fuel : Nat} {c : Value} {x : DataW H × List MemPlace} (ht : Tryd.prog.underlying t = some (.slice e)) (he : Tryd.prog.underlying e = some (.int k)) (hC : Tryd.prog.cellsOf e = 1) (h : DataW.trod enc Tryd.prog w base sp held fuel t [c] = some x) :
    ∃ p n q, c = .slice p n q ∧ IsRow k w p n q ∧ n ≤ Rows.uptoBulk x.1 := by
  rcases DataW.trod_slice ht h with ⟨hc, hx⟩ | ⟨a, len, cap, elems, rest, m, _, hc, hx, _, _, _, hle, _⟩
  · have hc' : c = .slice none 0 0 := by simpa using hc
    subst hc'
    obtain ⟨yd, yp⟩ := x
    exact ⟨_, _, _, rfl, isRow_of (d := yd) (p := yp) ht he hC ⟨_, h⟩, Nat.zero_le _⟩
  · have hc' : c = .slice (some a) len cap := by simpa using hc
    subst hc'
    obtain ⟨yd, yp⟩ := x
    refine ⟨_, _, _, rfl, isRow_of (d := yd) (p := yp) ht he hC ⟨_, h⟩, ?_⟩
    have e : yd = .slice (elems.map (·.1)) (rest.map (·.1)) := congrArg Prod.fst hx
    have h1 := bulks.len_le (elems.map (·.1))
    rw [List.length_map] at h1
    show len ≤ Rows.uptoBulk yd
    rw [e]
    simp only [Rows.uptoBulk]
    omega
set_option maxRecDepth 100000 in
set_option maxHeartbeats 4000000 in
theorem trod_cl (base fuel : Nat) (cs : List Value) (x : DataW H × List MemPlace) (hb : Rows.uptoBulk x.1 ≤ 1048576) (h : DataW.trod enc Tryd.prog w base sp held fuel 49 cs = some x) :
    ∃ (c : Cl) (xv : Value), cs = clCells c xv ∧ c.ok ∧ RowX w xv c.xs ∧ 1 + c.s.size + c.xs.length ≤ Rows.uptoBulk x.1 := by
  have C2 : Tryd.prog.cellsOf 46 = 2 := by kernel_rfl
  have C3 : Tryd.prog.cellsOf 49 = 7 := by kernel_rfl
  have C5 : Tryd.prog.cellsOf 3 = 1 := by kernel_rfl
  have C6 : Tryd.prog.cellsOf 44 = 2 := by kernel_rfl
  have C7 : Tryd.prog.cellsOf 9 = 1 := by kernel_rfl
  have C8 : Tryd.prog.cellsOf 47 = 1 := by kernel_rfl
  obtain ⟨ys, m', rfl, hx1, hlen', hys, hel'⟩ := DataW.trod_struct Tryd.underlying49 h
  rw [C3] at hlen'
  obtain ⟨c0, c1, c2, c3, c4, c5, c6, rfl⟩ : ∃ c0 c1 c2 c3 c4 c5 c6, cs = [c0, c1, c2, c3, c4, c5, c6] := by
    match cs, hlen' with
    | [c0, c1, c2, c3, c4, c5, c6], _ => exact ⟨_, _, _, _, _, _, _, rfl⟩
  obtain ⟨y0, y1, y2, y3, y4, rfl⟩ : ∃ x0 x1 x2 x3 x4, ys = [x0, x1, x2, x3, x4] := by
    have h3 : ys.length = 5 := hys
    match ys, h3 with
    | [a, b, c, d, e], _ => exact ⟨a, b, c, d, e, rfl⟩
  have d0 := hel' 0 _ rfl
  have d1 := hel' 1 _ rfl
  have d2 := hel' 2 _ rfl
  have d3 := hel' 3 _ rfl
  have d4 := hel' 4 _ rfl
  simp only [C2, C5, C6, C7, C8, List.drop_zero, List.take_succ_cons, List.take_zero, List.getElem?_cons_zero, List.drop_succ_cons, List.getElem?_cons_succ] at d0 d1 d2 d3 d4
  obtain ⟨n2, rfl, w2⟩ := sc_one_int Tryd.underlying3 d0
  obtain ⟨n3, n4, rfl, w3, rfl, w4⟩ := sc_two_int Tryd.underlying44 rfl rfl rfl rfl C5 d1
  obtain ⟨s5, hs5, hy2, -⟩ := DataW.trod_string Tryd.underlying9 d2
  have e5 : List.take (Tryd.prog.cellsOf 9) [c3, c4, c5, c6] = [c3] := by rw [C7]; rfl
  have hs5' : c3 = .string s5 := by
    have h5 : [c3] = [Value.string s5] := e5.symm.trans hs5
    simpa using h5
  subst hs5'
  obtain ⟨n6, n7, rfl, w6, rfl, w7⟩ := sc_two_int Tryd.underlying46 rfl rfl rfl rfl C5 d3
  obtain ⟨p8, l8, k8, rfl, hrow, hbl⟩ := trod_nums Tryd.underlying47 Tryd.underlying78 (by kernel_rfl) d4
  have ex : x.1 = .agg ([y0, y1, y2, y3, y4].map (·.1)) := congrArg Prod.fst hx1
  have hyb : Rows.uptoBulk y2.1 = s5.size + 1 := by
    rw [hy2]
    simp only [Rows.uptoBulk]
    rfl
  have hbx : s5.size + 1 + l8 + 1 ≤ Rows.uptoBulk x.1 := by
    rw [ex]
    simp only [List.map_cons, List.map_nil, Rows.uptoBulk, Rows.uptoBulkAll]
    omega
  obtain ⟨xs, hxs⟩ := Row.of_isRow hrow (by omega)
  obtain rfl : xs.length = l8 := hxs.len
  exact ⟨⟨n2, n3, n4, s5, n6, n7, xs⟩, _, rfl, ⟨w2, w3, w4, w6, w7⟩, ⟨_, _, rfl, hxs⟩, by show 1 + s5.size + xs.length ≤ _; omega⟩
set_option maxRecDepth 100000 in
set_option maxHeartbeats 4000000 in
theorem trod_cls (base fuel : Nat) (v : Value) (x : DataW H × List MemPlace) (hb : Rows.uptoBulk x.1 ≤ 1048576) (h : DataW.trod enc Tryd.prog w base sp held fuel 55 [v] = some x) :
    ∃ l : List Cl, RowC w v l ∧ bulkK l ≤ Rows.uptoBulk x.1 ∧ l.length ≤ Rows.uptoBulk x.1 := by
  have hC : Tryd.prog.cellsOf 49 = 7 := by kernel_rfl
  rcases DataW.trod_slice Tryd.underlying55 h with ⟨hc, hx2⟩ | ⟨a, len, cap, elems, rest, m2, hm2, hc, hx2, hbs, hlc, hcm, hle, hels, _, _⟩
  · have hc' : v = .slice none 0 0 := by simpa using hc
    subst hc'
    exact ⟨[], ⟨none, 0, rfl, .inl rfl⟩, Nat.zero_le _, Nat.zero_le _⟩
  · have hc' : v = .slice (some a) len cap := by simpa using hc
    subst hc'
    rw [hC] at hels
    have ex : x.1 = .slice (elems.map (·.1)) (rest.map (·.1)) := congrArg Prod.fst hx2
    have hbx : Rows.uptoBulkAll (elems.map (·.1)) + 1 ≤ Rows.uptoBulk x.1 := by rw [ex]; simp only [Rows.uptoBulk]; omega
    have each : ∀ i, i < len → ∃ c : Cl, (∃ u, w.cell? (a.add (i * 7)) = some u) ∧ (∀ b o, a = ⟨b, o, none⟩ → ClAt w b (o + i * 7) c) ∧ ∀ d, (elems.map (·.1))[i]? = some d → 1 + c.s.size + c.xs.length ≤ Rows.uptoBulk d := by
      intro i hi
      have he := hels i hi
      rw [List.getElem?_eq_getElem (show i < elems.length by omega)] at he
      obtain ⟨cs', h1', h2'⟩ := Option.bind_eq_some_iff.1 he
      have hbe : Rows.uptoBulk (elems[i]'(by omega)).1 ≤ Rows.uptoBulkAll (elems.map (·.1)) := bulks.get_le (elems.map (·.1)) i _ (by rw [List.getElem?_map, List.getElem?_eq_getElem (show i < elems.length by omega)]; rfl)
      have hbe2 : Rows.uptoBulk (elems[i]'(by omega)).1 ≤ 1048576 := by omega
      obtain ⟨c, xv, rfl, hok, hxv, hbc⟩ := trod_cl base m2 cs' _ hbe2 h2'
      obtain ⟨_, _, hcell⟩ := World.cells?_some h1'
      have q0 := hcell 0 (by omega)
      have e : (a.add (i * 7)).add 0 = a.add (i * 7) := by obtain ⟨b, o, sp⟩ := a; cases sp <;> simp [Addr.add]
      rw [e] at q0
      refine ⟨c, ⟨_, q0⟩, ?_, fun d hd => ?_⟩
      · rintro b o rfl
        have q1 := hcell 1 (by omega)
        have q2 := hcell 2 (by omega)
        have q3 := hcell 3 (by omega)
        have q4 := hcell 4 (by omega)
        have q5 := hcell 5 (by omega)
        have q6 := hcell 6 (by omega)
        rw [add_plain, add_plain] at q1 q2 q3 q4 q5 q6
        rw [add_plain] at q0
        exact ⟨hok, by simpa [clCells] using q0, by simpa [clCells] using q1, by simpa [clCells] using q2, by simpa [clCells] using q3, by simpa [clCells] using q4, by simpa [clCells] using q5, xv, by simpa [clCells] using q6, hxv⟩
      · rw [List.getElem?_map, List.getElem?_eq_getElem (show i < elems.length by omega)] at hd
        obtain rfl := Option.some.inj hd
        exact hbc
    obtain ⟨l, hl, hA⟩ := list_of len each
    have hlen : l.length = (elems.map (·.1)).length := by rw [List.length_map]; omega
    have hsum := bulks.sum_le (fun c : Cl => 1 + c.s.size + c.xs.length) l (elems.map (·.1)) hlen (fun i y d hy hd => (hA i y hy).2.2 d hd)
    have hll := bulks.len_le (elems.map (·.1))
    refine ⟨l, ⟨some a, cap, by rw [hl], ?_⟩, by unfold bulkK; omega, by omega⟩
    by_cases h0 : l = []
    · exact .inl h0
    · right
      have hpos := List.length_pos_iff.2 h0
      obtain ⟨⟨u, hu⟩, -, -⟩ := hA 0 _ (List.getElem?_eq_getElem hpos)
      obtain ⟨b, o, spot⟩ := a
      have hspot : spot = none := by
        have := World.cell?_spot hu
        cases spot with
        | none => rfl
        | some q => simp [Addr.add] at this
      subst hspot
      rw [add_plain] at hu
      exact ⟨b, o, rfl, block_lt_of_cell hu, fun j y hy => (hA j y hy).2.1 b o rfl⟩
set_option maxRecDepth 100000 in
set_option maxHeartbeats 4000000 in
theorem trod_clss (base fuel : Nat) (v : Value) (x : DataW H × List MemPlace) (hb : Rows.uptoBulk x.1 ≤ 1048576) (h : DataW.trod enc Tryd.prog w base sp held fuel 22 [v] = some x) :
    ∃ cs : List (List Cl), RowCC w v cs ∧ bulkC cs ≤ Rows.uptoBulk x.1 ∧ cs.length ≤ Rows.uptoBulk x.1 ∧ ∀ l ∈ cs, l.length ≤ 1048576 := by
  have hC : Tryd.prog.cellsOf 55 = 1 := by kernel_rfl
  rcases DataW.trod_slice Tryd.underlying22 h with ⟨hc, hx2⟩ | ⟨a, len, cap, elems, rest, m2, hm2, hc, hx2, hbs, hlc, hcm, hle, hels, _, _⟩
  · have hc' : v = .slice none 0 0 := by simpa using hc
    subst hc'
    exact ⟨[], ⟨none, 0, rfl, .inl rfl⟩, Nat.zero_le _, Nat.zero_le _, fun l hl => by cases hl⟩
  · have hc' : v = .slice (some a) len cap := by simpa using hc
    subst hc'
    rw [hC] at hels
    have ex : x.1 = .slice (elems.map (·.1)) (rest.map (·.1)) := congrArg Prod.fst hx2
    have hbx : Rows.uptoBulkAll (elems.map (·.1)) + 1 ≤ Rows.uptoBulk x.1 := by rw [ex]; simp only [Rows.uptoBulk]; omega
    have each : ∀ i, i < len → ∃ l : List Cl, (∃ u, w.cell? (a.add (i * 1)) = some u ∧ RowC w u l) ∧ l.length ≤ 1048576 ∧ ∀ d, (elems.map (·.1))[i]? = some d → bulkK l ≤ Rows.uptoBulk d := by
      intro i hi
      have he := hels i hi
      rw [List.getElem?_eq_getElem (show i < elems.length by omega)] at he
      obtain ⟨cs', h1', h2'⟩ := Option.bind_eq_some_iff.1 he
      have hbe : Rows.uptoBulk (elems[i]'(by omega)).1 ≤ Rows.uptoBulkAll (elems.map (·.1)) := bulks.get_le (elems.map (·.1)) i _ (by rw [List.getElem?_map, List.getElem?_eq_getElem (show i < elems.length by omega)]; rfl)
      have hbe2 : Rows.uptoBulk (elems[i]'(by omega)).1 ≤ 1048576 := by omega
      obtain ⟨hn, hl1, hcell⟩ := World.cells?_some h1'
      obtain ⟨u, rfl⟩ : ∃ u, cs' = [u] := by
        match cs', hl1 with
        | [u], _ => exact ⟨u, rfl⟩
      obtain ⟨l, hrl, hbk, hll⟩ := trod_cls base m2 u _ hbe2 h2'
      have q0 := hcell 0 (by omega)
      have e : (a.add (i * 1)).add 0 = a.add (i * 1) := by obtain ⟨b, o, sp⟩ := a; cases sp <;> simp [Addr.add]
      rw [e] at q0
      refine ⟨l, ⟨u, by simpa using q0, hrl⟩, by omega, fun d hd => ?_⟩
      rw [List.getElem?_map, List.getElem?_eq_getElem (show i < elems.length by omega)] at hd
      obtain rfl := Option.some.inj hd
      exact hbk
    obtain ⟨cs, hl, hA⟩ := list_of len each
    have hlen : cs.length = (elems.map (·.1)).length := by rw [List.length_map]; omega
    have hsum := bulks.sum_le bulkK cs (elems.map (·.1)) hlen (fun i y d hy hd => (hA i y hy).2.2 d hd)
    have hll := bulks.len_le (elems.map (·.1))
    refine ⟨cs, ⟨some a, cap, by rw [hl], ?_⟩, by unfold bulkC; omega, by omega, fun l hlm => ?_⟩
    · by_cases h0 : cs = []
      · exact .inl h0
      · right
        have hpos := List.length_pos_iff.2 h0
        obtain ⟨⟨u, hu, -⟩, -⟩ := hA 0 _ (List.getElem?_eq_getElem hpos)
        obtain ⟨b, o, spot⟩ := a
        have hspot : spot = none := by
          have := World.cell?_spot hu
          cases spot with
          | none => rfl
          | some q => simp [Addr.add] at this
        subst hspot
        rw [add_plain] at hu
        refine ⟨b, o, rfl, block_lt_of_cell hu, fun j y hy => ?_⟩
        obtain ⟨⟨u2, hu2, hr2⟩, -⟩ := hA j y hy
        rw [add_plain, Nat.mul_one] at hu2
        exact ⟨u2, hu2, hr2⟩
    · obtain ⟨q, hq, rfl⟩ := List.getElem_of_mem hlm
      exact (hA q _ (List.getElem?_eq_getElem hq)).2.1
set_option maxRecDepth 100000 in
set_option maxHeartbeats 4000000 in
theorem open_script {base b0 : Nat} {r : Reach} {v : Value} {d : DataW H} {p : List MemPlace} (hv : Value.okWide Tryd.prog w r b0 25 v) (h : DataW.Trod enc Tryd.prog w base sp held 25 v d p) (hb : Rows.uptoBulk d ≤ 1048576) :
    ∃ (st rm : Int) (cv : Value) (cs : List (List Cl)) (pp tp : Option Addr) (pk tk : Nat) (ps ts : List Int), v = .agg #[.int .i64 st, .int .i64 rm, cv, .slice pp ps.length pk, .slice tp ts.length tk] ∧
      (i64r st ∧ i64r rm) ∧ RowCC w cv cs ∧ RowI w pp ps.length ps ∧ RowI w tp ts.length ts ∧ cs.length ≤ 1048576 ∧ (∀ l ∈ cs, l.length ≤ 1048576) ∧ ps.length + ts.length + bulkC cs ≤ 1048576 := by
  have C5 : Tryd.prog.cellsOf 3 = 1 := by kernel_rfl
  have C6 : Tryd.prog.cellsOf 23 = 1 := by kernel_rfl
  have C7 : Tryd.prog.cellsOf 22 = 1 := by kernel_rfl
  have C3 : Tryd.prog.cellsOf 25 = 5 := by kernel_rfl
  obtain ⟨cs0, rfl, hsz⟩ := okWide_struct Tryd.underlying25 hv
  obtain ⟨fuel, hf⟩ := h
  obtain ⟨ys, m', rfl, hx1, hlen', hys, hel'⟩ := DataW.trod_struct Tryd.underlying25 hf
  rw [C3] at hlen'
  simp only [Value.cells] at hlen' hel'
  obtain ⟨c0, c1, c2, c3, c4, hcs⟩ : ∃ c0 c1 c2 c3 c4, cs0.toList = [c0, c1, c2, c3, c4] := by
    match hl : cs0.toList, hlen' with
    | [c0, c1, c2, c3, c4], _ => exact ⟨_, _, _, _, _, rfl⟩
  rw [hcs] at hel'
  obtain ⟨y0, y1, y2, y3, y4, rfl⟩ : ∃ x0 x1 x2 x3 x4, ys = [x0, x1, x2, x3, x4] := by
    have h3 : ys.length = 5 := hys
    match ys, h3 with
    | [a, b, c, d, e], _ => exact ⟨a, b, c, d, e, rfl⟩
  have d0 := hel' 0 _ rfl
  have d1 := hel' 1 _ rfl
  have d2 := hel' 2 _ rfl
  have d3 := hel' 3 _ rfl
  have d4 := hel' 4 _ rfl
  simp only [C5, C6, C7, List.drop_zero, List.take_succ_cons, List.take_zero, List.getElem?_cons_zero, List.drop_succ_cons, List.getElem?_cons_succ] at d0 d1 d2 d3 d4
  have ex : d = .agg ([y0, y1, y2, y3, y4].map (·.1)) := congrArg Prod.fst hx1
  have hbd : Rows.uptoBulk y2.1 + Rows.uptoBulk y3.1 + Rows.uptoBulk y4.1 ≤ Rows.uptoBulk d := by
    rw [ex]
    simp only [List.map_cons, List.map_nil, Rows.uptoBulk, Rows.uptoBulkAll]
    omega
  have hb2 : Rows.uptoBulk y2.1 ≤ 1048576 := by omega
  obtain ⟨st, rfl, w0⟩ := sc_one_int Tryd.underlying3 d0
  obtain ⟨rm, rfl, w1⟩ := sc_one_int Tryd.underlying3 d1
  obtain ⟨cs, hcc, hbc, hcl, hll⟩ := trod_clss base m' c2 y2 hb2 d2
  obtain ⟨pp, pn, pk, rfl, hp, hpb⟩ := trod_nums Tryd.underlying23 Tryd.underlying3 (by kernel_rfl) d3
  obtain ⟨tp, tn, tk, rfl, ht, htb⟩ := trod_nums Tryd.underlying23 Tryd.underlying3 (by kernel_rfl) d4
  obtain ⟨ps, hps⟩ := RowI.of_isRow hp (by omega)
  obtain ⟨ts, hts⟩ := RowI.of_isRow ht (by omega)
  obtain rfl : ps.length = pn := hps.len
  obtain rfl : ts.length = tn := hts.len
  refine ⟨st, rm, c2, cs, pp, tp, pk, tk, ps, ts, ?_, ⟨w0, w1⟩, hcc, hps, hts, by omega, hll, by omega⟩
  congr 1
  exact Array.ext' (by simpa using hcs)
end
end Go.Proofs.YtoejflnlkapkiaaDoor
/- Scripts: the variables of errors, as they are laid. -/
namespace Go.Proofs.YtoejflnlkapkiaaDoor
open Go.ChangeShapes Go.WideShapes Go.ChangeAt Go.RowKit
set_option linter.unusedVariables false
set_option linter.unusedSimpArgs false
theorem sw_pow10_data : (Rows.laid_internal_strconv_uint64pow10 : DataW Unit) = Lib.tabData .u64 Lib.pow10Tab := by kernel_rfl
theorem sw_pow10_head {W : World} {l : List (String × DataW Unit)} (hL : laidMet Tryd.prog (("internal/strconv.uint64pow10", Rows.laid_internal_strconv_uint64pow10) :: l) W) : Lib.TabIs Tryd.prog W "internal/strconv.uint64pow10" .u64 Lib.pow10Tab := by
  rw [sw_pow10_data] at hL
  exact Lib.tabIs_of_head (g := 0) (t := 127) (e := 78) (n := 20) (by kernel_rfl) (by kernel_rfl) Tryd.underlying127 Tryd.underlying78 (by kernel_rfl) (by kernel_rfl) hL
theorem sw_star : "*" ++ "errors.errorString" = "*errors.errorString" := by decide
theorem sw_row (u : TypeId) (h : Tryd.prog.typeName? 3 u = some "*errors.errorString") : u = 152 :=
  typeName_ptr_named (nm := "errors.errorString") (by rw [sw_star]; kernel_rfl) (by kernel_rfl) (by decide) u (by rw [sw_star]; exact h)
theorem sw_ev {W : World} {n : String} {text : List UInt8} {l : List (String × DataW Unit)} {g : Nat} (hL : laidMet Tryd.prog ((n, .iface "*errors.errorString" (.ptr (.agg [.lit (.string text)]))) :: l) W) (hg : Tryd.prog.globalNamed n = some g) (ht : (Tryd.prog.globals[g]?).map (·.type) = some 81) : EvAt W g := by
  obtain ⟨a, s, hv, -, -, -⟩ := laid_sentinel hL hg ht Tryd.underlying81 sw_row Tryd.underlying152 Tryd.underlying154 rfl rfl Tryd.underlying9 (by kernel_rfl) (by kernel_rfl)
  have h := World.var?_cell hg hv 0
  exact ⟨_, h.trans rfl, .inr ⟨_, _, rfl⟩⟩
end Go.Proofs.YtoejflnlkapkiaaDoor
/- script.Parse of any text: the walk. -/
namespace Go.Proofs.YtoejflnlkapkiaaDoor
open Go.ChangeShapes Go.WideShapes Go.ChangeAt Go.RowKit
set_option linter.unusedVariables false
set_option linter.unusedSimpArgs false
theorem ScS.below {B b : Nat} {w w' : World} {s : Sc} (h : ScS B b w s) (hb : Below w.heap.size w w') : ScS B b w' s := by
  obtain ⟨cv, pv, tv, us, ul, L, h⟩ := h
  exact ⟨cv, pv, tv, us, ul, L, h.below hb⟩
theorem ParseOk.err {t : ByteArray} {W w : World} {n : Nat} {x0 x1 x2 x3 x4 : Value} (h : prsN t (t.size + 1) 0 0 Sc.zero = .error n) (hb : Below W.heap.size W w) :
    ParseOk t W (.returned (.tuple #[zeroSc, .int .i64 (n : Int), .int .i64 10])) (((((w.setCell ⟨W.heap.size, 0, none⟩ x0).setCell ⟨W.heap.size, 1, none⟩ x1).setCell ⟨W.heap.size, 2, none⟩ x2).setCell ⟨W.heap.size, 3, none⟩ x3).setCell ⟨W.heap.size, 4, none⟩ x4) :=
  ⟨s5_below hb (Nat.le_refl _), by rw [h]⟩
theorem ParseOk.good {t : ByteArray} {W w : World} {s : Sc} {cv : Value} {pp tp : Option Addr} {pk tk : Nat} {us : List Value} {ul : Value} {L : List (Cl × Value)} {x0 x1 x2 x3 x4 : Value} (h : prsN t (t.size + 1) 0 0 Sc.zero = .ok s) (hb : Below W.heap.size W w)
    (hS : ScB (W.heap.size + 1) W.heap.size w s cv (.slice pp s.ps.length pk) (.slice tp s.ts.length tk) us ul L) :
    ParseOk t W (.returned (.tuple #[.agg #[.int .i64 s.st, .int .i64 s.rm, cv, .slice pp s.ps.length pk, .slice tp s.ts.length tk], .int .i64 0, .int .i64 0])) (((((w.setCell ⟨W.heap.size, 0, none⟩ x0).setCell ⟨W.heap.size, 1, none⟩ x1).setCell ⟨W.heap.size, 2, none⟩ x2).setCell ⟨W.heap.size, 3, none⟩ x3).setCell ⟨W.heap.size, 4, none⟩ x4) := by
  have hn : ¬ (W.heap.size + 1 ≤ W.heap.size) := by omega
  have he : Ex (fun t => W.heap.size + 1 ≤ t) w (((((w.setCell ⟨W.heap.size, 0, none⟩ x0).setCell ⟨W.heap.size, 1, none⟩ x1).setCell ⟨W.heap.size, 2, none⟩ x2).setCell ⟨W.heap.size, 3, none⟩ x3).setCell ⟨W.heap.size, 4, none⟩ x4) :=
    ((((Ex.set hn).trans (Ex.set hn)).trans (Ex.set hn)).trans (Ex.set hn)).trans (Ex.set hn)
  have hk : Ex (KS (W.heap.size + 1) cv ul) w _ := he.mono (fun _ _ h => h.1)
  obtain ⟨p1, k1, e1, h1, -⟩ := hS.p.keep hk
  obtain ⟨p2, k2, e2, h2, -⟩ := hS.t.keep hk
  simp only [Value.slice.injEq] at e1 e2
  obtain ⟨rfl, -, -⟩ := e1
  obtain ⟨rfl, -, -⟩ := e2
  exact ⟨s5_below hb (Nat.le_refl _), by rw [h]; exact ⟨_, _, _, _, _, rfl, (hS.m.keep he).rowCC, h1, h2, hS.r.1, hS.r.2⟩⟩
set_option maxRecDepth 100000 in
set_option maxHeartbeats 16000000 in
theorem sc_parse (t : ByteArray) (ht : t.size ≤ 800000) (W : World) (hm : MaxAt W) (h1 : 1 < W.heap.size) (hE : Evs W) (hT : Lib.TabIs Tryd.prog W "internal/strconv.uint64pow10" .u64 Lib.pow10Tab) :
    Calls Tryd.prog 12 #[.string t] W (ParseOk t W) := by
  have d1 : decide ((1048576 : Int) < (t.size : Int)) = false := decide_eq_false (by omega)
  have d1' : decide (1048576 < t.size) = false := decide_eq_false (by omega)
  obtain ⟨w0, hw0, r0, hB0, hs0⟩ := boxG W #[.int .i64 0, .int .i64 0, .slice none 0 0, .slice none 0 0, .slice none 0 0] 25
  have HS0 := Lib.hid (show ScS (W.heap.size + 1) W.heap.size w0 Sc.zero from ⟨_, _, _, _, _, _, r0, by omega, by omega, ScM.nil _ _, PK.nil _ _, PK.nil _ _, ⟨⟨by decide, by decide⟩, ⟨by decide, by decide⟩⟩⟩)
  have HB0 := Lib.hid hB0
  have HTS := Lib.hid ht
  have HM := Lib.hid (fun w (hb : Below W.heap.size W w) => hm.below hb h1)
  have H1 := Lib.hid h1
  have HE := Lib.hid hE
  have HT_ := Lib.hid hT
  obtain ⟨F, hF⟩ : ∃ F, t.size + 1 = F := ⟨_, rfl⟩
  obtain ⟨R, hR⟩ : ∃ R, prsN t (t.size + 1) 0 0 Sc.zero = R := ⟨_, rfl⟩
  have HF := Lib.hid hF
  have HR := Lib.hid hR
  have HP0 := Lib.hid (show prsN t (F - 0) 0 0 Sc.zero = R by rw [← hF]; exact hR)
  clear r0 hB0 hs0 ht hm h1 hE hT hF hR
  go_enter Tryd.func12, Tryd.ntmps12
  go_wp2_with fail
  go_loopw [3, 5, 6, 7, 8] (fun ln j _ _ _ wr => ∃ (n a : Nat) (s : Sc), ln = .int .i64 n ∧ j = .int .i64 a ∧ Hid (a ≤ t.size ∧ n ≤ a) ∧ Hid (prsN t (F - n) n a s = R) ∧ Hid (ScS (W.heap.size + 1) W.heap.size wr s) ∧ Hid (SzN n s) ∧ Hid (Below W.heap.size W wr)) (fun _ j _ _ _ _ => t.size + 1 - (intOf j).toNat)
  case atStart => exact ⟨0, 0, Sc.zero, rfl, rfl, Lib.hid ⟨Nat.zero_le _, Nat.le_refl _⟩, HP0, HS0, Lib.hid ⟨Nat.le_refl _, fun l hl => (by cases hl)⟩, HB0⟩
  case round =>
    obtain ⟨n, a, s, rfl, rfl, HA, HP, HS, HZ, HB⟩ := hrel
    obtain ⟨x1, rfl⟩ : ∃ w, w = wr := ⟨_, rfl⟩
    by_cases hend : a = t.size ∧ 3 ≤ n
    · obtain ⟨rfl, hn3⟩ := hend
      have HFIN := Lib.hid (show R = .ok s by
        have h := HP.out
        have h2 := HA.out.2
        have e : F - n = (t.size - n) + 1 := by have := HF.out; omega
        rw [e, prsN_end rfl hn3] at h
        exact h.symm)
      have hlt : decide ((t.size : Int) < (t.size : Int)) = false := decide_eq_false (by omega)
      have hlt3 : decide ((n : Int) < 3) = false := decide_eq_false (by omega)
      obtain ⟨cv, pv, tv, us, ul, L, hS⟩ := HS.out
      obtain ⟨m0, m1, m2, m3, m4⟩ := sc_cells5 hS.box
      obtain ⟨f0, f1, f2, f3, f4⟩ := frz5 hS.box
      obtain ⟨pp, pk, rfl, hp, -⟩ := hS.p
      obtain ⟨tp, tk, rfl, htr, -⟩ := hS.t
      obtain ⟨pc, kc, hcv⟩ : ∃ pc kc, cv = .slice pc s.cs.length kc := by
        rcases own_form hS.m.own with ⟨rfl, h0, -⟩ | ⟨g', c', rfl, -⟩
        · exact ⟨none, 0, by rw [h0]⟩
        · exact ⟨_, _, rfl⟩
      subst hcv
      have HSS := Lib.hid hS
      clear hS hn3 hp htr
      go_wp2_with fail
      refine bodyPost_ret (sc_res3 (p := 2) (a := 3) (b := 4) (ty := 25) rfl _ _ W.heap.size 25 #[.int .i64 s.st, .int .i64 s.rm, .slice pc s.cs.length kc, .slice pp s.ps.length pk, .slice tp s.ts.length tk] (0, 0) _ (.int .i64 0) (.int .i64 0) rfl rfl rfl (s5_row HSS.out.box) Tryd.underlying25 rfl (by kernel_rfl)) rfl ?_
      exact ParseOk.good (HR.out.trans HFIN.out) HB.out HSS.out
    · have hcond : (decide (a < t.size) = true ∧ decide ((a : Int) < (t.size : Int)) = true) ∨ (decide (a < t.size) = false ∧ decide ((a : Int) < (t.size : Int)) = false ∧ decide (n < 3) = true ∧ decide ((n : Int) < 3) = true) := by
        by_cases h : a < t.size
        · exact .inl ⟨decide_eq_true h, decide_eq_true (by omega)⟩
        · exact .inr ⟨decide_eq_false h, decide_eq_false (by omega), decide_eq_true (by have := HA.out; omega), decide_eq_true (by have := HA.out; omega)⟩
      have HEND := Lib.hid hend
      have WN := Lib.hid (show wrap64 ((n : Int) + 1) = ((n + 1 : Nat) : Int) by have h1 := HA.out; have h2 := HTS.out; simp only [wrap64]; omega)
      have WD := Lib.hid (sc_wordsAt t (by have := HTS.out; omega) (a : Int) (by have h1 := HA.out; have h2 := HTS.out; omega) x1 (HM.out x1 HB.out) (Nat.lt_of_lt_of_le H1.out HB.out.size))
      have HFF := Lib.hid (show F - n = (t.size - n) + 1 by have h1 := HA.out; have h2 := HF.out; omega)
      clear hend
      rcases hcond with ⟨hc1, hc1'⟩ | ⟨hc1, hc1', hc2, hc2'⟩
      all_goals
        go_upto_region 6 with fail
        rw [WN.out]
        go_wp2_with fail
        refine WD.out.mono ?_
        rintro e x2 ⟨hb2, hwd⟩
        have HB2 := Lib.hid (HB.out.trans (hb2.mono HB.out.size))
        have HS2 := Lib.hid (HS.out.below hb2)
        clear hb2
        rcases hwd with ⟨hnof, rfl⟩ | ⟨i, hfst, hwd⟩
        · have HFIN := Lib.hid (show prsN t (t.size + 1) 0 0 Sc.zero = .error (n + 1) by
            rw [HR.out, ← HP.out, HFF.out, prsN_line HEND.out (lineN_nof hnof)])
          obtain ⟨cv, pv, tv, us, ul, L, hS⟩ := HS2.out
          obtain ⟨m0, m1, m2, m3, m4⟩ := sc_cells5 hS.box
          obtain ⟨f0, f1, f2, f3, f4⟩ := frz5 hS.box
          have HSS := Lib.hid hS.box
          clear hS hnof
          go_wp2_with fail
          refine bodyPost_ret (sc_res3 (p := 2) (a := 3) (b := 4) (ty := 25) rfl _ _ W.heap.size 25 #[.int .i64 0, .int .i64 0, .slice none 0 0, .slice none 0 0, .slice none 0 0] (0, 0) _ (.int .i64 ((n + 1 : Nat) : Int)) (.int .i64 10) rfl rfl rfl (s5_row HSS.out) Tryd.underlying25 rfl (by kernel_rfl)) rfl ?_
          exact ParseOk.err HFIN.out HB2.out
        · rcases hwd with ⟨hw, rfl⟩ | ⟨l, v, hw, rfl, ho⟩
          · have HFIN := Lib.hid (show prsN t (t.size + 1) 0 0 Sc.zero = .error (n + 1) by
              rw [HR.out, ← HP.out, HFF.out, prsN_line HEND.out (lineN_bad hfst (by rw [Int.toNat_natCast] at hw; exact hw))])
            obtain ⟨cv, pv, tv, us, ul, L, hS⟩ := HS2.out
            obtain ⟨m0, m1, m2, m3, m4⟩ := sc_cells5 hS.box
            obtain ⟨f0, f1, f2, f3, f4⟩ := frz5 hS.box
            have HSS := Lib.hid hS.box
            clear hS hw hfst
            go_wp2_with fail
            refine bodyPost_ret (sc_res3 (p := 2) (a := 3) (b := 4) (ty := 25) rfl _ _ W.heap.size 25 #[.int .i64 0, .int .i64 0, .slice none 0 0, .slice none 0 0, .slice none 0 0] (0, 0) _ (.int .i64 ((n + 1 : Nat) : Int)) (.int .i64 10) rfl rfl rfl (s5_row HSS.out) Tryd.underlying25 rfl (by kernel_rfl)) rfl ?_
            exact ParseOk.err HFIN.out HB2.out
          · rw [Int.toNat_natCast] at hw
            by_cases hl0 : l = []
            · have HFIN := Lib.hid (show prsN t (t.size + 1) 0 0 Sc.zero = .error (n + 1) by
                rw [HR.out, ← HP.out, HFF.out, prsN_line HEND.out (by rw [lineN_wds hfst hw, hl0]; rfl)])
              have hd : decide (0 < l.length) = false := by rw [hl0]; rfl
              obtain ⟨cv, pv, tv, us, ul, L, hS⟩ := HS2.out
              obtain ⟨m0, m1, m2, m3, m4⟩ := sc_cells5 hS.box
              obtain ⟨f0, f1, f2, f3, f4⟩ := frz5 hS.box
              have HSS := Lib.hid hS.box
              clear hS hw hfst ho hl0
              rw [hd]
              go_wp2_with fail
              refine bodyPost_ret (sc_res3 (p := 2) (a := 3) (b := 4) (ty := 25) rfl _ _ W.heap.size 25 #[.int .i64 0, .int .i64 0, .slice none 0 0, .slice none 0 0, .slice none 0 0] (0, 0) _ (.int .i64 ((n + 1 : Nat) : Int)) (.int .i64 10) rfl rfl rfl (s5_row HSS.out) Tryd.underlying25 rfl (by kernel_rfl)) rfl ?_
              exact ParseOk.err HFIN.out HB2.out
            · have hpos := List.length_pos_iff.2 hl0
              have hd : decide (0 < l.length) = true := decide_eq_true hpos
              have HLN := Lib.hid (show lineN t a = some (l, i + 1) by rw [lineN_wds hfst hw]; cases l with | nil => exact absurd rfl hl0 | cons w ws => rfl)
              have hi : a ≤ i ∧ i < t.size := ⟨by have := hfst.2.1; omega, hfst.2.2.1⟩
              have HI := Lib.hid hi
              have hel := ext_len t a i
              have AD := Lib.hid (sc_add (W.heap.size + 1) W.heap.size s (n + 1) (by omega) v l hl0 x2 HS2.out (rowS_own ho) (by have h1 := (wds_len hw).1; have h2 := HTS.out; omega) (fun z hz => by have h1 := (wds_len hw).2 z hz; have h2 := HTS.out; omega) ⟨Nat.le_trans HZ.out.1 (by have h1 := HA.out; have h2 := HTS.out; omega), fun z hz => Nat.le_trans (HZ.out.2 z hz) (by have h1 := HA.out; have h2 := HTS.out; omega)⟩ (HE.out.below HB2.out) (pow10_bel HT_.out HB2.out))
              clear hw hfst ho hl0 hpos hi hel
              rw [hd]
              go_wp2_with fail
              refine AD.out.mono ?_
              rintro e x3 ⟨had, hb3⟩
              have HB3 := Lib.hid (HB2.out.trans hb3)
              clear hb3
              rcases had with ⟨s', hs', rfl, hS'⟩ | ⟨hs', rfl, y0, y1, y2, y3, y4, hbx⟩
              · have HS3 := Lib.hid hS'
                have HZ3 := Lib.hid (HZ.out.step hs')
                have HP3 := Lib.hid (show prsN t (F - (n + 1)) (n + 1) (i + 1) s' = R by
                  have e : F - (n + 1) = t.size - n := by have := HF.out; omega
                  rw [e, ← HP.out, HFF.out, prsN_step HEND.out HLN.out hs'])
                clear hS' hs'
                go_wp2_with fail
                go_roundw
                case rel => exact ⟨n + 1, i + 1, s', rfl, by simp, Lib.hid (by have h1 := HI.out; have h2 := HA.out; omega), HP3, HS3, HZ3, HB3⟩
                case measure => have h1 := HI.out; have h2 := HA.out; simp only [intOf]; omega
              · have HFIN := Lib.hid (show prsN t (t.size + 1) 0 0 Sc.zero = .error (n + 1) by
                  rw [HR.out, ← HP.out, HFF.out, prsN_bad HEND.out HLN.out hs'])
                have HSS := Lib.hid hbx
                obtain ⟨m0, m1, m2, m3, m4⟩ := sc_cells5 hbx
                obtain ⟨f0, f1, f2, f3, f4⟩ := frz5 hbx
                clear hbx hs'
                go_wp2_with fail
                refine bodyPost_ret (sc_res3 (p := 2) (a := 3) (b := 4) (ty := 25) rfl _ _ W.heap.size 25 #[.int .i64 0, .int .i64 0, .slice none 0 0, .slice none 0 0, .slice none 0 0] (0, 0) _ (.int .i64 ((n + 1 : Nat) : Int)) (.int .i64 10) rfl rfl rfl (s5_row HSS.out) Tryd.underlying25 rfl (by kernel_rfl)) rfl ?_
                exact ParseOk.err HFIN.out HB3.out
end Go.Proofs.YtoejflnlkapkiaaDoor
/- script.Print of a call that is of no kind. -/
namespace Go.Proofs.YtoejflnlkapkiaaDoor
open Go.ChangeShapes Go.WideShapes Go.ChangeAt Go.RowKit
set_option linter.unusedVariables false
set_option linter.unusedSimpArgs false
set_option maxRecDepth 100000 in
set_option maxHeartbeats 16000000 in
theorem sc_print_none (st rm : Int) (cv : Value) (cs : List (List Cl)) (pp : Option Addr) (pn pk : Nat) (tp : Option Addr) (tn tk : Nat) (W : World)
    (hC : RowCC W cv cs) (hcl : cs.length ≤ 1000000) (hcc : ∀ l ∈ cs, l.length ≤ 1000000)
    (hk : ∃ l ∈ cs, ∃ c ∈ l, (wdK c.kd).data.toList = []) :
    Calls Tryd.prog 9 #[.agg #[.int .i64 st, .int .i64 rm, cv, .slice pp pn pk, .slice tp tn tk]] W fun e w' => e = .returned (.tuple #[.string ⟨#[]⟩, .int .i64 2]) ∧ Below W.heap.size W w' := by
  obtain ⟨cp, cc, rfl, -⟩ := id hC
  obtain ⟨w0, hw0, r0, hB0, hs0⟩ := boxG W #[.int .i64 st, .int .i64 rm, .slice cp cs.length cc, .slice pp pn pk, .slice tp tn tk] 25
  have HR0 := Lib.hid r0
  have HC := Lib.hid (hC.below hB0)
  have HB0 := Lib.hid hB0
  have HS0 := Lib.hid hs0
  have HK := Lib.hid hk
  have HN := Lib.hid (And.intro hcl hcl)
  have HCC := Lib.hid hcc
  have c0 : w0.cell? ⟨W.heap.size, 0, none⟩ = some (.int .i64 st) := by rw [cell_of_row _ _ _ _ _ _ r0]; rfl
  have c1 : w0.cell? ⟨W.heap.size, 1, none⟩ = some (.int .i64 rm) := by rw [cell_of_row _ _ _ _ _ _ r0]; rfl
  have c2 : w0.cell? ⟨W.heap.size, 2, none⟩ = some (.slice cp cs.length cc) := by rw [cell_of_row _ _ _ _ _ _ r0]; rfl
  have c3 : w0.cell? ⟨W.heap.size, 3, none⟩ = some (.slice pp pn pk) := by rw [cell_of_row _ _ _ _ _ _ r0]; rfl
  have c4 : w0.cell? ⟨W.heap.size, 4, none⟩ = some (.slice tp tn tk) := by rw [cell_of_row _ _ _ _ _ _ r0]; rfl
  have HC0 := Lib.hid c0
  have HC1 := Lib.hid c1
  have HC2 := Lib.hid c2
  have HC3 := Lib.hid c3
  have HC4 := Lib.hid c4
  have WDK := Lib.hid (fun (k : Int) (w : World) => sc_word k w)
  clear c0 c1 c3 c4 hC hk hcl hcc r0 hB0 hs0
  go_enter Tryd.func9, Tryd.ntmps9
  go_wp2_with fail
  go_loopw [5, 7, 16, 22] (fun _ _ x _ wr => ∃ i : Nat, x = .int .i64 i ∧ Hid (i ≤ cs.length) ∧ Hid (∀ l ∈ cs.take i, ∀ c ∈ l, (wdK c.kd).data.toList ≠ []) ∧ Hid (Below w0.heap.size w0 wr)) (fun _ _ x _ _ => cs.length - (intOf x).toNat)
  case atStart => exact ⟨0, rfl, Lib.hid (Nat.zero_le _), Lib.hid (by intro l hl; simp at hl), Lib.hid (Below.refl _ _)⟩
  case round =>
    obtain ⟨i, rfl, HI, HALL, HB⟩ := hrel
    obtain ⟨x1, rfl⟩ : ∃ w, w = wr := ⟨_, rfl⟩
    by_cases hi : i < cs.length
    · obtain ⟨l, hl⟩ : ∃ l, cs[i]? = some l := ⟨_, List.getElem?_eq_getElem hi⟩
      have hBx : Below w0.heap.size w0 x1 := HB.out
      obtain ⟨p', c', he, hx⟩ := HC.out
      simp only [Value.slice.injEq] at he
      obtain ⟨rfl, -, rfl⟩ := he
      rcases hx with hx | ⟨b, o, rfl, hb, hx⟩
      · rw [hx] at hi; cases hi
      obtain ⟨u, hu0, hrow⟩ := hx i l hl
      have hu : x1.cell? ⟨b, o + i, none⟩ = some u := (hBx.cell (p := ⟨b, o + i, none⟩) hb).trans hu0
      obtain ⟨up, uc, rfl, -⟩ := id hrow
      have HROW := Lib.hid hrow
      have HL := Lib.hid hl
      have HIL := Lib.hid hi
      have hii : (i : Int) < (cs.length : Int) := by omega
      have hi0 : (0 : Int) ≤ (i : Int) := by omega
      have WI := Lib.hid (show wrap64 ((i : Int) + 1) = ((i + 1 : Nat) : Int) by have := HN.out.1; simp only [wrap64]; omega)
      have HLN := Lib.hid (HCC.out l (List.mem_of_getElem? hl))
      clear hi hl hx hrow hb hBx hu0
      go_wp2_with fail
      go_loopw [7, 22] (fun _ y wr => ∃ k : Nat, y = .int .i64 k ∧ Hid (k ≤ l.length) ∧ Hid (∀ c ∈ l.take k, (wdK c.kd).data.toList ≠ []) ∧ Hid (Below w0.heap.size w0 wr)) (fun _ y _ => l.length - (intOf y).toNat)
      case atStart => exact ⟨0, rfl, Lib.hid (Nat.zero_le _), Lib.hid (by intro c hc; simp at hc), HB⟩
      case round =>
        obtain ⟨k, rfl, HKK, HALK, HB2⟩ := hrel
        obtain ⟨x2, rfl⟩ : ∃ w, w = wr := ⟨_, rfl⟩
        by_cases hk : k < l.length
        · obtain ⟨c, hc⟩ : ∃ c, l[k]? = some c := ⟨_, List.getElem?_eq_getElem hk⟩
          have hBx : Below w0.heap.size w0 x2 := HB2.out
          obtain ⟨p', c', he, hx⟩ := HROW.out.below hBx
          simp only [Value.slice.injEq] at he
          obtain ⟨rfl, -, rfl⟩ := he
          rcases hx with hx | ⟨b', o', rfl, hb', hx⟩
          · rw [hx] at hk; cases hk
          obtain ⟨hok, d0, d1, d2, d3, d4, d5, xv, d6, hrx⟩ := hx k c hc
          obtain ⟨xp, xk, rfl, -⟩ := id hrx
          have HKL := Lib.hid hk
          have hkk : (k : Int) < (l.length : Int) := by omega
          have hk0 : (0 : Int) ≤ (k : Int) := by omega
          have WK := Lib.hid (show wrap64 ((k : Int) + 1) = ((k + 1 : Nat) : Int) by have := HLN.out; simp only [wrap64]; omega)
          have HBZ := Lib.hid hBx.size
          by_cases hz : (wdK c.kd).data.toList = []
          · have hne : (wdK c.kd).toList.isEmpty = true := by rw [sc_str_nil]; exact decide_eq_true hz
            have HBF := Lib.hid (HB0.out.trans ((HB2.out.alloc HBZ.out (.cells #[.int .i64 c.kd, .int .i64 c.n, .int .i64 c.dir, .string c.s, .int .i64 c.who, .int .i64 c.at', .slice xp c.xs.length xk] 49)).mono HB0.out.size))
            obtain ⟨kd, ca, cb, cs', cw, ct, cx⟩ := c
            simp only at d0 d1 d2 d3 d4 d5 d6 hne
            clear hk hc hBx hx hb' hrx hok hz
            go_wp2_with fail
            refine (WDK.out _ _).mono ?_
            rintro e x3 ⟨rfl, rfl⟩
            go_wp2_with fail
            go_ret2
            exact ⟨rfl, HBF.out⟩
          · have hne := sc_no_nil hz
            have HAL2 := Lib.hid (show ∀ c ∈ l.take (k + 1), (wdK c.kd).data.toList ≠ [] from by
              intro c2 hc2
              rw [List.take_add_one, hc, List.mem_append] at hc2
              rcases hc2 with hc2 | hc2
              · exact HALK.out c2 hc2
              · simp only [Option.toList_some, List.mem_singleton] at hc2
                rw [hc2]; exact hz)
            obtain ⟨kd, ca, cb, cs', cw, ct, cx⟩ := c
            simp only at d0 d1 d2 d3 d4 d5 d6 hne
            clear hk hc hBx hx hb' hrx hok hz
            go_wp2_with fail
            refine (WDK.out _ _).mono ?_
            rintro e x3 ⟨rfl, rfl⟩
            go_wp2_with fail
            go_roundw
            case rel => exact ⟨k + 1, by first | rw [WK.out] | simp, Lib.hid HKL.out, HAL2, Lib.hid (HB2.out.alloc HBZ.out _)⟩
            case measure => first | exact sc_meas' l.length k HKL.out | (rw [WK.out]; exact sc_meas l.length k HKL.out)
        · have h9 : k = l.length := by have := HKK.out; omega
          subst h9
          have hkk : ¬ (l.length : Int) < (l.length : Int) := by omega
          have HAL3 := Lib.hid (show ∀ l ∈ cs.take (i + 1), ∀ c ∈ l, (wdK c.kd).data.toList ≠ [] from by
            intro l2 hl2
            rw [List.take_add_one, HL.out, List.mem_append] at hl2
            rcases hl2 with hl2 | hl2
            · exact HALL.out l2 hl2
            · simp only [Option.toList_some, List.mem_singleton] at hl2
              rw [hl2]
              have h := HALK.out
              rwa [List.take_length] at h)
          go_wp2_with fail
          go_roundw
          case rel => exact ⟨i + 1, by first | rw [WI.out] | simp, Lib.hid HIL.out, HAL3, HB2⟩
          case measure => first | exact sc_meas' cs.length i HIL.out | (rw [WI.out]; exact sc_meas cs.length i HIL.out)
    · have h9 : i = cs.length := by have := HI.out; omega
      exfalso
      obtain ⟨l, hl, c, hc, hz⟩ := HK.out
      have h := HALL.out
      rw [h9, List.take_length] at h
      exact h l hl c hc hz
end Go.Proofs.YtoejflnlkapkiaaDoor
/- A contract over a listed variable that is handed the world's shape, too; bytealg.MaxLen holds some int. -/
namespace Go.Proofs.YtoejflnlkapkiaaDoor
open Go.ChangeShapes Go.WideShapes Go.ChangeAt Go.RowKit
variable {H : Type} {enc : TypeId × Value → H}

theorem returns_listed_shaped {a : Assume} {C : Checked} {os : Os} {f : FuncId} {fn : Func} {s : ChangeSpec} {conds : List PathCond} {apart fresh handsOn again : Bool} {X : World → Array Value → Prop}
    (hX : ∀ (w w' : World) (args : Array Value), w.heap = w'.heap → X w args → X w' args)
    (own : ownKnob C.prog.godebug = none) (started : os.Started) (noInit : C.prog.inits.idxOf? f = none) (hfn : C.prog.funcs[f]? = some fn)
    (witness : ∃ (w : World) (tape : Tape) (i : Input), w.os = os ∧ (w.forCall tape i).Shaped C.prog ∧ i.vars = [] ∧ Input.okWide C.prog (w.forCall tape i) .any w.heap.size f i ∧
      ((s.pre enc C.prog fn conds apart (w.forCall tape i).memory i.args ∧ X (w.forCall tape i).memory i.args) ∧ sizedMet enc C.prog fn (OpenSpec.ofChange s) apart (w.forCall tape i).memory i.args) ∧ a.holds C.prog (lone (Frame.enter C.prog f i.args .normal) [] (w.forCall tape i)))
    (contract : ∀ (W : World) (base : Nat) (args : Array Value) (ds gs : List (DataW H)) (before : List MemPlace),
      (∀ (j : Nat) t v, fn.params[j]? = some t → args[j]? = some v → Value.okWide C.prog W .any base t v) →
      DataW.Whole enc C.prog fn.params.toList s.vars apart W args.toList ds gs before → X W args → W.ShapedOpen C.prog →
      Calls C.prog f args W fun e W' => ∃ v, e = .returned v ∧ s.post enc C.prog fn apart fresh handsOn again W args v W') :
    ReturnsInHanded a C os f .any (fun w args => (s.pre enc C.prog fn conds apart w args ∧ X w args) ∧ sizedMet enc C.prog fn (OpenSpec.ofChange s) apart w args) (s.post enc C.prog fn apart fresh handsOn again) := by
  refine returnsInHanded_of_calls own started noInit witness ?_
  intro w tape i _ hsh _ hok hpre _
  obtain ⟨_, _, _, fn', hfn', _, _, _, _, hval⟩ := hok
  obtain rfl : fn' = fn := Option.some.inj (hfn'.symm.trans hfn)
  obtain ⟨⟨⟨ds, gs, before, hw, _⟩, hx⟩, _⟩ := hpre
  refine (contract (w.forCall tape i) w.heap.size i.args ds gs before hval (DataW.Whole.of_heap (w' := w.forCall tape i) (by rfl) hw) (hX _ _ _ (by rfl) hx) hsh).mono fun e W' ⟨v, he, hp⟩ => ?_
  subst he
  exact ChangeSpec.post_blind hp

theorem max_int {W : World} (h : W.ShapedOpen Tryd.prog) : ∃ m, W.cell? ⟨1, 0, none⟩ = some (.int .i64 m) :=
  cell_of_shapedOpen_int (t := 3) (zero := #[.int .i64 0]) h (of_decide_eq_true (by kernel_rfl)) (by kernel_rfl) rfl (by kernel_rfl) (by kernel_rfl) Tryd.underlying3

end Go.Proofs.YtoejflnlkapkiaaDoor
