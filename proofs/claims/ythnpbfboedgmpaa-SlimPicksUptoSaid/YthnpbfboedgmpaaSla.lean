/- Rows of calls that are made and filled: dup.Call, dup.Each at calls. -/
import Derived.Test.YthnpbfboedgmpaaSlk
import Derived.Laws.MakeOwn
import Derived.Lib.SliceRun
namespace Go.Proofs.Ythnpbfboedgmpaa
open Go.ChangeShapes Go.WideShapes Go.ChangeAt Go.RowKit
set_option linter.unusedVariables false
set_option linter.unusedSimpArgs false
theorem info_callM : (Try.prog.info? 50).map (fun i => (i.zero.isSome, i.size, i.bytes)) = some (true, 7, 80) := by kernel_rfl
theorem make_call (n : Nat) (hn : n ≤ 100000000) (w : World) : ∃ cur : Array Value, cur.size = n * 7 ∧
    (Instr.makeSlice 42 (.int .i64 (n : Int)) (.int .i64 (n : Int))).run Try.prog w = .ok (.slice (some ⟨w.heap.size, 0, none⟩) n n) (w.alloc (.cells cur 50)) := by
  have hI := info_callM
  obtain ⟨i, hi⟩ : ∃ i, Try.prog.info? 50 = some i := by
    cases h0 : Try.prog.info? 50 with
    | none => rw [h0] at hI; cases hI
    | some i => exact ⟨i, rfl⟩
  rw [hi] at hI
  simp only [Option.map_some, Option.some.injEq, Prod.mk.injEq] at hI
  obtain ⟨hz, hs, hb⟩ := hI
  obtain ⟨z, hz⟩ := Option.isSome_iff_exists.1 hz
  refine ⟨madeCells z.cells (n * 7), size_madeCells _ _, ?_⟩
  rw [run_make w 42 50 i z Try.underlying42 hi hz .i64 .i64 (n : Int) (n : Int) (by omega) (by omega) (by rw [hb]; omega) (by omega), hs, Int.toNat_natCast]
theorem rowcells7 {w : World} {g b : Nat} {cur : Array Value} {T : TypeId} (h : w.heap[g]? = some (.cells cur T (0, 0))) (hb : b + 7 ≤ cur.size) : ∃ u0 u1 u2 u3 u4 u5 u6,
    (w.cell? ⟨g, b, none⟩ = some u0 ∧ w.cell? ⟨g, b + 1, none⟩ = some u1 ∧ w.cell? ⟨g, b + 2, none⟩ = some u2 ∧ w.cell? ⟨g, b + 3, none⟩ = some u3 ∧ w.cell? ⟨g, b + 4, none⟩ = some u4 ∧ w.cell? ⟨g, b + 5, none⟩ = some u5 ∧ w.cell? ⟨g, b + 6, none⟩ = some u6) ∧
    (w.frozen? ⟨g, b, none⟩ = false ∧ w.frozen? ⟨g, b + 1, none⟩ = false ∧ w.frozen? ⟨g, b + 2, none⟩ = false ∧ w.frozen? ⟨g, b + 3, none⟩ = false ∧ w.frozen? ⟨g, b + 4, none⟩ = false ∧ w.frozen? ⟨g, b + 5, none⟩ = false ∧ w.frozen? ⟨g, b + 6, none⟩ = false) := by
  have hc : ∀ i, i < 7 → w.cell? ⟨g, b + i, none⟩ = some (cur[b + i]!) := fun i hi => by
    rw [cell_of_row _ _ _ _ _ _ h, getElem!_pos cur (b + i) (by omega)]
    exact Array.getElem?_eq_getElem (by omega)
  exact ⟨_, _, _, _, _, _, _, ⟨hc 0 (by omega), hc 1 (by omega), hc 2 (by omega), hc 3 (by omega), hc 4 (by omega), hc 5 (by omega), hc 6 (by omega)⟩, frozen_of_row _ _ _ _ _ h, frozen_of_row _ _ _ _ _ h, frozen_of_row _ _ _ _ _ h, frozen_of_row _ _ _ _ _ h, frozen_of_row _ _ _ _ _ h, frozen_of_row _ _ _ _ _ h, frozen_of_row _ _ _ _ _ h⟩
/-- The first k calls are filled in. -/
def EC (w : World) (g : Nat) (l : List Cl) (k : Nat) : Prop := ∃ cur : Array Value, w.heap[g]? = some (.cells cur 50 (0, 0)) ∧ cur.size = l.length * 7 ∧
  ∀ (j : Nat) c, j < k → l[j]? = some c → ∃ x, XK (fun t => g < t) w x c.xs ∧ ∀ i, i < 7 → cur[j * 7 + i]? = (clCells c x)[i]?
theorem EC.keep {w w' : World} {g k : Nat} {l : List Cl} (h : EC w g l k) (he : Ex (fun t => g ≤ t) w w') : EC w' g l k := by
  obtain ⟨cur, hr, hs, hc⟩ := h
  have hg : g < w.heap.size := (Array.getElem?_eq_some_iff.1 hr).1
  refine ⟨cur, (he.2 g hg (Nat.le_refl _)).trans hr, hs, fun j c hj hl => ?_⟩
  obtain ⟨x, hx, hi⟩ := hc j c hj hl
  exact ⟨x, hx.keep (he.mono (fun t _ (ht : g < t) => Nat.le_of_lt ht)), hi⟩
theorem EC.below {w w' : World} {g k : Nat} {l : List Cl} (h : EC w g l k) (hb : Below w.heap.size w w') : EC w' g l k := h.keep (Ex.of_below hb)
theorem EC.lt {w : World} {g k : Nat} {l : List Cl} (h : EC w g l k) : g < w.heap.size := by
  obtain ⟨cur, hr, -⟩ := h
  exact (Array.getElem?_eq_some_iff.1 hr).1
theorem set7_at {cur : Array Value} {b : Nat} (hb : b + 7 ≤ cur.size) (v0 v1 v2 v3 v4 v5 v6 : Value) (j : Nat) :
    (((((((cur.setIfInBounds b v0).setIfInBounds (b + 1) v1).setIfInBounds (b + 2) v2).setIfInBounds (b + 3) v3).setIfInBounds (b + 4) v4).setIfInBounds (b + 5) v5).setIfInBounds (b + 6) v6)[j]? =
      if b ≤ j ∧ j < b + 7 then ([v0, v1, v2, v3, v4, v5, v6] : List Value)[j - b]? else cur[j]? := by
  simp only [Array.getElem?_setIfInBounds, Array.size_setIfInBounds]
  by_cases h : b ≤ j ∧ j < b + 7
  · rw [if_pos h]
    obtain ⟨i, rfl⟩ : ∃ i, j = b + i := ⟨j - b, by omega⟩
    have hi : i = 0 ∨ i = 1 ∨ i = 2 ∨ i = 3 ∨ i = 4 ∨ i = 5 ∨ i = 6 := by omega
    have e : b + i - b = i := by omega
    rw [e]
    rcases hi with rfl | rfl | rfl | rfl | rfl | rfl | rfl <;> simp <;> omega
  · rw [if_neg h]
    have h0 : ¬ b = j := by omega
    have h1 : ¬ b + 1 = j := by omega
    have h2 : ¬ b + 2 = j := by omega
    have h3 : ¬ b + 3 = j := by omega
    have h4 : ¬ b + 4 = j := by omega
    have h5 : ¬ b + 5 = j := by omega
    have h6 : ¬ b + 6 = j := by omega
    simp only [h0, h1, h2, h3, h4, h5, h6, if_false]
theorem EC.step {w : World} {g k : Nat} {l : List Cl} {c : Cl} {x : Value} (h : EC w g l k) (hk : l[k]? = some c) (hx : XK (fun t => g < t) w x c.xs) :
    EC (((((((w.setCell ⟨g, k * 7, none⟩ (.int .i64 c.kd)).setCell ⟨g, k * 7 + 1, none⟩ (.int .i64 c.n)).setCell ⟨g, k * 7 + 2, none⟩ (.int .i64 c.dir)).setCell ⟨g, k * 7 + 3, none⟩ (.string c.s)).setCell ⟨g, k * 7 + 4, none⟩ (.int .i64 c.who)).setCell ⟨g, k * 7 + 5, none⟩ (.int .i64 c.at')).setCell ⟨g, k * 7 + 6, none⟩ x) g l (k + 1) := by
  obtain ⟨cur, hr, hs, hc⟩ := h
  obtain ⟨hkl, -⟩ := List.getElem?_eq_some_iff.1 hk
  have hbd : k * 7 + 7 ≤ cur.size := by omega
  have hn : ¬ (g < g) := Nat.lt_irrefl _
  have he : Ex (fun t => g < t) w _ := ((((((Ex.set (o := k * 7) (u := .int .i64 c.kd) hn).trans (Ex.set (o := k * 7 + 1) (u := .int .i64 c.n) hn)).trans (Ex.set (o := k * 7 + 2) (u := .int .i64 c.dir) hn)).trans (Ex.set (o := k * 7 + 3) (u := .string c.s) hn)).trans (Ex.set (o := k * 7 + 4) (u := .int .i64 c.who) hn)).trans (Ex.set (o := k * 7 + 5) (u := .int .i64 c.at') hn)).trans (Ex.set (o := k * 7 + 6) (u := x) hn)
  refine ⟨_, row_setC (row_setC (row_setC (row_setC (row_setC (row_setC (row_setC hr _) _) _) _) _) _) _, by simp only [Array.size_setIfInBounds]; exact hs, fun j d hj hl => ?_⟩
  by_cases hjk : j = k
  · subst hjk
    rw [hk] at hl
    obtain rfl := Option.some.inj hl
    refine ⟨x, hx.keep he, fun i hi => ?_⟩
    rw [set7_at hbd, if_pos (by omega)]
    have e : j * 7 + i - j * 7 = i := by omega
    rw [e]; rfl
  · obtain ⟨y, hy, hyi⟩ := hc j d (by omega) hl
    refine ⟨y, hy.keep he, fun i hi => ?_⟩
    rw [set7_at hbd, if_neg (by omega)]
    exact hyi i hi
theorem EC.rck {w : World} {g : Nat} {l : List Cl} (h : EC w g l l.length) (hok : ∀ c ∈ l, c.ok) : RCK (fun t => g ≤ t) w (.slice (some ⟨g, 0, none⟩) l.length l.length) l := by
  have hlt := h.lt
  obtain ⟨cur, hr, hs, hc⟩ := h
  refine ⟨_, _, rfl, .inr ⟨g, 0, rfl, hlt, Nat.le_refl _, fun j c hj => ?_⟩⟩
  obtain ⟨hjl, -⟩ := List.getElem?_eq_some_iff.1 hj
  obtain ⟨x, hx, hi⟩ := hc j c hjl hj
  have hcell : ∀ i u, i < 7 → (clCells c x)[i]? = some u → w.cell? ⟨g, 0 + j * 7 + i, none⟩ = some u := fun i u hi7 hu => by
    rw [cell_of_row _ _ _ _ _ _ hr, Nat.zero_add, hi i hi7]; exact hu
  exact ⟨hok c (List.mem_of_getElem? hj), hcell 0 _ (by omega) rfl, hcell 1 _ (by omega) rfl, hcell 2 _ (by omega) rfl, hcell 3 _ (by omega) rfl, hcell 4 _ (by omega) rfl, hcell 5 _ (by omega) rfl, x, hcell 6 _ (by omega) rfl, hx.mono (fun t _ (ht : g < t) => Nat.le_of_lt ht)⟩
set_option maxRecDepth 100000 in
set_option maxHeartbeats 4000000 in
theorem sc_clone2 (v : Value) (xs : List Int) (W : World) (h : RowX W v xs) (hn : xs.length ≤ 2000000) :
    Calls Try.prog 24 #[v] W fun e w' => ∃ v', e = .returned v' ∧ XK (fun t => W.heap.size ≤ t) w' v' xs ∧ Below W.heap.size W w' := by
  obtain ⟨p, k, rfl, hr⟩ := h
  cases p with
  | none =>
    have hx : xs = [] := by
      rcases hr.reads with h | ⟨b, o, h, -⟩
      · exact h
      · cases h
    subst hx
    have hq := Lib.run_eql_slice_nil (P := Try.prog) W 48 _ none 0 k 0 0 Try.underlying48
    go_enter Try.func24, Try.ntmps24
    go_wp2_with fail
    go_ret
    exact ⟨_, rfl, ⟨⟨none, 0, rfl, hr⟩, .inl rfl⟩, Below.refl _ _⟩
  | some ad =>
    have HR := Lib.hid hr
    clear hr
    have hq := Lib.run_eql_slice_nil (P := Try.prog) W 48 _ (some ad) xs.length k 0 0 Try.underlying48
    obtain ⟨w0, hw0, -, hB0, hs0⟩ := boxG W #[] 66
    have HO := Lib.hid (show Owns w0 W.heap.size 66 .u64 (.slice (some ⟨W.heap.size, 0, none⟩) 0 0) [] by rw [← hw0]; exact own_made0 W _ _ (Nat.le_refl _))
    have HB0 := Lib.hid hB0
    have HR0 := Lib.hid (HR.out.below hB0)
    have hz : W.heap.size ≤ w0.heap.size := by omega
    clear hB0 hs0
    by_cases hx : xs = []
    · subst hx
      simp only [List.length_nil] at hq
      go_enter Try.func24, Try.ntmps24
      go_wp2_with (at_builtin; refine append_none0 (T := 48) (E := 66) (k := .u64) Try.underlying48 info_u64 rfl _ _ rfl rfl rfl ?_)
      go_ret
      exact ⟨_, rfl, ⟨⟨_, _, rfl, ⟨rfl, .inl rfl, by simp, by decide⟩⟩, .inl rfl⟩, HB0.out⟩
    · have hne : 0 < xs.length := List.length_pos_iff.2 hx
      go_enter Try.func24, Try.ntmps24
      go_wp2_with (at_builtin; refine append_many (T := 48) (E := 66) (k := .u64) (zs := xs) Try.underlying48 info_u64 rfl _ _ rfl rfl HO.out rfl rfl HR0.out.reads hz (by simp; omega) hne ?_; intro v1 w1 hO1 hb1; have HO1 := Lib.hid hO1; have HB1 := Lib.hid hb1; clear hO1 hb1)
      go_ret
      obtain ⟨a1, c1, e1, hr1, -, -⟩ := HO1.out.shape
      exact ⟨_, rfl, ⟨⟨a1, c1, e1, ⟨rfl, hr1, HR.out.wf, HR.out.small⟩⟩, .inr fun b hb => (World.ownsRow.lt HO1.out b hb).1⟩, HB0.out.trans HB1.out⟩
end Go.Proofs.Ythnpbfboedgmpaa
