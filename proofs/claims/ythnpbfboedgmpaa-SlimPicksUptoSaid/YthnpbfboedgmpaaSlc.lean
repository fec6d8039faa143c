/- dup.Each of rows of calls; slim.Clone. -/
import Derived.Test.YthnpbfboedgmpaaSlb
namespace Go.Proofs.Ythnpbfboedgmpaa
open Go.ChangeShapes Go.WideShapes Go.ChangeAt Go.RowKit
set_option linter.unusedVariables false
set_option linter.unusedSimpArgs false
/-- Rows of rows of calls in blocks of a kind. -/
def RKK (K : Nat → Prop) (w : World) (v : Value) (cs : List (List Cl)) : Prop := ∃ p c, v = .slice p cs.length c ∧ (cs = [] ∨ ∃ b o, p = some ⟨b, o, none⟩ ∧ b < w.heap.size ∧ K b ∧ ∀ (j : Nat) l, cs[j]? = some l → ∃ u, w.cell? ⟨b, o + j, none⟩ = some u ∧ RCK K w u l)
theorem RKK.row {K : Nat → Prop} {w : World} {v : Value} {cs : List (List Cl)} (h : RKK K w v cs) : RowCC w v cs := by
  obtain ⟨p, c, rfl, h⟩ := h
  refine ⟨p, c, rfl, ?_⟩
  rcases h with h | ⟨b, o, hp, hl, -, h⟩
  · exact .inl h
  · refine .inr ⟨b, o, hp, hl, fun j l hj => ?_⟩
    obtain ⟨u, h1, h2⟩ := h j l hj
    exact ⟨u, h1, h2.row⟩
theorem RKK.keep {K : Nat → Prop} {w w' : World} {v : Value} {cs : List (List Cl)} (h : RKK K w v cs) (he : Ex K w w') : RKK K w' v cs := by
  obtain ⟨p, c, rfl, h⟩ := h
  refine ⟨p, c, rfl, ?_⟩
  rcases h with h | ⟨b, o, hp, hl, hk, h⟩
  · exact .inl h
  · refine .inr ⟨b, o, hp, Nat.lt_of_lt_of_le hl he.1, hk, fun j l hj => ?_⟩
    obtain ⟨u, h1, h2⟩ := h j l hj
    exact ⟨u, he.cell hk h1, h2.keep he⟩
theorem RKK.mono {K K' : Nat → Prop} {w : World} {v : Value} {cs : List (List Cl)} (h : RKK K w v cs) (hk : ∀ t, t < w.heap.size → K t → K' t) : RKK K' w v cs := by
  obtain ⟨p, c, rfl, h⟩ := h
  refine ⟨p, c, rfl, ?_⟩
  rcases h with h | ⟨b, o, hp, hl, hk2, h⟩
  · exact .inl h
  · refine .inr ⟨b, o, hp, hl, hk b hl hk2, fun j l hj => ?_⟩
    obtain ⟨u, h1, h2⟩ := h j l hj
    exact ⟨u, h1, h2.mono hk⟩
theorem info_rowM : (Try.prog.info? 42).map (fun i => (i.zero.isSome, i.size, i.bytes)) = some (true, 1, 24) := by kernel_rfl
theorem make_row (n : Nat) (hn : n ≤ 100000000) (w : World) : ∃ cur : Array Value, cur.size = n ∧
    (Instr.makeSlice 22 (.int .i64 (n : Int)) (.int .i64 (n : Int))).run Try.prog w = .ok (.slice (some ⟨w.heap.size, 0, none⟩) n n) (w.alloc (.cells cur 42)) := by
  have hI := info_rowM
  obtain ⟨i, hi⟩ : ∃ i, Try.prog.info? 42 = some i := by
    cases h0 : Try.prog.info? 42 with
    | none => rw [h0] at hI; cases hI
    | some i => exact ⟨i, rfl⟩
  rw [hi] at hI
  simp only [Option.map_some, Option.some.injEq, Prod.mk.injEq] at hI
  obtain ⟨hz, hs, hb⟩ := hI
  obtain ⟨z, hz⟩ := Option.isSome_iff_exists.1 hz
  refine ⟨madeCells z.cells (n * 1), by rw [size_madeCells, Nat.mul_one], ?_⟩
  rw [run_make w 22 42 i z Try.underlying22 hi hz .i64 .i64 (n : Int) (n : Int) (by omega) (by omega) (by rw [hb]; omega) (by omega), hs, Int.toNat_natCast]
/-- The first k rows are filled in. -/
def ER (w : World) (g : Nat) (cs : List (List Cl)) (k : Nat) : Prop := ∃ cur : Array Value, w.heap[g]? = some (.cells cur 42 (0, 0)) ∧ cur.size = cs.length ∧
  ∀ (j : Nat) l, j < k → cs[j]? = some l → ∃ u, cur[j]? = some u ∧ RCK (fun t => g < t) w u l
theorem ER.keep {w w' : World} {g k : Nat} {cs : List (List Cl)} (h : ER w g cs k) (he : Ex (fun t => g ≤ t) w w') : ER w' g cs k := by
  obtain ⟨cur, hr, hs, hc⟩ := h
  have hg : g < w.heap.size := (Array.getElem?_eq_some_iff.1 hr).1
  refine ⟨cur, (he.2 g hg (Nat.le_refl _)).trans hr, hs, fun j l hj hl => ?_⟩
  obtain ⟨u, hu, hx⟩ := hc j l hj hl
  exact ⟨u, hu, hx.keep (he.mono (fun t _ (ht : g < t) => Nat.le_of_lt ht))⟩
theorem ER.below {w w' : World} {g k : Nat} {cs : List (List Cl)} (h : ER w g cs k) (hb : Below w.heap.size w w') : ER w' g cs k := h.keep (Ex.of_below hb)
theorem ER.lt {w : World} {g k : Nat} {cs : List (List Cl)} (h : ER w g cs k) : g < w.heap.size := by
  obtain ⟨cur, hr, -⟩ := h
  exact (Array.getElem?_eq_some_iff.1 hr).1
theorem ER.step {w : World} {g k : Nat} {cs : List (List Cl)} {l : List Cl} {u : Value} (h : ER w g cs k) (hk : cs[k]? = some l) (hx : RCK (fun t => g < t) w u l) : ER (w.setCell ⟨g, k, none⟩ u) g cs (k + 1) := by
  obtain ⟨cur, hr, hs, hc⟩ := h
  obtain ⟨hkl, -⟩ := List.getElem?_eq_some_iff.1 hk
  have hn : ¬ (g < g) := Nat.lt_irrefl _
  have he : Ex (fun t => g < t) w (w.setCell ⟨g, k, none⟩ u) := Ex.set hn
  refine ⟨_, row_setC hr _, by simp only [Array.size_setIfInBounds]; exact hs, fun j d hj hl => ?_⟩
  by_cases hjk : j = k
  · subst hjk
    rw [hk] at hl
    obtain rfl := Option.some.inj hl
    exact ⟨u, by rw [Array.getElem?_setIfInBounds, if_pos rfl, if_pos (by omega)], hx.keep he⟩
  · obtain ⟨y, hy, hyi⟩ := hc j d (by omega) hl
    exact ⟨y, by rw [Array.getElem?_setIfInBounds, if_neg (by omega)]; exact hy, hyi.keep he⟩
theorem ER.cell {w : World} {g k : Nat} {cs : List (List Cl)} (h : ER w g cs k) {j : Nat} (hj : j < cs.length) : ∃ u, w.cell? ⟨g, j, none⟩ = some u ∧ w.frozen? ⟨g, j, none⟩ = false := by
  obtain ⟨cur, hr, hs, -⟩ := h
  exact ⟨cur[j]'(by omega), by rw [cell_of_row _ _ _ _ _ _ hr]; exact Array.getElem?_eq_getElem (by omega), frozen_of_row _ _ _ _ _ hr⟩
theorem ER.rkk {w : World} {g : Nat} {cs : List (List Cl)} (h : ER w g cs cs.length) : RKK (fun t => g ≤ t) w (.slice (some ⟨g, 0, none⟩) cs.length cs.length) cs := by
  have hlt := h.lt
  obtain ⟨cur, hr, hs, hc⟩ := h
  refine ⟨_, _, rfl, .inr ⟨g, 0, rfl, hlt, Nat.le_refl _, fun j l hj => ?_⟩⟩
  obtain ⟨hjl, -⟩ := List.getElem?_eq_some_iff.1 hj
  obtain ⟨u, hu, hx⟩ := hc j l hjl hj
  exact ⟨u, by rw [cell_of_row _ _ _ _ _ _ hr, Nat.zero_add]; exact hu, hx.mono (fun t _ (ht : g < t) => Nat.le_of_lt ht)⟩
set_option maxRecDepth 100000 in
set_option maxHeartbeats 8000000 in
theorem clone_calls (v : Value) (l : List Cl) (W : World) (h : RowC W v l) (hn : l.length ≤ 2000000) (hx : ∀ c ∈ l, c.xs.length ≤ 2000000) :
    Calls Try.prog 16 #[v] W fun e w' => ∃ v', e = .returned v' ∧ RCK (fun t => W.heap.size ≤ t) w' v' l ∧ Below W.heap.size W w' := by
  have EC_ := Lib.hid (each_call v l W h hn hx)
  clear h hn hx
  go_enter Try.func16, Try.ntmps16
  go_wp2_with fail
  refine EC_.out.mono ?_
  rintro e x1 ⟨v', rfl, hr, hb⟩
  go_wp2_with fail
  go_ret
  exact ⟨v', rfl, hr, hb⟩
set_option maxRecDepth 100000 in
set_option maxHeartbeats 8000000 in
theorem each_rows (v : Value) (cs : List (List Cl)) (W : World) (h : RowCC W v cs) (hn : cs.length ≤ 2000000) (hl : ∀ l ∈ cs, l.length ≤ 2000000) (hx : ∀ l ∈ cs, ∀ c ∈ l, c.xs.length ≤ 2000000) :
    Calls Try.prog 15 #[v, .func (.func 16) #[] #[]] W fun e w' => ∃ v', e = .returned v' ∧ RKK (fun t => W.heap.size ≤ t) w' v' cs ∧ Below W.heap.size W w' := by
  obtain ⟨p, c0, rfl, hrow⟩ := id h
  obtain ⟨cur0, hcs0, hmk⟩ := make_row cs.length (by omega) W
  obtain ⟨w0, hw0, r0, hB0, hs0⟩ := boxG W cur0 42
  have HE0 := Lib.hid (show ER w0 W.heap.size cs 0 from ⟨cur0, r0, hcs0, fun j c hj => absurd hj (Nat.not_lt_zero _)⟩)
  have HROW := Lib.hid hrow
  have HB0 := Lib.hid hB0
  have HN := Lib.hid hn
  have HX := Lib.hid (And.intro hl hx)
  have hn0 : (0 : Int) ≤ (cs.length : Int) := by omega
  clear h hrow hcs0 r0 hB0 hn hx hl
  go_enter Try.func15, Try.ntmps15
  go_wp2_with fail
  clear hmk hw0 hs0
  go_loopw [6, 7, 13] (fun _ _ j wr => ∃ k : Nat, j = .int .i64 k ∧ Hid (k ≤ cs.length) ∧ Hid (ER wr W.heap.size cs k) ∧ Hid (Below W.heap.size W wr)) (fun _ _ j _ => cs.length - (intOf j).toNat)
  case atStart => exact ⟨0, rfl, Lib.hid (Nat.zero_le _), HE0, HB0⟩
  case round =>
    obtain ⟨k, rfl, HK, HE, HB⟩ := hrel
    obtain ⟨x1, rfl⟩ : ∃ w, w = wr := ⟨_, rfl⟩
    by_cases hk : k < cs.length
    · obtain ⟨l, hl⟩ : ∃ l, cs[k]? = some l := ⟨_, List.getElem?_eq_getElem hk⟩
      have hk0 : (0 : Int) ≤ (k : Int) := by omega
      have hki : (k : Int) < (cs.length : Int) := by omega
      have HKL := Lib.hid hk
      have WK := Lib.hid (show wrap64 ((k : Int) + 1) = ((k + 1 : Nat) : Int) by have := HN.out; simp only [wrap64]; omega)
      have hm := List.mem_of_getElem? hl
      have HC := Lib.hid hl
      rcases HROW.out with h0 | ⟨b, o, rfl, hb, hcl⟩
      · rw [h0] at hk; simp at hk
      obtain ⟨u, hu, hru⟩ := hcl k l hl
      obtain ⟨up, uk, rfl, -⟩ := id hru
      have m0 := (HB.out.cell (p := ⟨b, o + k, none⟩) hb).trans hu
      have DC := Lib.hid (clone_calls (.slice up l.length uk) l x1 (hru.below HB.out) (HX.out.1 l hm) (HX.out.2 l hm))
      clear hu hru hk hl hcl hm
      go_wp2_with fail
      clear m0
      refine DC.out.mono ?_
      rintro e x3 ⟨v', rfl, hr, hb3⟩
      obtain ⟨q, k2, rfl, -⟩ := id hr
      have HE3 := Lib.hid (HE.out.below hb3)
      have HB3 := Lib.hid (HB.out.trans (hb3.mono HB.out.size))
      have HRK := Lib.hid (hr.mono (K' := fun t => W.heap.size < t) (fun t _ (ht : x1.heap.size ≤ t) => Nat.lt_of_lt_of_le HE.out.lt ht))
      obtain ⟨u0, c0', f0⟩ := HE3.out.cell (j := k) HKL.out
      have HES := Lib.hid (HE3.out.step HC.out HRK.out)
      have HBS := Lib.hid (HB3.out.setCell (p := ⟨W.heap.size, k, none⟩) (Nat.le_refl _) (.slice q l.length k2))
      clear hr hb3
      go_wp2_with fail
      go_roundw
      case rel => exact ⟨k + 1, by first | rw [WK.out] | simp, Lib.hid HKL.out, HES, HBS⟩
      case measure => first | (rw [WK.out]; have := HKL.out; simp only [intOf]; omega) | (have := HKL.out; simp only [intOf]; omega)
    · have h9 : k = cs.length := by have := HK.out; omega
      subst h9
      have hki : ¬ (cs.length : Int) < (cs.length : Int) := by omega
      clear hk
      go_wp2_with fail
      go_ret
      exact ⟨_, rfl, HE.out.rkk, HB.out⟩
theorem info_i64c : (Try.prog.info? 3).map (fun i => (i.zero, i.size, i.bytes)) = some (some (.int .i64 0), 1, 8) := by kernel_rfl
set_option maxRecDepth 100000 in
set_option maxHeartbeats 4000000 in
theorem iclone (p : Option Addr) (k : Nat) (xs : List Int) (W : World) (hr : RowI W p xs.length xs) (hn : xs.length ≤ 2000000) :
    Calls Try.prog 19 #[.slice p xs.length k] W fun e w' => ∃ v', e = .returned v' ∧ PK (fun t => W.heap.size ≤ t) w' v' xs ∧ Below W.heap.size W w' := by
  cases p with
  | none =>
    have hx : xs = [] := by
      rcases hr.reads with h | ⟨b, o, h, -⟩
      · exact h
      · cases h
    subst hx
    have hq := Lib.run_eql_slice_nil (P := Try.prog) W 23 _ none 0 k 0 0 Try.underlying23
    go_enter Try.func19, Try.ntmps19
    go_wp2_with fail
    go_ret
    exact ⟨_, rfl, PK.nil _ _, Below.refl _ _⟩
  | some ad =>
    have HR := Lib.hid hr
    clear hr
    have hq := Lib.run_eql_slice_nil (P := Try.prog) W 23 _ (some ad) xs.length k 0 0 Try.underlying23
    obtain ⟨w0, hw0, -, hB0, hs0⟩ := boxG W #[] 3
    have HO := Lib.hid (show Owns w0 W.heap.size 3 .i64 (.slice (some ⟨W.heap.size, 0, none⟩) 0 0) [] by rw [← hw0]; exact own_made0 W _ _ (Nat.le_refl _))
    have HB0 := Lib.hid hB0
    have HR0 := Lib.hid (HR.out.below hB0)
    have hz : W.heap.size ≤ w0.heap.size := by omega
    clear hB0 hs0
    by_cases hx : xs = []
    · subst hx
      simp only [List.length_nil] at hq
      go_enter Try.func19, Try.ntmps19
      go_wp2_with (at_builtin; refine append_none0 (T := 23) (E := 3) (k := .i64) Try.underlying23 info_i64c rfl _ _ rfl rfl rfl ?_)
      go_ret
      exact ⟨_, rfl, ⟨_, _, rfl, ⟨rfl, .inl rfl, by simp, by decide⟩, .inl rfl⟩, HB0.out⟩
    · have hne : 0 < xs.length := List.length_pos_iff.2 hx
      go_enter Try.func19, Try.ntmps19
      go_wp2_with (at_builtin; refine append_many (T := 23) (E := 3) (k := .i64) (zs := xs) Try.underlying23 info_i64c rfl _ _ rfl rfl HO.out rfl rfl HR0.out.reads hz (by simp; omega) hne ?_; intro v1 w1 hO1 hb1; have HO1 := Lib.hid hO1; have HB1 := Lib.hid hb1; clear hO1 hb1)
      go_ret
      obtain ⟨a1, c1, e1, hr1, -, -⟩ := HO1.out.shape
      exact ⟨_, rfl, ⟨a1, c1, e1, ⟨rfl, hr1, HR.out.wf, HR.out.small⟩, .inr fun b hb => (World.ownsRow.lt HO1.out b hb).1⟩, HB0.out.trans HB1.out⟩
end Go.Proofs.Ythnpbfboedgmpaa
