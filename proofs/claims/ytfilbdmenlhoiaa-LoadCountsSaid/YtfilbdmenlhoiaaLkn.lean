/- LoadCounts: load.Kinds: the numbers, and the row of eight loads. -/
import Derived.Test.YtfilbdmenlhoiaaLnw
import Derived.Test.YtfilbdmenlhoiaaGate
namespace Go.Proofs.Ytfilbdmenlhoiaa
open Go.ChangeShapes Go.WideShapes Go.ChangeAt Go.RowKit
set_option linter.unusedVariables false
set_option linter.unusedSimpArgs false
def kindL (l : List Oi) (k : Nat) : Ld := ofN (l.filter (fun y => decide (kf y = (k : Int))))
def kindsL (l : List Oi) : List Ld := (List.range 8).map (kindL l)
def okO (l : List Oi) : Prop := ∀ x ∈ l, i64ok x.f ∧ i64ok x.t
theorem okO.take {l : List Oi} (h : okO l) (n : Nat) : okO (l.take n) := fun x hx => h x (List.mem_of_mem_take hx)
theorem okO.filter {l : List Oi} (h : okO l) (p : Oi → Bool) : okO (l.filter p) := fun x hx => h x (List.mem_filter.1 hx).1
theorem kindL_ok {l : List Oi} (h : okO l) (k : Nat) : (kindL l k).ok ∧ 0 ≤ (kindL l k).g := ofN_ok (h.filter _)
theorem kindsL_len (l : List Oi) : (kindsL l).length = 8 := by unfold kindsL; simp
theorem kindsL_get (l : List Oi) {k : Nat} (hk : k < 8) : (kindsL l)[k]? = some (kindL l k) := by unfold kindsL; simp [hk]
theorem ofN_snoc (l : List Oi) (x : Oi) : ofN (l ++ [x]) = ofS (ofN l) x := by unfold ofN; rw [List.foldl_append]; rfl
theorem kindL_succ {l : List Oi} {i : Nat} {x : Oi} (h : l[i]? = some x) (k : Nat) : kindL (l.take (i + 1)) k = if kf x = (k : Int) then ofS (kindL (l.take i) k) x else kindL (l.take i) k := by
  unfold kindL
  rw [filt_succ h]
  split
  · rw [ofN_snoc]
  · rw [List.append_nil]
theorem kindsL_succ {l : List Oi} {i : Nat} {x : Oi} (h : l[i]? = some x) (ho : okO l) {q : Nat} (hq : kf x = (q : Int)) : (kindsL (l.take i)).set q (lsum [kindL (l.take i) q, oneN x]) = kindsL (l.take (i + 1)) := by
  have hx := ho x (List.mem_of_getElem? h)
  rw [lsum_two (kindL_ok (ho.take i) q), ladd_one (kindL_ok (ho.take i) q)]
  apply List.ext_getElem?
  intro j
  by_cases hj : j < 8
  · rw [kindsL_get _ hj, kindL_succ h j]
    by_cases e : q = j
    · subst e
      rw [List.getElem?_set_self (by rw [kindsL_len]; exact hj), if_pos hq]
    · rw [List.getElem?_set_ne e, kindsL_get _ hj, if_neg (by rw [hq]; omega)]
  · rw [List.getElem?_eq_none (by rw [List.length_set, kindsL_len]; omega), List.getElem?_eq_none (by rw [kindsL_len]; omega)]
theorem kindsL_nil : kindsL [] = List.replicate 8 ⟨0, 0, 0, 0⟩ := by
  unfold kindsL kindL ofN
  rfl
/-- The row of eight loads in block K. -/
structure LK (w : World) (K : Nat) (L : List Ld) : Prop where
  n : L.length = 8
  s : K < w.heap.size
  c : ∀ (k : Nat) (x : Ld), L[k]? = some x → w.rangeAt K (k * 4) x.cs.toList
  t : w.there K 0 32
theorem LK.below {w w' : World} {K B : Nat} {L : List Ld} (h : LK w K L) (hK : K < B) (hb : Below B w w') : LK w' K L :=
  ⟨h.n, Nat.lt_of_lt_of_le h.s hb.size, fun k x hx j v hv => (hb.cell hK).trans (h.c k x hx j v hv), fun j hj => by
    have := h.t j hj
    exact ⟨by rw [hb.cell hK]; exact this.1, by
      have h2 := this.2
      unfold World.frozen? at h2 ⊢
      rw [hb.block K hK]; exact h2⟩⟩
theorem LK.there4 {w : World} {K : Nat} {L : List Ld} (h : LK w K L) {q : Nat} (hq : q < 8) : w.there K (q * 4) 4 := fun j hj => by
  have := h.t (q * 4 + j) (by omega)
  rw [Nat.zero_add] at this
  exact this
theorem LK.set {w : World} {K : Nat} {L : List Ld} (h : LK w K L) {q : Nat} (hq : q < 8) (y : Ld) : LK (w.setCells K (q * 4) y.cs.toList) K (L.set q y) := by
  refine ⟨by rw [List.length_set]; exact h.n, ?_, fun k x hx => ?_, World.there_setCells h.t _ _ _⟩
  · have : (w.setCells K (q * 4) y.cs.toList).heap.size = w.heap.size := by
      simp [Ld.cs, World.setCells]
    rw [this]; exact h.s
  · by_cases e : q = k
    · subst e
      rw [List.getElem?_set_self (by rw [h.n]; exact hq)] at hx
      cases hx
      exact World.rangeAt_setCells_same _ _ _ _ (h.there4 hq)
    · rw [List.getElem?_set_ne e] at hx
      exact World.rangeAt_setCells_apart (h.c k x hx) _ _ _ (by simp [Ld.cs]; omega)
theorem LK.flat {w : World} {K : Nat} {L : List Ld} (h : LK w K L) : w.rangeAt K 0 (L.map (fun x => x.cs.toList)).flatten := by
  have key : ∀ (L : List Ld) (o : Nat), (∀ (k : Nat) (x : Ld), L[k]? = some x → w.rangeAt K (o + k * 4) x.cs.toList) → w.rangeAt K o (L.map (fun x => x.cs.toList)).flatten := by
    intro L
    induction L with
    | nil => intro o _ j v hv; simp at hv
    | cons x L ih =>
      intro o hx j v hv
      rw [List.map_cons, List.flatten_cons] at hv
      by_cases hj : j < 4
      · rw [List.getElem?_append_left (by simpa [Ld.cs] using hj)] at hv
        have := hx 0 x rfl j v hv
        rwa [Nat.zero_mul, Nat.add_zero] at this
      · rw [List.getElem?_append_right (by simp [Ld.cs]; omega)] at hv
        have := ih (o + 4) (fun k y hy => by
          have := hx (k + 1) y hy
          rwa [show o + (k + 1) * 4 = o + 4 + k * 4 by omega] at this) (j - 4) v (by simpa [Ld.cs] using hv)
        rwa [show o + 4 + (j - 4) = o + j by omega] at this
  exact key L 0 (fun k x hx => by rw [Nat.zero_add]; exact h.c k x hx)
theorem setCells_below {b H : Nat} (hb : H ≤ b) : ∀ (vs : List Value) (o : Nat) (w : World), Below H w (w.setCells b o vs)
  | [], _, _ => Below.refl _ _
  | v :: vs, o, w => ((Below.refl H w).setCell (p := ⟨b, o, none⟩) hb v).trans (setCells_below hb vs (o + 1) _)
theorem setCells_heap {b i : Nat} (hi : i ≠ b) : ∀ (vs : List Value) (o : Nat) (w : World), (w.setCells b o vs).heap[i]? = w.heap[i]?
  | [], _, _ => rfl
  | v :: vs, o, w => by
    rw [World.setCells, setCells_heap hi vs (o + 1)]
    exact heap_setCell_other w ⟨b, o, none⟩ i v hi
theorem row_two {w : World} {b : Nat} {T : TypeId} {x y : Ld} (hx : x.ok) (hy : y.ok) (h : w.heap[b]? = some (.cells #[.int .i64 x.c, .int .i64 x.e, .int .i64 x.d, .int .i64 x.g, .int .i64 y.c, .int .i64 y.e, .int .i64 y.d, .int .i64 y.g] T (0, 0))) : RowL w w.heap.size (.slice (some ⟨b, 0, none⟩) 2 2) [x, y] := by
  refine ⟨_, _, rfl, by simp, fun i z hz => ?_⟩
  have hl := g_lt h
  match i, hz with
  | 0, hz =>
    simp at hz; subst hz
    exact ⟨hx, b, 0, rfl, hl, by rw [cell_of_row _ _ _ _ _ _ h]; rfl, by rw [cell_of_row _ _ _ _ _ _ h]; rfl, by rw [cell_of_row _ _ _ _ _ _ h]; rfl, by rw [cell_of_row _ _ _ _ _ _ h]; rfl⟩
  | 1, hz =>
    simp at hz; subst hz
    exact ⟨hy, b, 0, rfl, hl, by rw [cell_of_row _ _ _ _ _ _ h]; rfl, by rw [cell_of_row _ _ _ _ _ _ h]; rfl, by rw [cell_of_row _ _ _ _ _ _ h]; rfl, by rw [cell_of_row _ _ _ _ _ _ h]; rfl⟩
  | i + 2, hz => simp at hz
end Go.Proofs.Ytfilbdmenlhoiaa
