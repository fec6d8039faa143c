/- The reader as one fact: its place among the tokens' texts. -/
import Derived.Test.YtakhgjhnljbfiaaGreatDoorTxk
import Derived.Test.YtakhgjhnljbfiaaGreatDoorOwnt
namespace Go.Proofs.YtakhgjhnljbfiaaGreatDoor
open Go.ChangeShapes Go.WideShapes Go.ChangeAt Go.RowKit
set_option linter.unusedVariables false
set_option linter.unusedSimpArgs false
structure Rdr (w : World) (r g : Nat) (A : Option Addr) (n c : Nat) (ts : List ByteArray) (at_ : Nat) : Prop where
  hr : w.heap[r]? = some (.cells #[.slice A n c, .int .i64 at_] 104 (0, 0))
  hl : ts.length = n
  ha : n = 0 ∨ A = some ⟨g, 0, none⟩
  ht : ∀ j t, ts[j]? = some t → w.cell? ⟨g, j * 3 + 1, none⟩ = some (.string t)
  hg : g ≠ r
  hm : at_ ≤ n
  hn : n ≤ 100000
  hgl : n = 0 ∨ g < w.heap.size
theorem Rdr.lt {w : World} {r g : Nat} {A : Option Addr} {n c : Nat} {ts : List ByteArray} {at_ : Nat} (h : Rdr w r g A n c ts at_) : r < w.heap.size := Nat.lt_of_not_le fun hn => by
  have := h.hr
  rw [Array.getElem?_eq_none hn] at this; cases this
theorem Rdr.c0 {w : World} {r g : Nat} {A : Option Addr} {n c : Nat} {ts : List ByteArray} {at_ : Nat} (h : Rdr w r g A n c ts at_) : w.cell? ⟨r, 0, none⟩ = some (.slice A n c) := by
  rw [cell_of_row w r 0 _ _ _ h.hr]; rfl
theorem Rdr.c1 {w : World} {r g : Nat} {A : Option Addr} {n c : Nat} {ts : List ByteArray} {at_ : Nat} (h : Rdr w r g A n c ts at_) : w.cell? ⟨r, 1, none⟩ = some (.int .i64 at_) := by
  rw [cell_of_row w r 1 _ _ _ h.hr]; rfl
theorem Rdr.free {w : World} {r g : Nat} {A : Option Addr} {n c : Nat} {ts : List ByteArray} {at_ : Nat} (h : Rdr w r g A n c ts at_) (j : Nat) : w.frozen? ⟨r, j, none⟩ = false := frozen_of_row w r j _ _ h.hr
theorem Rdr.carry {w w' : World} {r g : Nat} {A : Option Addr} {n c : Nat} {ts : List ByteArray} {at_ : Nat} (h : Rdr w r g A n c ts at_) (hz : w.heap.size ≤ w'.heap.size) (h1 : w'.heap[r]? = w.heap[r]?) (h2 : n = 0 ∨ w'.heap[g]? = w.heap[g]?) : Rdr w' r g A n c ts at_ := by
  refine ⟨by rw [h1]; exact h.hr, h.hl, h.ha, fun j t hj => ?_, h.hg, h.hm, h.hn, h.hgl.imp id (fun x => Nat.lt_of_lt_of_le x hz)⟩
  rcases h2 with h2 | h2
  · have := h.hl
    rw [h2] at this
    rw [List.length_eq_zero_iff.1 this] at hj
    simp at hj
  · exact (World.cell?_of_block (a := ⟨g, j * 3 + 1, none⟩) h2).trans (h.ht j t hj)
theorem Rdr.below {w w' : World} {r g : Nat} {A : Option Addr} {n c : Nat} {ts : List ByteArray} {at_ B : Nat} (h : Rdr w r g A n c ts at_) (hb : Below B w w') (h1 : r < B) (h2 : n = 0 ∨ g < B) : Rdr w' r g A n c ts at_ :=
  h.carry hb.size (hb.block r h1) (h2.imp id (fun x => hb.block g x))
theorem Rdr.belowAll {w w' : World} {r g : Nat} {A : Option Addr} {n c : Nat} {ts : List ByteArray} {at_ : Nat} (h : Rdr w r g A n c ts at_) (hb : Below w.heap.size w w') : Rdr w' r g A n c ts at_ := h.below hb h.lt h.hgl
theorem Rdr.drewN {w : World} {r g : Nat} {A : Option Addr} {n c : Nat} {ts : List ByteArray} {at_ : Nat} (h : Rdr w r g A n c ts at_) (q : Nat) : Rdr (w.drewN q) r g A n c ts at_ := h.carry (Nat.le_refl _) rfl (.inr rfl)
theorem Rdr.step {w : World} {r g : Nat} {A : Option Addr} {n c : Nat} {ts : List ByteArray} {at_ : Nat} (h : Rdr w r g A n c ts at_) (hlt : at_ < n) : Rdr (w.setCell ⟨r, 1, none⟩ (.int .i64 ((at_ : Int) + 1))) r g A n c ts (at_ + 1) := by
  refine ⟨?_, h.hl, h.ha, fun j t hj => ?_, h.hg, by omega, h.hn, h.hgl.imp id (fun x => by simpa using x)⟩
  · rw [heap_setCell_same w r 1 _ _ _ h.hr]
    rfl
  · exact (World.cell?_of_block (a := ⟨g, j * 3 + 1, none⟩) (heap_setCell_other w ⟨r, 1, none⟩ g _ h.hg)).trans (h.ht j t hj)
theorem But.drewN (w : World) (B q : Nat) : But w (w.drewN q) B := ⟨fun _ _ _ => rfl, Nat.le_refl _, fun H _ h2 => by
  have h := Lib.below_grow H w h2 q #[]
  have e : Go.Sort.grow (w.drewN q) #[] = w.drewN q := Go.Sort.grow_empty _
  rw [e] at h; exact h⟩

theorem r_next {w : World} {r g : Nat} {A : Option Addr} {n c : Nat} {ts : List ByteArray} {at_ : Nat} (h : Rdr w r g A n c ts at_) :
    Calls Tryz.prog 85 #[.pointer (some ⟨r, 0, none⟩)] w fun e w' => But w w' r ∧ w'.heap.size = w.heap.size ∧ e = .returned (.string (ts.getD at_ ⟨#[]⟩)) ∧ Rdr w' r g A n c ts (if at_ < n then at_ + 1 else at_) := by
  by_cases hlt : at_ < n
  · have hl := h.hl
    have ht : ts[at_]? = some (ts[at_]'(by omega)) := List.getElem?_eq_getElem (by omega)
    obtain ⟨t, hte⟩ : ∃ t, ts[at_]'(by omega) = t := ⟨_, rfl⟩
    rw [hte] at ht
    have hA : A = some ⟨g, 0, none⟩ := by
      rcases h.ha with h0 | h0
      · omega
      · exact h0
    subst hA
    refine (d_next r g n c at_ t w hlt h.hn h.hg h.c0 h.c1 (h.free 1) (h.ht _ _ ht)).mono ?_
    rintro e w' ⟨rfl, q, rfl⟩
    refine ⟨(But.set w r 1 _).trans (But.drewN _ r q), by simp, ?_, ?_⟩
    · rw [List.getD, ht]; rfl
    · rw [if_pos hlt]; exact (h.step hlt).drewN q
  · have hm := h.hm
    obtain rfl : at_ = n := by omega
    refine (d_next_end r A at_ c w h.c0 h.c1).mono ?_
    rintro e w' ⟨rfl, q, rfl⟩
    refine ⟨But.drewN _ r q, by simp, ?_, ?_⟩
    · rw [List.getD, List.getElem?_eq_none (by rw [h.hl]; exact Nat.le_refl _)]; rfl
    · rw [if_neg hlt]; exact h.drewN q
theorem r_is {w : World} {r g : Nat} {A : Option Addr} {n c : Nat} {ts : List ByteArray} {at_ : Nat} (h : Rdr w r g A n c ts at_) (sg : ByteArray) :
    Calls Tryz.prog 86 #[.pointer (some ⟨r, 0, none⟩), .string sg] w fun e w' => But w w' r ∧ w'.heap.size = w.heap.size ∧ e = .returned (.bool (decide (ts[at_]? = some sg))) ∧ Rdr w' r g A n c ts (if ts[at_]? = some sg then at_ + 1 else at_) := by
  by_cases hlt : at_ < n
  · have hl := h.hl
    have ht : ts[at_]? = some (ts[at_]'(by omega)) := List.getElem?_eq_getElem (by omega)
    obtain ⟨t, hte⟩ : ∃ t, ts[at_]'(by omega) = t := ⟨_, rfl⟩
    rw [hte] at ht
    have hA : A = some ⟨g, 0, none⟩ := by
      rcases h.ha with h0 | h0
      · omega
      · exact h0
    subst hA
    refine (d_is r g n c at_ t sg w hlt h.hn h.hg h.c0 h.c1 (h.free 1) (h.ht _ _ ht)).mono ?_
    rintro e w' (⟨rfl, rfl, q, rfl⟩ | ⟨hne, rfl, q, rfl⟩)
    · refine ⟨(But.set w r 1 _).trans (But.drewN _ r q), by simp, ?_, ?_⟩
      · rw [decide_eq_true ht]
      · rw [if_pos ht]; exact (h.step hlt).drewN q
    · have : ¬ ts[at_]? = some sg := by rw [ht]; intro e; exact hne (Option.some.inj e)
      refine ⟨But.drewN _ r q, by simp, ?_, ?_⟩
      · rw [decide_eq_false this]
      · rw [if_neg this]; exact h.drewN q
  · have hm := h.hm
    obtain rfl : at_ = n := by omega
    have : ¬ ts[at_]? = some sg := by rw [List.getElem?_eq_none (by rw [h.hl]; exact Nat.le_refl _)]; simp
    refine (d_is_end r A at_ c sg w h.c0 h.c1).mono ?_
    rintro e w' ⟨rfl, q, rfl⟩
    refine ⟨But.drewN _ r q, by simp, ?_, ?_⟩
    · rw [decide_eq_false this]
    · rw [if_neg this]; exact h.drewN q
end Go.Proofs.YtakhgjhnljbfiaaGreatDoor
