/- perm.Cycles: what its rows keep. -/
import Derived.Test.YtblohakflpedoaaCym
namespace Go.Proofs.Ytblohakflpedoaa
open Go.ChangeShapes Go.WideShapes Go.ChangeAt Go.RowKit
set_option linter.unusedVariables false
set_option linter.unusedSimpArgs false
theorem ownsRow_keepX {w w' : World} {B : Nat} {E : TypeId} {sz : Nat} {v : Value} {n : Nat} {xs : List Value} (h : w.ownsRow B E sz v n xs) (hk : ∀ g cs, v.ownBlock = some g → B ≤ g → w.heap[g]? = some (.cells cs E (0, 0)) → w'.heap[g]? = w.heap[g]?) : w'.ownsRow B E sz v n xs := by
  obtain ⟨hl, h | ⟨g, cap, cur, rfl, hb, hh, r⟩⟩ := h
  · exact ⟨hl, .inl h⟩
  · exact ⟨hl, .inr ⟨g, cap, cur, rfl, hb, (hk g _ rfl hb hh).trans hh, r⟩⟩
theorem ownsRow_monoX {w : World} {B B' : Nat} {E : TypeId} {sz : Nat} {v : Value} {n : Nat} {xs : List Value} (h : w.ownsRow B E sz v n xs) (hB : B' ≤ B) : w.ownsRow B' E sz v n xs := by
  obtain ⟨hl, h | ⟨g, cap, cur, rfl, hb, r⟩⟩ := h
  · exact ⟨hl, .inl h⟩
  · exact ⟨hl, .inr ⟨g, cap, cur, rfl, Nat.le_trans hB hb, r⟩⟩
theorem ownsRow_blk {w : World} {B : Nat} {E : TypeId} {sz : Nat} {v : Value} {n : Nat} {xs : List Value} (h : w.ownsRow B E sz v n xs) {g : Nat} (hg : v.ownBlock = some g) : B ≤ g ∧ g < w.heap.size ∧ ∃ cs, w.heap[g]? = some (.cells cs E (0, 0)) := by
  obtain ⟨hl, h | ⟨g', cap, cur, rfl, hb, hh, r⟩⟩ := h
  · rw [h.1] at hg; cases hg
  · have e : g' = g := Option.some.inj hg
    subst e
    refine ⟨hb, ?_, _, hh⟩
    by_cases hlt : g' < w.heap.size
    · exact hlt
    · have : w.heap[g']? = none := by simp; omega
      rw [this] at hh; cases hh
def ints' (r : List Nat) : List Int := r.map (fun (x : Nat) => (x : Int))
/-- The rounds, each a row of its own. -/
def Rws (w : World) (b : Nat) (vals : List Value) (ls : List (List Nat)) : Prop := vals.length = ls.length ∧ ∀ (a : Nat) (v : Value) (r : List Nat), vals[a]? = some v → ls[a]? = some r → Owns w b 3 .i64 v (ints' r)
theorem Rws.keep {w w' : World} {b : Nat} {vals : List Value} {ls : List (List Nat)} (h : Rws w b vals ls) (hk : ∀ g cs, b ≤ g → w.heap[g]? = some (.cells cs 3 (0, 0)) → w'.heap[g]? = w.heap[g]?) : Rws w' b vals ls :=
  ⟨h.1, fun a v r ha hr => ownsRow_keepX (h.2 a v r ha hr) (fun g cs _ hb hh => hk g cs hb hh)⟩
theorem Rws.add {w : World} {b : Nat} {vals : List Value} {ls : List (List Nat)} (h : Rws w b vals ls) {v : Value} {r : List Nat} (hv : Owns w b 3 .i64 v (ints' r)) : Rws w b (vals ++ [v]) (ls ++ [r]) := by
  refine ⟨by simp [h.1], fun a u s ha hs => ?_⟩
  by_cases hlt : a < vals.length
  · rw [List.getElem?_append_left hlt] at ha
    rw [List.getElem?_append_left (by rw [← h.1]; exact hlt)] at hs
    exact h.2 a u s ha hs
  · have la := (List.getElem?_eq_some_iff.1 ha).1
    rw [List.length_append, List.length_singleton] at la
    have e : a = vals.length := by omega
    subst e
    rw [List.getElem?_append_right (Nat.le_refl _), Nat.sub_self] at ha
    rw [h.1, List.getElem?_append_right (Nat.le_refl _), Nat.sub_self] at hs
    simp at ha hs
    subst ha hs
    exact hv
/-- The state of perm.Cycles. -/
structure CI (W w : World) (B : Nat) (p : Nat → Nat) (n i : Nat) (l : Value) (lv : List Int) (vals : List Value) (ls : List (List Nat)) : Prop where
  left : RowAtI w B 3 lv
  lf : Lft p n ls.flatten lv
  rd : Rds p n i ls
  l : w.ownsRow (B + 1) 22 1 l vals.length vals
  rw' : Rws w (B + 1) vals ls
  be : Below W.heap.size W w
  hB : W.heap.size ≤ B
end Go.Proofs.Ytblohakflpedoaa
