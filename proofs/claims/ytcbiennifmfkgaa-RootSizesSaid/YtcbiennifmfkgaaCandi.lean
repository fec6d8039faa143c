/- Reference 19's List: what its walk stands on. -/
import Derived.Test.YtcbiennifmfkgaaCandh
namespace Go.Proofs.Ytcbiennifmfkgaa
open Go.ChangeShapes Go.WideShapes Go.ChangeAt Go.RowKit
set_option linter.unusedVariables false
set_option linter.unusedSimpArgs false
theorem pr_at {n i : Nat} (h1 : 1 ≤ n) (hi : i < (fa n).length) : ∃ p, (fsts (fa n)).getD i 0 = ((p : Nat) : Int) ∧ (prN n).take (i + 1) = (prN n).take i ++ [p] ∧ (pwN n).take (i + 1) = (pwN n).take i ++ [p ^ mu p n] ∧ 2 ≤ p ∧ p ∣ n ∧ p ^ mu p n ∣ n ∧ 2 ≤ p ^ mu p n := by
  obtain ⟨g1, g2, g3, g4, g5⟩ := fa_pow h1 hi
  have hm : ((fa n).getD i (0, 0)).1 ^ mu ((fa n).getD i (0, 0)).1 n ∈ pwN n := by
    unfold pwN
    refine List.mem_map.2 ⟨(fa n)[i], List.getElem_mem hi, ?_⟩
    rw [List.getD, List.getElem?_eq_getElem hi, Option.getD_some] at g4 ⊢
    rw [← g4]
  obtain ⟨k1, k2⟩ := pwN_in h1 hm
  refine ⟨((fa n).getD i (0, 0)).1, fsts_at _ _, ?_, ?_, g1, g2, k2, k1⟩
  · rw [List.take_add_one]; unfold prN; rw [List.getElem?_map, List.getElem?_eq_getElem hi, List.getD, List.getElem?_eq_getElem hi]; rfl
  · rw [List.take_add_one]; unfold pwN; rw [List.getElem?_map, List.getElem?_eq_getElem hi, ← g4, List.getD, List.getElem?_eq_getElem hi]; rfl
/-- A row of ints that is not the row of the call's own. -/
def Apart (v : Value) (pa : Option Addr) : Prop := ∀ x, pa = some x → v.ownBlock ≠ some x.block
theorem RowI.keepB {w w' : World} {a : Option Addr} {n : Nat} {xs : List Int} (h : RowI w a n xs) (hs : w.heap.size ≤ w'.heap.size) (hb : ∀ x, a = some x → x.block < w.heap.size → w'.heap[x.block]? = w.heap[x.block]?) : RowI w' a n xs := by
  refine ⟨h.len, ?_, h.wf, h.small⟩
  rcases h.reads with h0 | ⟨b, off, rfl, hlt, hc⟩
  · exact .inl h0
  · exact .inr ⟨b, off, rfl, by omega, fun i hi => by rw [World.cell?_of_block (a := ⟨b, off + i, none⟩) (show w'.heap[b]? = w.heap[b]? from hb ⟨b, off, none⟩ rfl hlt)]; exact hc i hi⟩
theorem Owns.apart {w : World} {B n : Nat} {ys : List Int} {v : Value} (h : Owns w B 3 .i64 v ys) (hn : ys.length = n) (hw : ∀ x ∈ ys, (Lit.int .i64 x).wf = true) (hs : n ≤ 17592186044415) : ∃ a c, v = .slice a n c ∧ RowI w a n ys ∧ ∀ x, a = some x → B ≤ x.block := by
  obtain ⟨a, c, e, hr, _, _⟩ := h.shape
  refine ⟨a, c, by rw [e, hn], ⟨hn, hr, hw, hs⟩, fun x ex => ?_⟩
  exact (World.ownsRow.lt h x.block (by rw [e, ex]; rfl)).1
end Go.Proofs.Ytcbiennifmfkgaa
