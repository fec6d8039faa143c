/- lru: slices.Insert of one element at the front of a row of pointers. By program (genlri.py). -/
import Derived.Test.YtncpikaegcookaaLrd
namespace Go.Proofs.Ytncpikaegcookaa
open Go.ChangeShapes Go.WideShapes Go.ChangeAt Go.RowKit
set_option linter.unusedVariables false
set_option linter.unusedSimpArgs false
/-- The front row: nil, or in block F. -/
def FR (w : World) (F : Nat) (v : Value) (ts : List Nat) : Prop := (v = .slice none 0 0 ∧ ts = []) ∨
  ∃ cap L, v = .slice (some ⟨F, 0, none⟩) ts.length cap ∧ FB w F L ∧ L.length = cap ∧ ts.length ≤ cap ∧ 1 ≤ cap ∧ cap ≤ 9223372036854775807 ∧ (∀ u ∈ L, u.oneCell' = true) ∧ ∀ (j x : Nat), ts[j]? = some x → L[j]? = some (ptr x)
theorem firstCells_zero (sz : Nat) (p : Option Addr) (c : Nat) (w : World) : (Builtin.firstCells sz 0 (.slice p 0 c)).run Try.prog w = .ok (([] : List Value).toArray) w := by
  cases p with
  | none => exact run_firstCells_none w sz 0 0 c
  | some a => exact run_firstCells_some w sz 0 a 0 c [] (by simp) (fun j v h => by simp at h)
theorem zeros_list (n : Nat) : (Builtin.zeroCells nilP.cells n).toList = List.replicate n nilP := by
  simp [Builtin.zeroCells, nilP, Value.cells]
  apply List.ext_getElem
  · simp
  · intro i h1 h2
    simp [Nat.mod_one]
theorem src_one {W : World} {V t : Nat} (hV : W.heap[V]? = some (.cells #[ptr t] 52 (0, 0))) : Src Try.prog 1 49 (.slice (some ⟨V, 0, none⟩) 1 1) 1 [ptr t] W :=
  Src.ofSlice W Try.underlying49 ⟨V, 0, none⟩ 1 1 [ptr t] rfl (fun j u hj => by
    have hl := (List.getElem?_eq_some_iff.1 hj).1
    obtain rfl : j = 0 := by simpa using hl
    rw [Addr.add_mid, cell_of_row _ _ _ _ _ _ hV]; exact hj) (fun u hu => by rw [List.mem_singleton] at hu; subst hu; rfl)
/-- No element yet, no row. -/
theorem ins_nil (V t : Nat) (W : World) (hV : W.heap[V]? = some (.cells #[ptr t] 52 (0, 0))) :
    Calls Try.prog 32 #[.slice none 0 0, .int .i64 0, .slice (some ⟨V, 0, none⟩) 1 1] W fun e w' => ∃ v', e = .returned v' ∧ FR w' W.heap.size v' [t] ∧ Below W.heap.size W w' := by
  obtain ⟨i0, hi0, hz0, hs0, hb0⟩ := info_p'
  have hrun : ∀ ty, (Builtin.append_ #[49, 49] ty #[.slice none 0 0, .slice (some ⟨V, 0, none⟩) 1 1]).run Try.prog W = _ := fun ty =>
    run_append_grow_src (P := Try.prog) W 49 49 ty 52 i0 nilP Try.underlying49 hi0 hz0 none 0 0 [] (firstCells_zero _ none 0 _) _ 1 [ptr t] (by rw [hs0]; exact src_one hV) (by omega) (by omega) (by rw [hb0]; decide)
  have hg1 : 0 + 1 ≤ grownCap W (0 + 1) 0 52 := grownCap_ge ..
  have hg2 := grownCap_le_maxLen W (0 + 1) 0 52 (by unfold maxLen; omega)
  obtain ⟨G, hG⟩ : ∃ G, grownCap W (0 + 1) 0 52 = G := ⟨_, rfl⟩
  rw [hG] at hg1 hg2
  simp only [hG] at hrun
  obtain ⟨W1, hW1⟩ : ∃ W1, W.drew.alloc (.cells ((([] : List Value) ++ [ptr t]).toArray ++ Builtin.zeroCells nilP.cells (G - (0 + 1))) 52) = W1 := ⟨_, rfl⟩
  simp only [hW1] at hrun
  have E := Lib.hid (show FR W1 W.heap.size (.slice (some ⟨W.heap.size, 0, none⟩) (0 + 1) G) [t] ∧ Below W.heap.size W W1 from by
    refine ⟨.inr ⟨G, ptr t :: List.replicate (G - 1) nilP, rfl, ?_, by simp; omega, by simp; omega, by omega, by unfold maxLen at hg2; omega, ?_, ?_⟩, ?_⟩
    · rw [← hW1]
      have := heap_alloc_new W.drew (.cells ((([] : List Value) ++ [ptr t]).toArray ++ Builtin.zeroCells nilP.cells (G - (0 + 1))) 52)
      unfold FB
      rw [show W.drew.heap.size = W.heap.size from rfl] at this
      rw [this]
      congr 2
      apply Array.ext'
      rw [Array.toList_append, zeros_list]
      simp
    · intro u hu
      rcases List.mem_cons.1 hu with rfl | hu
      · rfl
      · rw [(List.mem_replicate.1 hu).2]; rfl
    · intro j x hj
      have hl := (List.getElem?_eq_some_iff.1 hj).1
      obtain rfl : j = 0 := by simpa using hl
      simp at hj; subst hj; rfl
    · rw [← hW1]; exact ((Below.refl W.heap.size W).drew).alloc (Nat.le_refl _) _)
  have HR := Lib.hid hrun
  clear hrun hW1 hG hg1 hg2 hV
  go_enter Try.func32, Try.ntmps32
  go_wp2_with (at_builtin; refine wpl_app rfl _ _ _ _ rfl _ _ rfl rfl (HR.out _) ?_)
  go_ret
  exact ⟨_, rfl, E.out.1, E.out.2⟩
/-- No element yet; the row has room. -/
theorem ins_room (F V t cap : Nat) (L : List Value) (W : World) (h : FB W F L) (hL : L.length = cap) (hc : 1 ≤ cap) (hcap : cap ≤ 9223372036854775807) (h1 : ∀ v ∈ L, v.oneCell' = true) (hV : W.heap[V]? = some (.cells #[ptr t] 52 (0, 0))) :
    Calls Try.prog 32 #[.slice (some ⟨F, 0, none⟩) 0 cap, .int .i64 0, .slice (some ⟨V, 0, none⟩) 1 1] W fun e w' => ∃ v', e = .returned v' ∧ FR w' F v' [t] ∧ But W w' F := by
  obtain ⟨i0, hi0, hz0, hs0, hb0⟩ := info_p'
  have hrun : ∀ ty, (Builtin.append_ #[49, 49] ty #[.slice (some ⟨F, 0, none⟩) 0 cap, .slice (some ⟨V, 0, none⟩) 1 1]).run Try.prog W = .ok (.slice (some ⟨F, 0, none⟩) 1 cap) (W.setCells F 0 [ptr t]) := fun ty => by
    have := run_append_room_src (P := Try.prog) W 49 49 ty 52 i0 Try.underlying49 hi0 F 0 0 cap _ 1 [ptr t] (by rw [hs0]; exact src_one hV) (by omega) (fun j hj => by
      rw [hs0]
      have hj0 : j = 0 := by simpa using hj
      subst hj0
      exact h.some (by omega)) (fun j hj => h.free _)
    rw [hs0] at this
    exact this
  have E := Lib.hid (show FR (W.setCells F 0 [ptr t]) F (.slice (some ⟨F, 0, none⟩) 1 cap) [t] ∧ But W (W.setCells F 0 [ptr t]) F from by
    have hs := FB.set [ptr t] 0 h (by simp; omega)
    refine ⟨.inr ⟨cap, _, rfl, hs, by simp; omega, by simp; omega, hc, hcap, ?_, ?_⟩, But.cells F _ 0 W⟩
    · intro u hu
      rw [List.take_zero, List.nil_append, List.singleton_append] at hu
      rcases List.mem_cons.1 hu with rfl | hu
      · rfl
      · exact h1 u (List.mem_of_mem_drop hu)
    · intro j x hj
      have hl := (List.getElem?_eq_some_iff.1 hj).1
      obtain rfl : j = 0 := by simpa using hl
      simp at hj; subst hj; rfl)
  have HR := Lib.hid hrun
  have HF := Lib.hid h.lt
  have hcz : ¬ cap = 0 := by omega
  clear hrun h hV h1 hL
  go_enter Try.func32, Try.ntmps32
  go_wp2_with (at_builtin; refine wpl_app rfl _ _ _ _ rfl _ _ rfl rfl (HR.out _) ?_)
  go_ret
  exact ⟨_, rfl, E.out.1, E.out.2⟩
end Go.Proofs.Ytncpikaegcookaa
