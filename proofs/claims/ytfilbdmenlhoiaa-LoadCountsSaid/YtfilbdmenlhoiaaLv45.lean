/- Law 45: live. -/
import Derived.Test.YtfilbdmenlhoiaaLqu
namespace Go.Proofs.Ytfilbdmenlhoiaa
open Go.ChangeShapes Go.WideShapes Go.ChangeAt Go.RowKit
set_option linter.unusedVariables false
open Go.WideMaps Go.MapKept Go.WideElems Go.ChangeMaps
set_option linter.unusedSimpArgs false
theorem OpsAt.at {w w' : World} {b o : Nat} {l : List Oi} (h : OpsAt w w.heap.size b o l) (hb : Below w.heap.size w w') : OpsAt w' w'.heap.size b o l :=
  have h2 := h.below hb
  ⟨by have := h.1; have := hb.size; omega, h2.2⟩
def opA : Array Value := #[.int .i64 0, .int .i64 0, .int .i64 0, .int .i64 0, .int .i64 0, .string ByteArray.empty, .int .i64 0, .int .i64 0, .slice none 0 0, .int .i64 0, .int .i64 0, .int .i64 0, .slice none 0 0, .int .i64 0, .int .i64 0, .string ByteArray.empty, .slice none 0 0, .int .i64 1, .int .i64 4]
def opB : Array Value := #[.int .i64 0, .int .i64 0, .int .i64 0, .int .i64 0, .int .i64 0, .string ByteArray.empty, .int .i64 0, .int .i64 0, .slice none 0 0, .int .i64 0, .int .i64 0, .int .i64 0, .slice none 0 0, .int .i64 0, .int .i64 0, .string ByteArray.empty, .slice none 0 0, .int .i64 2, .int .i64 (-1)]
theorem okA : OpV opA 0 0 0 1 4 := ⟨rfl, by simp [opA, Value.oneCell'], rfl, rfl, rfl, rfl, rfl, by unfold i64ok; omega⟩
theorem okB : OpV opB 0 0 0 2 (-1) := ⟨rfl, by simp [opB, Value.oneCell'], rfl, rfl, rfl, rfl, rfl, by unfold i64ok; omega⟩
def l2 : List Oi := [⟨0, 0, 0, 1, 4⟩, ⟨0, 0, 0, 2, -1⟩]
def l1 : List Oi := [⟨0, 0, 0, 1, 4⟩]
theorem ops_two {w : World} {b : Nat} (h : w.heap[b]? = some (.cells (opA ++ opB) 51 (0, 0))) (hb : b < w.heap.size) : OpsAt w w.heap.size b 0 l2 := by
  refine ⟨hb, fun i x hx => ?_⟩
  match i, hx with
  | 0, hx =>
    cases hx
    refine ⟨opA, okA, fun k v hk => ?_⟩
    rw [cell_of_row _ _ _ _ _ _ h]
    have hl : k < 19 := (Array.getElem?_eq_some_iff.1 hk).1
    rw [Array.getElem?_append_left (show 0 + 0 * 19 + k < opA.size by simp; exact hl)]
    simpa using hk
  | 1, hx =>
    cases hx
    refine ⟨opB, okB, fun k v hk => ?_⟩
    rw [cell_of_row _ _ _ _ _ _ h]
    rw [Array.getElem?_append_right (show opA.size ≤ 0 + 1 * 19 + k by simp [opA])]
    simpa [opA] using hk
  | i + 2, hx => simp [l2] at hx
theorem sort_up {l : List Int} (h : l.Pairwise (fun a b => a ≤ b)) : (l.mergeSort fun x y => decide (x ≤ y)) = l := List.mergeSort_of_pairwise (h.imp (fun h => by simpa using h))
theorem qT2 : quT l2 = [1, 2, 4] := by
  unfold quT
  have e : keysOf [(qTo l2 l2.length).1, (qTo l2 l2.length).2] = [1, 4, 2, 4] := by decide +kernel
  rw [e, perm_sorted (show [1, 4, 2, 4].Perm [1, 2, 4, 4] by decide), sort_up (by decide)]
  decide +kernel
theorem qT1 : quT l1 = [1, 4] := by
  unfold quT
  have e : keysOf [(qTo l1 l1.length).1, (qTo l1 l1.length).2] = [1, 4, 4] := by decide +kernel
  rw [e, sort_up (by decide)]
  decide +kernel
theorem qL2 : quL l2 = [] := by unfold quL; rw [qT2]; decide +kernel
theorem qL1 : quL l1 = [4] := by unfold quL; rw [qT1]; decide +kernel
theorem sp2 : spnTo l2 2 = (1, 4) := by decide +kernel
set_option maxRecDepth 100000 in
set_option maxHeartbeats 4000000 in
theorem live45 (W : World) : Calls Try.prog 6 #[] W fun e w' => e = .returned (.bool true) ∧ Below W.heap.size W w' := by
  obtain ⟨w1, hw1⟩ : ∃ w1, W.alloc (.cells #[.int .i64 0, .int .i64 0, .int .i64 0, .int .i64 0, .int .i64 0, .string { data := #[] }, .int .i64 0, .int .i64 0, .slice none 0 0, .int .i64 0, .int .i64 0, .int .i64 0, .slice none 0 0, .int .i64 0, .int .i64 0, .string { data := #[] }, .slice none 0 0, .int .i64 1, .int .i64 4, .int .i64 0, .int .i64 0, .int .i64 0, .int .i64 0, .int .i64 0, .string { data := #[] }, .int .i64 0, .int .i64 0, .slice none 0 0, .int .i64 0, .int .i64 0, .int .i64 0, .slice none 0 0, .int .i64 0, .int .i64 0, .string { data := #[] }, .slice none 0 0, .int .i64 2, .int .i64 (-1)] 51) = w1 := ⟨_, rfl⟩
  have h1 : w1.heap[W.heap.size]? = some (.cells (opA ++ opB) 51 (0, 0)) := by
    rw [← hw1]
    exact heap_alloc_new W (.cells #[.int .i64 0, .int .i64 0, .int .i64 0, .int .i64 0, .int .i64 0, .string { data := #[] }, .int .i64 0, .int .i64 0, .slice none 0 0, .int .i64 0, .int .i64 0, .int .i64 0, .slice none 0 0, .int .i64 0, .int .i64 0, .string { data := #[] }, .slice none 0 0, .int .i64 1, .int .i64 4, .int .i64 0, .int .i64 0, .int .i64 0, .int .i64 0, .int .i64 0, .string { data := #[] }, .int .i64 0, .int .i64 0, .slice none 0 0, .int .i64 0, .int .i64 0, .int .i64 0, .slice none 0 0, .int .i64 0, .int .i64 0, .string { data := #[] }, .slice none 0 0, .int .i64 2, .int .i64 (-1)] 51)
  have HO := Lib.hid (ops_two h1 (g_lt h1))
  have HB1 := Lib.hid (show Below W.heap.size W w1 by rw [← hw1]; exact (Below.refl _ _).alloc (Nat.le_refl _) _)
  have HW := Lib.hid hw1
  have CS := Lib.hid (show Calls Try.prog 17 #[.slice (some ⟨W.heap.size, 0, none⟩) 2 2] w1 _ from l_span W.heap.size l2 2 w1 HO.out (by decide))
  have CQ2 := Lib.hid (fun (w : World) (hb : Below w1.heap.size w1 w) => (show Calls Try.prog 18 #[.slice (some ⟨W.heap.size, 0, none⟩) 2 2] w _ from l_quiet W.heap.size l2 2 w (HO.out.at hb) (by decide)))
  have CQ1 := Lib.hid (fun (w : World) (hb : Below w1.heap.size w1 w) => (show Calls Try.prog 18 #[.slice (some ⟨W.heap.size, 0, none⟩) 1 2] w _ from l_quiet W.heap.size l1 2 w ((HO.out.at hb).take 1) (by decide)))
  clear hw1 h1
  go_enter Try.func6, Try.ntmps6
  go_upto_region 2 with fail
  rw [HW.out]
  go_wp2_with fail
  refine CS.out.mono ?_
  rintro e w2 ⟨rfl, hb2⟩
  rw [show spnTo l2 l2.length = (1, 4) from sp2]
  have HB2 := Lib.hid hb2
  clear hb2
  go_wp2_with fail
  refine (CQ2.out w2 HB2.out).mono ?_
  rintro e w3 ⟨v3, rfl, ho3, hb3⟩
  rw [qL2] at ho3
  obtain ⟨a3, c3, rfl, -, -, -⟩ := ho3.shape
  have HB3 := Lib.hid (HB2.out.trans (hb3.mono HB2.out.size))
  clear hb3 ho3
  go_wp2_with fail
  refine (CQ1.out w3 HB3.out).mono ?_
  rintro e w4 ⟨v4, rfl, ho4, hb4⟩
  rw [qL1] at ho4
  obtain ⟨a4, c4, rfl, -, -, -⟩ := ho4.shape
  have HB4 := Lib.hid (HB3.out.trans (hb4.mono HB3.out.size))
  clear hb4 ho4
  go_wp2_with fail
  go_ret
  exact ⟨rfl, HB1.out.trans (HB4.out.mono HB1.out.size)⟩
end Go.Proofs.Ytfilbdmenlhoiaa
