/- Law 37: live. -/
import Derived.Test.YtofgkhoemgimeaaHop
namespace Go.Proofs.Ytofgkhoemgimeaa
open Go.ChangeShapes Go.WideShapes Go.ChangeAt Go.RowKit
set_option linter.unusedVariables false
set_option linter.unusedSimpArgs false
def ovE (w f t : Int) : Ov := ⟨w, 0, 0, 0, 0, ⟨#[]⟩, 0, 0, [], ⟨0, 0, 0, .nil, 0, 0, ⟨#[]⟩, []⟩, f, t⟩
def ovK (w f t : Int) : Array Value := ovCs (ovE w f t) (.slice none 0 0) (.slice none 0 0) (.slice none 0 0)
theorem ovE_val (W : World) (w f t : Int) (hw : i64ok w) (hf : i64ok f) (ht : i64ok t) : OvVal W W.heap.size (ovK w f t) (ovE w f t) := by
  have z : i64ok 0 := by unfold i64ok; omega
  exact ⟨none, none, none, 0, 0, 0, 0, rfl, Kids.nought _ _, .inl rfl, .inl rfl, by simp [ovE], by simp [ovE], ⟨hw, z, z, z, z, z, z, z, z, z, z, z, hf, ht⟩⟩
theorem ovE_most : mostN [ovE 0 1 4, ovE 1 2 3] = 2 := by
  have h1 : ((mTo [ovE 0 1 4, ovE 1 2 3] 2).map Prod.fst) = [1, 4, 2, 3] := by decide +kernel
  have h2 : mTimes [ovE 0 1 4, ovE 1 2 3] = [1, 2, 3, 4] := by
    rw [mTimes, show [ovE 0 1 4, ovE 1 2 3].length = 2 from rfl, h1]
    simp [List.mergeSort, List.MergeSort.Internal.splitInTwo]
  rw [mostN, h2]
  decide +kernel
theorem ovE_same : ovsB [ovE 0 1 4] [ovE 0 1 4] = true := by decide +kernel
theorem ovK_one (w f t : Int) : (ovK w f t).all (·.oneCell') = true := by first | kernel_rfl | simp [ovK, ovCs, Value.oneCell']
def zK : Array Value := ovK 0 0 0
set_option maxRecDepth 100000 in
set_option maxHeartbeats 16000000 in
theorem live37 (W : World) : Calls Try.prog 8 #[] W fun e w' => e = .returned (.bool true) ∧ Below W.heap.size W w' := by
  obtain ⟨G, hG⟩ : ∃ G, W.heap.size = G := ⟨_, rfl⟩
  obtain ⟨wz, hwz⟩ : ∃ wz, (W.alloc (.cells zK 41)).alloc (.cells zK 41) = wz := ⟨_, rfl⟩
  have Z0 := Lib.hid (show wz.heap[G]? = some (.cells zK 41 (0, 0)) ∧ wz.heap[G + 1]? = some (.cells zK 41 (0, 0)) ∧ Below G W wz ∧ wz.heap.size = G + 2 from by
    subst hG
    have h1 := heap_alloc_new W (.cells zK 41)
    have h2 := heap_alloc_new (W.alloc (.cells zK 41)) (.cells zK 41)
    rw [World.size_alloc] at h2
    rw [← hwz]
    exact ⟨(((Below.refl _ _).alloc (Nat.le_refl _) _ : Below (W.alloc (.cells zK 41)).heap.size (W.alloc (.cells zK 41)) _).block _ (by simp)).trans h1, h2, ((Below.refl _ _).alloc (Nat.le_refl _) _).alloc (by simp) _, by simp⟩)
  obtain ⟨x1, hx1⟩ : ∃ x1, wz.setCells G 0 (ovK 0 1 4).toList = x1 := ⟨_, rfl⟩
  obtain ⟨x2, hx2⟩ : ∃ x2, x1.setCells (G + 1) 0 (ovK 1 2 3).toList = x2 := ⟨_, rfl⟩
  have T0 := Lib.hid (there_row Z0.out.1 19 (Nat.le_refl _))
  have T1 := Lib.hid (show x1.there (G + 1) 0 19 from hx1 ▸ World.there_setCells (there_row Z0.out.2.1 19 (Nat.le_refl _)) _ _ _)
  have H2 := Lib.hid (show x2.rangeAt G 0 (ovK 0 1 4).toList ∧ x2.rangeAt (G + 1) 0 (ovK 1 2 3).toList ∧ Below G W x2 ∧ G + 2 ≤ x2.heap.size from by
    have b1 : Below G wz x1 := hx1 ▸ setCells_below G G 0 (Nat.le_refl _) _ _ _
    have b2 : Below G x1 x2 := hx2 ▸ setCells_below G (G + 1) 0 (by omega) _ _ _
    refine ⟨hx2 ▸ World.rangeAt_setCells_apart (hx1 ▸ World.rangeAt_setCells_same _ _ _ _ T0.out) _ _ _ (.inl (by omega)), hx2 ▸ World.rangeAt_setCells_same _ _ _ _ T1.out, (Z0.out.2.2.1.trans b1).trans b2, ?_⟩
    have := b1.size; have := b2.size; have := Z0.out.2.2.2
    omega)
  have X1 := Lib.hid hx1
  have X2 := Lib.hid hx2
  have O1 := Lib.hid (ovK_one 0 1 4)
  have O2 := Lib.hid (ovK_one 1 2 3)
  clear hx1 hx2
  simp only [zK, ovK, ovCs, ovE] at hwz
  rw [hG]
  go_enter Try.func8, Try.ntmps8
  go_upto_region 2 with (first | refine wpl_stow rfl _ _ rfl G 0 (ovK 0 1 4) rfl rfl rfl O1.out T0.out X1.out ?_ | refine wpl_stow rfl _ _ rfl (G + 1) 0 (ovK 1 2 3) rfl rfl rfl O2.out T1.out X2.out ?_)
  have HX := Lib.hid (fun (w : World) (h : Below x2.heap.size x2 w) => (show w.rangeAt G 0 (ovK 0 1 4).toList ∧ w.rangeAt (G + 1) 0 (ovK 1 2 3).toList from
    ⟨fun j v hv => (h.cell (p := ⟨G, 0 + j, none⟩) (by have := H2.out.2.2.2; show G < _; omega)).trans (H2.out.1 j v hv), fun j v hv => (h.cell (p := ⟨G + 1, 0 + j, none⟩) (by have := H2.out.2.2.2; show G + 1 < _; omega)).trans (H2.out.2.1 j v hv)⟩))
  have i0 : i64ok 0 := by unfold i64ok; omega
  have i1 : i64ok 1 := by unfold i64ok; omega
  have i2 : i64ok 2 := by unfold i64ok; omega
  have i3 : i64ok 3 := by unfold i64ok; omega
  have i4 : i64ok 4 := by unfold i64ok; omega
  have i5 : i64ok 5 := by unfold i64ok; omega
  have IA := Lib.hid (fun (w : World) => ovE_val w 0 1 4 i0 i1 i4)
  have IB := Lib.hid (fun (w : World) => ovE_val w 1 2 3 i1 i2 i3)
  have IC := Lib.hid (fun (w : World) => ovE_val w 0 5 0 i0 i5 i0)
  clear i0 i1 i2 i3 i4 i5
  obtain ⟨x3, hx3⟩ : ∃ x3, x2.alloc (.cells (([ovK 0 1 4, ovK 1 2 3] : List (Array Value)).flatMap (·.toList)).toArray 41) = x3 := ⟨_, rfl⟩
  have B3 := Lib.hid (show Below x2.heap.size x2 x3 from hx3 ▸ (Below.refl _ _).alloc (Nat.le_refl _) _)
  have R3 := Lib.hid (show Calls Try.prog 15 #[.slice (some ⟨x2.heap.size, 0, none⟩) 2 2] x3 fun e w' => e = .returned (.int .i64 (mostN [ovE 0 1 4, ovE 1 2 3])) ∧ Below x3.heap.size x3 w' from hist_most [ovE 0 1 4, ovE 1 2 3] _ x2.heap.size x3 (ops_row (css := [ovK 0 1 4, ovK 1 2 3]) (l := [ovE 0 1 4, ovE 1 2 3]) (Nat.le_refl _) rfl (fun i cs x h1 h2 => by
    match i, h1, h2 with
    | 0, h1, h2 => simp at h1 h2; subst h1 h2; exact IA.out _
    | 1, h1, h2 => simp at h1 h2; subst h1 h2; exact IB.out _) hx3) B3.out.size (by simp))
  have X3 := Lib.hid hx3
  clear hx3
  have M2 := ovE_most
  rw [M2] at R3
  clear M2
  go_wp2_with (first | refine wpl_opw rfl _ rfl G 0 rfl rfl H2.out.1 ?_ | refine wpl_opw rfl _ rfl (G + 1) 0 rfl rfl H2.out.2.1 ?_ | refine wpl_ops rfl 2 _ rfl [ovK 0 1 4, ovK 1 2 3] rfl (by omega) (by simp [ovK, ovCs]) (by kernel_rfl) X3.out ?_)
  refine R3.out.mono ?_
  rintro e y1 ⟨rfl, hb1⟩
  have HY := Lib.hid (B3.out.trans (hb1.mono B3.out.size))
  clear hb1
  obtain ⟨q1, q2⟩ := HX.out y1 HY.out
  have AH := Lib.hid (show Calls Try.prog 19 #[.agg (ovK 0 1 4), .agg (ovK 1 2 3)] y1 fun e w' => e = .returned (.bool false) ∧ Below y1.heap.size y1 w' from hist_ahead (IA.out y1) (IB.out y1))
  go_wp2_with (first | refine wpl_opw rfl _ rfl G 0 rfl rfl q1 ?_ | refine wpl_opw rfl _ rfl (G + 1) 0 rfl rfl q2 ?_)
  refine AH.out.mono ?_
  rintro e y2 ⟨rfl, hb2⟩
  have HY2 := Lib.hid (HY.out.trans (hb2.mono HY.out.size))
  clear hb2 q1 q2 AH
  obtain ⟨q1, q2⟩ := HX.out y2 HY2.out
  have AH := Lib.hid (show Calls Try.prog 19 #[.agg (ovK 1 2 3), .agg (ovK 0 5 0)] y2 fun e w' => e = .returned (.bool true) ∧ Below y2.heap.size y2 w' from hist_ahead (IB.out y2) (IC.out y2))
  go_wp2_with (first | refine wpl_opw rfl _ rfl G 0 rfl rfl q1 ?_ | refine wpl_opw rfl _ rfl (G + 1) 0 rfl rfl q2 ?_)
  refine AH.out.mono ?_
  rintro e y3 ⟨rfl, hb3⟩
  have HY3 := Lib.hid (HY2.out.trans (hb3.mono HY2.out.size))
  clear hb3 q1 q2 AH
  obtain ⟨q1, q2⟩ := HX.out y3 HY3.out
  obtain ⟨y4, hy4⟩ : ∃ y4, y3.alloc (.cells (([ovK 0 1 4] : List (Array Value)).flatMap (·.toList)).toArray 41) = y4 := ⟨_, rfl⟩
  obtain ⟨y5, hy5⟩ : ∃ y5, y4.alloc (.cells (([ovK 0 1 4] : List (Array Value)).flatMap (·.toList)).toArray 41) = y5 := ⟨_, rfl⟩
  have B4 := Lib.hid (show Below y3.heap.size y3 y4 from hy4 ▸ (Below.refl _ _).alloc (Nat.le_refl _) _)
  have B5 := Lib.hid (show Below y4.heap.size y4 y5 from hy5 ▸ (Below.refl _ _).alloc (Nat.le_refl _) _)
  have W4 := Lib.hid (ops_row (css := [ovK 0 1 4]) (l := [ovE 0 1 4]) (Nat.le_refl _) rfl (fun i cs x h1 h2 => by
    match i, h1, h2 with
    | 0, h1, h2 => simp at h1 h2; subst h1 h2; exact IA.out _) hy4)
  have W5 := Lib.hid (ops_row (css := [ovK 0 1 4]) (l := [ovE 0 1 4]) B4.out.size rfl (fun i cs x h1 h2 => by
    match i, h1, h2 with
    | 0, h1, h2 => simp at h1 h2; subst h1 h2; exact (IA.out y3).below (Nat.le_refl _) B4.out) hy5)
  have SM := Lib.hid (show Calls Try.prog 21 #[.slice (some ⟨y3.heap.size, 0, none⟩) 1 1, .slice (some ⟨y4.heap.size, 0, none⟩) 1 1] y5 fun e w' => e = .returned (.bool (ovsB [ovE 0 1 4] [ovE 0 1 4])) ∧ Below y5.heap.size y5 w' from hist_Same [ovE 0 1 4] [ovE 0 1 4] _ _ y3.heap.size y5 (W4.out.below B4.out.size B5.out) W5.out (Nat.le_trans B4.out.size B5.out.size) (by simp))
  rw [ovE_same] at SM
  obtain ⟨q3, q4⟩ := HX.out y4 (HY3.out.trans (B4.out.mono HY3.out.size))
  have Y4 := Lib.hid hy4
  have Y5 := Lib.hid hy5
  clear hy4 hy5
  go_wp2_with (first | refine wpl_opw rfl _ rfl G 0 rfl rfl q1 ?_ | refine wpl_opw rfl _ rfl G 0 rfl rfl q3 ?_ | refine wpl_ops rfl 1 _ rfl [ovK 0 1 4] rfl (by omega) (by simp [ovK, ovCs]) (by kernel_rfl) Y4.out ?_ | refine wpl_ops rfl 1 _ rfl [ovK 0 1 4] rfl (by omega) (by simp [ovK, ovCs]) (by kernel_rfl) Y5.out ?_)
  refine SM.out.mono ?_
  rintro e y6 ⟨rfl, hb6⟩
  have HF := Lib.hid (H2.out.2.2.1.trans ((((HY3.out.trans (B4.out.mono HY3.out.size)).trans (B5.out.mono (Nat.le_trans HY3.out.size B4.out.size))).trans (hb6.mono (Nat.le_trans HY3.out.size (Nat.le_trans B4.out.size B5.out.size)))).mono (by have := H2.out.2.2.2; omega)))
  clear hb6 q1 q2 q3 q4
  go_wp2_with fail
  go_ret
  exact ⟨rfl, HF.out⟩
end Go.Proofs.Ytofgkhoemgimeaa
