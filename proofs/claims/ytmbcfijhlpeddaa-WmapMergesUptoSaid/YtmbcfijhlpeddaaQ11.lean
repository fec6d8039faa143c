/- Put together by program (merge2.py): Rpt Mko Opene Openes Rmg. -/
import Derived.Deep.DeepCutAuto
import Derived.Deep.CutBlock
import Derived.BigQuiet
import Derived.Test.YtmbcfijhlpeddaaD11
import Derived.Test.YtmbcfijhlpeddaaQ8
import Derived.Test.YtmbcfijhlpeddaaQ10
/- Reference 26: Put. -/
namespace Go.Proofs.Ytmbcfijhlpeddaa
open Go.ChangeShapes Go.WideShapes Go.ChangeAt Go.RowKit
set_option linter.unusedVariables false
set_option linter.unusedSimpArgs false
attribute [local go_sem ↓] Go.wp_at_zero Go.wp_at_succ
set_option maxRecDepth 100000 in
set_option maxHeartbeats 8000000 in
theorem r26_put (v : Value) (l : List En) (a b k n : Int) (s : Value) (ks : Fo) (lim B : Nat) (W : World) (h : OwnE W lim B v l) (hK : Kids W lim s ks) (hlB : lim ≤ B) (hB : B ≤ W.heap.size) (hn : l.length ≤ 90000) :
    Calls Try.prog 11 #[v, .agg #[.int .i64 a, .int .i64 b, .int .i64 k, .int .i64 n, s]] W fun e w' => ∃ v' z, e = .returned (.tuple #[v', .bool z]) ∧ ((hasE l a b = true ∧ z = false ∧ v' = v) ∨ (hasE l a b = false ∧ z = true ∧ OwnE w' lim W.heap.size v' (l ++ [⟨a, b, k, n, ks⟩]))) ∧ Below W.heap.size W w' := by
  obtain ⟨sp, sm, sc, rfl, -, -, hsm⟩ := hK.shape
  obtain ⟨w0, hw0, r0, hB0, hs0⟩ := box5 W a b k n (.slice sp sm sc) 36
  have hO := h.below hB0 (Nat.le_trans hlB hB)
  have HO := Lib.hid hO
  have CH := Lib.hid (r25_has v l a b w0.heap.size w0 (hO.rowN (by omega)) (Nat.le_refl _) (by omega))
  obtain ⟨x0, x1, x2, x3, x4⟩ := cells5 r0
  have HW0 := Lib.hid hw0.symm
  have HB0 := Lib.hid hB0
  obtain ⟨X, hX⟩ : ∃ X, W.heap.size = X := ⟨_, rfl⟩
  rw [hX] at x0 x1 x2 x3 x4 r0
  have HX := Lib.hid hX
  clear h hw0 hB0
  go_enter Try.func11, Try.ntmps11
  go_upto_region 1 with fail
  rw [HW0.out]
  clear hX
  go_wp2_with fail
  refine CH.out.mono ?_
  rintro e w1 ⟨rfl, hb1⟩
  obtain ⟨z, hz⟩ : ∃ z, hasE l a b = z := ⟨_, rfl⟩
  rw [hz]
  cases z
  case true =>
    have HZ := Lib.hid hz
    have H1 := Lib.hid (HB0.out.trans (hb1.mono HB0.out.size))
    clear hz hb1 x0 x1 x2 x3 x4 r0
    go_wp2_with fail
    go_ret2
    exact ⟨_, _, rfl, .inl ⟨HZ.out, rfl, rfl⟩, H1.out⟩
  case false =>
    have HZ := Lib.hid hz
    have H1 := Lib.hid (HB0.out.trans (hb1.mono HB0.out.size))
    obtain ⟨wc, rfl⟩ : ∃ wc, wc = w1 := ⟨_, rfl⟩
    have HBX := Lib.hid (fun w' (hb' : Below wc.heap.size wc w') => cells5 ((hb'.block X (by have := hb1.size; have := HX.out; omega)).trans ((hb1.block X (by have := HX.out; omega)).trans r0)))
    have MS := Lib.hid (fun w' (hb' : Below wc.heap.size wc w') => (show w'.cell? ⟨X, 0, none⟩ = some (.int .i64 a) ∧ w'.cell? ⟨X, 1, none⟩ = some (.int .i64 b) ∧ w'.cell? ⟨X, 2, none⟩ = some (.int .i64 k) ∧ w'.cell? ⟨X, 3, none⟩ = some (.int .i64 n) ∧ w'.cell? ⟨X, 4, none⟩ = some (.slice sp sm sc) ∧ Below wc.heap.size wc w' from by
      obtain ⟨c0, c1, c2, c3, c4⟩ := HBX.out w' hb'
      exact ⟨c0, c1, c2, c3, c4, hb'⟩))
    have KD := Lib.hid (fun w' (hb' : Below wc.heap.size wc w') => ((hK.carry (HB0.out.mono (Nat.le_trans hlB hB))).carry (hb1.mono (by have := HB0.out.size; omega))).below (show lim ≤ wc.heap.size by have := HB0.out.size; have := hb1.size; omega) hb')
    have hO2 : OwnE wc lim B v l := HO.out.below hb1 (by have := HB0.out.size; omega)
    obtain ⟨vp, vc, rfl, hsrc⟩ : ∃ vp vc, v = .slice vp l.length vc ∧ SrcE wc lim vp l := by
      rcases hO2.form with ⟨rfl, rfl⟩ | ⟨g, c, rfl, _, _, _, _, h3⟩
      · exact ⟨_, _, rfl, fun i e he => by simp at he⟩
      · exact ⟨_, _, rfl, h3⟩
    have ST := Lib.hid (fun w' (hb' : Below wc.heap.size wc w') => (show SrcE w' lim vp l from fun u z hz => by
      have hv := hO2.below hb' (by have := HB0.out.size; have := hb1.size; omega)
      rcases hv.form with ⟨h1, rfl⟩ | ⟨g, c, h1, _, _, _, _, h3⟩
      · simp at hz
      · simp only [Value.slice.injEq] at h1
        rw [h1.1]
        exact h3 u z hz))
    have hlc : lim ≤ wc.heap.size := by have := HB0.out.size; have := hb1.size; omega
    have FIN := Lib.hid (fun (vv : Value) (w' : World) (hO : OwnE w' lim wc.heap.size vv ([] ++ l ++ [⟨a, b, k, n, ks⟩])) => (show OwnE w' lim W.heap.size vv (l ++ [⟨a, b, k, n, ks⟩]) by
      have := hO.mono (B' := W.heap.size) (by have := HB0.out.size; have := hb1.size; omega)
      simpa using this))
    have HBW := H1
    clear hO2 hsrc hb1 hK hsm
    go_wp2_with fail
    refine wp_region_held_drew (S := fun w' => w'.cell? ⟨X, 0, none⟩ = some (.int .i64 a) ∧ w'.cell? ⟨X, 1, none⟩ = some (.int .i64 b) ∧ w'.cell? ⟨X, 2, none⟩ = some (.int .i64 k) ∧ w'.cell? ⟨X, 3, none⟩ = some (.int .i64 n) ∧ w'.cell? ⟨X, 4, none⟩ = some (.slice sp sm sc) ∧ Below wc.heap.size wc w') (by kernel_rfl) ?_ (fun hHeld => ?_)
    · (try dsimp only); exact MS.out _ ((Below.refl _ _).drew)
    refine wpAnyH_take (i := 1) (v := ?v1) rfl (by kernel_rfl) (by kernel_rfl) (by kernel_rfl) (fun _ _ _ h => h) (Or.inl ⟨by kernel_rfl, ?hy1⟩) (by assumption) ?rest1
    case hy1 => intro w hSw; (try dsimp only at hSw); go_simp; (first | done | with_reducible rfl)
    (try simp only [Act.put, List.getElem_toArray, List.getElem_cons_zero, List.getElem_cons_succ, List.setIfInBounds_toArray, List.set_cons_zero, List.set_cons_succ])
    refine wpAnyH_take (i := 3) (v := ?v2) rfl (by kernel_rfl) (by kernel_rfl) (by kernel_rfl) (fun _ _ _ h => h) (Or.inl ⟨by kernel_rfl, ?hy2⟩) (by assumption) ?rest2
    case hy2 => intro w hSw; (try dsimp only at hSw); go_simp; (first | done | with_reducible rfl)
    (try simp only [Act.put, List.getElem_toArray, List.getElem_cons_zero, List.getElem_cons_succ, List.setIfInBounds_toArray, List.set_cons_zero, List.set_cons_succ])
    have HB0 : Hid (Below wc.heap.size wc wc.drew) := Lib.hid ((Below.refl _ _).drew)
    generalize wc.drew = u0 at *
    refine wpAnyH_ready (rs := [0, 4]) (by kernel_rfl) (by simp) ?_
    refine AllReadyH.cons rfl (fun K hK => ?_) (AllReadyH.cons rfl (fun K hK => ?_) AllReadyH.nil)
    · go_simp
      obtain ⟨u1, hu⟩ : ∃ u1, u0.alloc (.cells #[] 36) = u1 := ⟨_, rfl⟩
      have bb : Below u0.heap.size u0 u1 := by rw [← hu]; exact (Below.refl _ _).alloc (Nat.le_refl _) _
      have hn := heap_alloc_new u0 (.cells #[] 36)
      have HZb := Lib.hid (show u1.heap.size = u0.heap.size + 1 by rw [← hu]; simp)
      rw [hu] at hn ⊢
      have HB1 := Lib.hid (HB0.out.trans (bb.mono HB0.out.size))
      have HT := Lib.hid (OwnE.emp (lim := lim) (B := wc.heap.size) hn HB0.out.size)
      clear hu
      refine hK.out _ _ (MS.out _ HB1.out) (fun hHeld2 => ?_)
      clear hK K hHeld
      have hHeld := hHeld2
      clear hHeld2
      (try simp only [Act.put, List.getElem_toArray, List.getElem_cons_zero, List.getElem_cons_succ, List.setIfInBounds_toArray, List.set_cons_zero, List.set_cons_succ])
      refine wpAnyH_ready (rs := [2, 4]) (by kernel_rfl) (by simp) ?_
      refine AllReadyH.cons rfl (fun K hK => ?_) (AllReadyH.cons rfl (fun K hK => ?_) AllReadyH.nil)
      · refine step_plain rfl (wp_append_e _ _ rfl rfl HT.out rfl rfl (ST.out _ HB1.out) (by have := HB1.out.size; omega) hlc (by simp only [List.length_nil]; omega) ?_)
        intro v4 u2 hO hg
        have HB2 := Lib.hid (HB1.out.grown hg HB1.out.size HT.out.ownLe)
        have HO1 := Lib.hid hO
        clear hO hg
        refine hK.out _ _ (MS.out _ HB2.out) (fun hHeld2 => ?_)
        clear hK K hHeld
        have hHeld := hHeld2
        clear hHeld2
        (try simp only [Act.put, List.getElem_toArray, List.getElem_cons_zero, List.getElem_cons_succ, List.setIfInBounds_toArray, List.set_cons_zero, List.set_cons_succ])
        refine wpAnyH_ready (rs := [4]) (by kernel_rfl) (by simp) ?_
        refine AllReadyH.cons rfl (fun K hK => ?_) AllReadyH.nil
        go_simp
        obtain ⟨u3, hu⟩ : ∃ u3, u2.alloc (.cells #[.int .i64 a, .int .i64 b, .int .i64 k, .int .i64 n, .slice sp sm sc] 36) = u3 := ⟨_, rfl⟩
        have bb : Below u2.heap.size u2 u3 := by rw [← hu]; exact (Below.refl _ _).alloc (Nat.le_refl _) _
        have hn := heap_alloc_new u2 (.cells #[.int .i64 a, .int .i64 b, .int .i64 k, .int .i64 n, .slice sp sm sc] 36)
        have HZa := Lib.hid (show u3.heap.size = u2.heap.size + 1 by rw [← hu]; simp)
        rw [hu] at hn ⊢
        have HB3 := Lib.hid (HB2.out.trans (bb.mono HB2.out.size))
        have HY := Lib.hid hn
        have HO1 := Lib.hid (HO1.out.below bb (by have := HB2.out.size; omega))
        refine hK.out _ _ (MS.out _ HB3.out) (fun hHeld2 => ?_)
        clear hK K hHeld
        have hHeld := hHeld2
        clear hHeld2
        (try simp only [Act.put, List.getElem_toArray, List.getElem_cons_zero, List.getElem_cons_succ, List.setIfInBounds_toArray, List.set_cons_zero, List.set_cons_succ])
        refine wpAnyH_ready (rs := [5]) (by kernel_rfl) (by simp) ?_
        refine AllReadyH.cons rfl (fun K hK => ?_) AllReadyH.nil
        refine step_plain rfl (wp_append_e _ _ rfl rfl HO1.out rfl rfl (src1 HY.out (KD.out _ HB3.out)) (by have := HB3.out.size; omega) hlc (by simp only [List.nil_append]; omega) ?_)
        intro v8 u8 hO hg
        have HB4 := Lib.hid (HB3.out.grown hg HB3.out.size HO1.out.ownLe)
        have HO2 := Lib.hid hO
        clear hO hg
        refine hK.out _ _ (MS.out _ HB4.out) (fun hHeld2 => ?_)
        clear hK K hHeld
        have hHeld := hHeld2
        clear hHeld2
        (try simp only [Act.put, List.getElem_toArray, List.getElem_cons_zero, List.getElem_cons_succ, List.setIfInBounds_toArray, List.set_cons_zero, List.set_cons_succ])
        refine wpAnyH_take (i := 6) (v := ?v3) rfl (by kernel_rfl) (by kernel_rfl) (by kernel_rfl) (fun _ _ _ h => h) (Or.inl ⟨by kernel_rfl, ?hy3⟩) (by assumption) ?rest3
        case hy3 => intro w hSw; (try dsimp only at hSw); go_simp; (first | done | with_reducible rfl)
        (try simp only [Act.put, List.getElem_toArray, List.getElem_cons_zero, List.getElem_cons_succ, List.setIfInBounds_toArray, List.set_cons_zero, List.set_cons_succ])
        refine wpAnyH_take (i := 7) (v := ?v4) rfl (by kernel_rfl) (by kernel_rfl) (by kernel_rfl) (fun _ _ _ h => h) (Or.inl ⟨by kernel_rfl, ?hy4⟩) (by assumption) ?rest4
        case hy4 => intro w hSw; (try dsimp only at hSw); go_simp; (first | done | with_reducible rfl)
        (try simp only [Act.put, List.getElem_toArray, List.getElem_cons_zero, List.getElem_cons_succ, List.setIfInBounds_toArray, List.set_cons_zero, List.set_cons_succ])
        refine wpAnyH_done (by kernel_rfl) ?_ _
        go_wp2_with fail
        go_ret2
        exact ⟨_, _, rfl, .inr ⟨HZ.out, rfl, FIN.out _ _ HO2.out⟩, HBW.out.trans (HB4.out.mono HBW.out.size)⟩
      · go_simp
        obtain ⟨u2, hu⟩ : ∃ u2, u1.alloc (.cells #[.int .i64 a, .int .i64 b, .int .i64 k, .int .i64 n, .slice sp sm sc] 36) = u2 := ⟨_, rfl⟩
        have bb : Below u1.heap.size u1 u2 := by rw [← hu]; exact (Below.refl _ _).alloc (Nat.le_refl _) _
        have hn := heap_alloc_new u1 (.cells #[.int .i64 a, .int .i64 b, .int .i64 k, .int .i64 n, .slice sp sm sc] 36)
        have HZc := Lib.hid (show u2.heap.size = u1.heap.size + 1 by rw [← hu]; simp)
        rw [hu] at hn ⊢
        have HB2 := Lib.hid (HB1.out.trans (bb.mono HB1.out.size))
        have HY := Lib.hid hn
        have HTT := Lib.hid (HT.out.below bb (by have := HB1.out.size; omega))
        refine hK.out _ _ (MS.out _ HB2.out) (fun hHeld2 => ?_)
        clear hK K hHeld
        have hHeld := hHeld2
        clear hHeld2
        (try simp only [Act.put, List.getElem_toArray, List.getElem_cons_zero, List.getElem_cons_succ, List.setIfInBounds_toArray, List.set_cons_zero, List.set_cons_succ])
        refine wpAnyH_ready (rs := [2]) (by kernel_rfl) (by simp) ?_
        refine AllReadyH.cons rfl (fun K hK => ?_) AllReadyH.nil
        refine step_plain rfl (wp_append_e _ _ rfl rfl HTT.out rfl rfl (ST.out _ HB2.out) (by have := HB2.out.size; omega) hlc (by simp only [List.length_nil]; omega) ?_)
        intro v4 u3 hO hg
        have HB3 := Lib.hid (HB2.out.grown hg HB2.out.size HTT.out.ownLe)
        have HY3 := Lib.hid ((hg.block _ (by have := HZb.out; have := HZc.out; omega) (fun e => by have := HZb.out; have := HZc.out; have e' := Option.some.inj (show some u1.heap.size = some u0.heap.size from e); omega)).trans HY.out)
        have HO1 := Lib.hid hO
        clear hO hg
        refine hK.out _ _ (MS.out _ HB3.out) (fun hHeld2 => ?_)
        clear hK K hHeld
        have hHeld := hHeld2
        clear hHeld2
        (try simp only [Act.put, List.getElem_toArray, List.getElem_cons_zero, List.getElem_cons_succ, List.setIfInBounds_toArray, List.set_cons_zero, List.set_cons_succ])
        refine wpAnyH_ready (rs := [5]) (by kernel_rfl) (by simp) ?_
        refine AllReadyH.cons rfl (fun K hK => ?_) AllReadyH.nil
        refine step_plain rfl (wp_append_e _ _ rfl rfl HO1.out rfl rfl (src1 HY3.out (KD.out _ HB3.out)) (by have := HB3.out.size; omega) hlc (by simp only [List.nil_append]; omega) ?_)
        intro v8 u8 hO hg
        have HB4 := Lib.hid (HB3.out.grown hg HB3.out.size HO1.out.ownLe)
        have HO2 := Lib.hid hO
        clear hO hg
        refine hK.out _ _ (MS.out _ HB4.out) (fun hHeld2 => ?_)
        clear hK K hHeld
        have hHeld := hHeld2
        clear hHeld2
        (try simp only [Act.put, List.getElem_toArray, List.getElem_cons_zero, List.getElem_cons_succ, List.setIfInBounds_toArray, List.set_cons_zero, List.set_cons_succ])
        refine wpAnyH_take (i := 6) (v := ?v5) rfl (by kernel_rfl) (by kernel_rfl) (by kernel_rfl) (fun _ _ _ h => h) (Or.inl ⟨by kernel_rfl, ?hy5⟩) (by assumption) ?rest5
        case hy5 => intro w hSw; (try dsimp only at hSw); go_simp; (first | done | with_reducible rfl)
        (try simp only [Act.put, List.getElem_toArray, List.getElem_cons_zero, List.getElem_cons_succ, List.setIfInBounds_toArray, List.set_cons_zero, List.set_cons_succ])
        refine wpAnyH_take (i := 7) (v := ?v6) rfl (by kernel_rfl) (by kernel_rfl) (by kernel_rfl) (fun _ _ _ h => h) (Or.inl ⟨by kernel_rfl, ?hy6⟩) (by assumption) ?rest6
        case hy6 => intro w hSw; (try dsimp only at hSw); go_simp; (first | done | with_reducible rfl)
        (try simp only [Act.put, List.getElem_toArray, List.getElem_cons_zero, List.getElem_cons_succ, List.setIfInBounds_toArray, List.set_cons_zero, List.set_cons_succ])
        refine wpAnyH_done (by kernel_rfl) ?_ _
        go_wp2_with fail
        go_ret2
        exact ⟨_, _, rfl, .inr ⟨HZ.out, rfl, FIN.out _ _ HO2.out⟩, HBW.out.trans (HB4.out.mono HBW.out.size)⟩
    · go_simp
      obtain ⟨u1, hu⟩ : ∃ u1, u0.alloc (.cells #[.int .i64 a, .int .i64 b, .int .i64 k, .int .i64 n, .slice sp sm sc] 36) = u1 := ⟨_, rfl⟩
      have bb : Below u0.heap.size u0 u1 := by rw [← hu]; exact (Below.refl _ _).alloc (Nat.le_refl _) _
      have hn := heap_alloc_new u0 (.cells #[.int .i64 a, .int .i64 b, .int .i64 k, .int .i64 n, .slice sp sm sc] 36)
      have HZb := Lib.hid (show u1.heap.size = u0.heap.size + 1 by rw [← hu]; simp)
      rw [hu] at hn ⊢
      have HB1 := Lib.hid (HB0.out.trans (bb.mono HB0.out.size))
      have HY := Lib.hid hn
      clear hn hu bb
      refine hK.out _ _ (MS.out _ HB1.out) (fun hHeld2 => ?_)
      clear hK K hHeld
      have hHeld := hHeld2
      clear hHeld2
      (try simp only [Act.put, List.getElem_toArray, List.getElem_cons_zero, List.getElem_cons_succ, List.setIfInBounds_toArray, List.set_cons_zero, List.set_cons_succ])
      refine wpAnyH_ready (rs := [0]) (by kernel_rfl) (by simp) ?_
      refine AllReadyH.cons rfl (fun K hK => ?_) AllReadyH.nil
      go_simp
      obtain ⟨u2, hu⟩ : ∃ u2, u1.alloc (.cells #[] 36) = u2 := ⟨_, rfl⟩
      have bb : Below u1.heap.size u1 u2 := by rw [← hu]; exact (Below.refl _ _).alloc (Nat.le_refl _) _
      have hn := heap_alloc_new u1 (.cells #[] 36)
      have HZc := Lib.hid (show u2.heap.size = u1.heap.size + 1 by rw [← hu]; simp)
      rw [hu] at hn ⊢
      have HB2 := Lib.hid (HB1.out.trans (bb.mono HB1.out.size))
      have HT := Lib.hid (OwnE.emp (lim := lim) (B := wc.heap.size) hn HB1.out.size)
      have HY2 := Lib.hid ((bb.block _ (by have := HZb.out; have := HZc.out; omega)).trans HY.out)
      refine hK.out _ _ (MS.out _ HB2.out) (fun hHeld2 => ?_)
      clear hK K hHeld
      have hHeld := hHeld2
      clear hHeld2
      (try simp only [Act.put, List.getElem_toArray, List.getElem_cons_zero, List.getElem_cons_succ, List.setIfInBounds_toArray, List.set_cons_zero, List.set_cons_succ])
      refine wpAnyH_ready (rs := [2]) (by kernel_rfl) (by simp) ?_
      refine AllReadyH.cons rfl (fun K hK => ?_) AllReadyH.nil
      refine step_plain rfl (wp_append_e _ _ rfl rfl HT.out rfl rfl (ST.out _ HB2.out) (by have := HB2.out.size; omega) hlc (by simp only [List.length_nil]; omega) ?_)
      intro v4 u3 hO hg
      have HB3 := Lib.hid (HB2.out.grown hg HB2.out.size HT.out.ownLe)
      have HY3 := Lib.hid ((hg.block _ (by have := HZb.out; have := HZc.out; omega) (fun e => by have := HZb.out; have := HZc.out; have e' := Option.some.inj (show some u0.heap.size = some u1.heap.size from e); omega)).trans HY2.out)
      have HO1 := Lib.hid hO
      clear hO hg
      refine hK.out _ _ (MS.out _ HB3.out) (fun hHeld2 => ?_)
      clear hK K hHeld
      have hHeld := hHeld2
      clear hHeld2
      (try simp only [Act.put, List.getElem_toArray, List.getElem_cons_zero, List.getElem_cons_succ, List.setIfInBounds_toArray, List.set_cons_zero, List.set_cons_succ])
      refine wpAnyH_ready (rs := [5]) (by kernel_rfl) (by simp) ?_
      refine AllReadyH.cons rfl (fun K hK => ?_) AllReadyH.nil
      refine step_plain rfl (wp_append_e _ _ rfl rfl HO1.out rfl rfl (src1 HY3.out (KD.out _ HB3.out)) (by have := HB3.out.size; omega) hlc (by simp only [List.nil_append]; omega) ?_)
      intro v8 u8 hO hg
      have HB4 := Lib.hid (HB3.out.grown hg HB3.out.size HO1.out.ownLe)
      have HO2 := Lib.hid hO
      clear hO hg
      refine hK.out _ _ (MS.out _ HB4.out) (fun hHeld2 => ?_)
      clear hK K hHeld
      have hHeld := hHeld2
      clear hHeld2
      (try simp only [Act.put, List.getElem_toArray, List.getElem_cons_zero, List.getElem_cons_succ, List.setIfInBounds_toArray, List.set_cons_zero, List.set_cons_succ])
      refine wpAnyH_take (i := 6) (v := ?v7) rfl (by kernel_rfl) (by kernel_rfl) (by kernel_rfl) (fun _ _ _ h => h) (Or.inl ⟨by kernel_rfl, ?hy7⟩) (by assumption) ?rest7
      case hy7 => intro w hSw; (try dsimp only at hSw); go_simp; (first | done | with_reducible rfl)
      (try simp only [Act.put, List.getElem_toArray, List.getElem_cons_zero, List.getElem_cons_succ, List.setIfInBounds_toArray, List.set_cons_zero, List.set_cons_succ])
      refine wpAnyH_take (i := 7) (v := ?v8) rfl (by kernel_rfl) (by kernel_rfl) (by kernel_rfl) (fun _ _ _ h => h) (Or.inl ⟨by kernel_rfl, ?hy8⟩) (by assumption) ?rest8
      case hy8 => intro w hSw; (try dsimp only at hSw); go_simp; (first | done | with_reducible rfl)
      (try simp only [Act.put, List.getElem_toArray, List.getElem_cons_zero, List.getElem_cons_succ, List.setIfInBounds_toArray, List.set_cons_zero, List.set_cons_succ])
      refine wpAnyH_done (by kernel_rfl) ?_ _
      go_wp2_with fail
      go_ret2
      exact ⟨_, _, rfl, .inr ⟨HZ.out, rfl, FIN.out _ _ HO2.out⟩, HBW.out.trans (HB4.out.mono HBW.out.size)⟩
end Go.Proofs.Ytmbcfijhlpeddaa
/- What a map and a row beside it tell. -/
namespace Go.Proofs.Ytmbcfijhlpeddaa
open Go.ChangeShapes Go.WideShapes Go.ChangeAt Go.RowKit
set_option linter.unusedVariables false
set_option linter.unusedSimpArgs false
/-- The row beside the map. -/
theorem OwnE.mkeep {w w' : World} {lim B M : Nat} {g : Option Nat} {v : Value} {l : List En} (h : OwnE w lim B v l) (hk : MKeep w w' M g) (hM : M < B) (hlM : lim ≤ M) (hgM : ∀ G, g = some G → M < G) (hl : lim ≤ w.heap.size) (hg : ∀ G, g = some G → v.ownBlock ≠ some G) : OwnE w' lim B v l := by
  obtain ⟨xs, ⟨h0, h1⟩, h2⟩ := h
  refine ⟨xs, ⟨h0, ?_⟩, h2.carry (hk.b lim hlM (fun G e => by have := hgM G e; omega) hl)⟩
  rcases h1 with h1 | ⟨b, cap, cur, rfl, hb, hh, hr⟩
  · exact .inl h1
  · have hbl : b < w.heap.size := Nat.lt_of_not_le fun hn => by rw [Array.getElem?_eq_none hn] at hh; cases hh
    exact .inr ⟨b, cap, cur, rfl, hb, (hk.o b hbl (by omega) (fun e => hg b e rfl)).trans hh, hr⟩
theorem hasK_E {vs : List P6} {a b : Int} : hasE (vs.map P6.x) a b = true ↔ hasK vs a b := by
  unfold hasE hasK
  rw [List.any_eq_true]
  constructor
  · rintro ⟨e, he, h⟩
    obtain ⟨p, hp, rfl⟩ := List.mem_map.1 he
    exact ⟨p, hp, of_decide_eq_true h⟩
  · rintro ⟨p, hp, h⟩
    exact ⟨p.x, List.mem_map.2 ⟨p, hp, rfl⟩, decide_eq_true h⟩
/-- What both tell of a key is the same. -/
theorem look_same {vs : List P6} (hK : Keys vs) {a b k n k' n' : Int} {ks ks' : Fo} {ok ok' : Bool} (h : LookR vs a b k n ks ok) (h' : LookE (vs.map P6.x) a b k' n' ks' ok') : ok = ok' ∧ k = k' ∧ n = n' ∧ ks = ks' := by
  rcases h with ⟨rfl, p, hp, h1, h2, rfl, rfl, rfl⟩ | ⟨rfl, hn, rfl, rfl, rfl⟩
  · rcases h' with ⟨rfl, e, he, g1, g2, rfl, rfl, rfl⟩ | ⟨rfl, hn, _⟩
    · obtain ⟨q, hq, rfl⟩ := List.mem_map.1 he
      obtain ⟨i, hi⟩ := List.mem_iff_getElem?.1 hp
      obtain ⟨j, hj⟩ := List.mem_iff_getElem?.1 hq
      have := hK i j p q hi hj (by simp only [P6.x] at g1; omega) (by simp only [P6.x] at g2; omega)
      subst this
      rw [hi] at hj; cases hj
      exact ⟨rfl, rfl, rfl, rfl⟩
    · exact absurd ⟨h1, h2⟩ (hn p.x (List.mem_map.2 ⟨p, hp, rfl⟩))
  · rcases h' with ⟨rfl, e, he, g1, g2, _⟩ | ⟨rfl, _, rfl, rfl, rfl⟩
    · obtain ⟨q, hq, rfl⟩ := List.mem_map.1 he
      exact absurd ⟨q, hq, g1, g2⟩ hn
    · exact ⟨rfl, rfl, rfl, rfl⟩
theorem put_len {vs vs' : List P6} {a b k n : Int} {ks : Fo} {fresh : Bool} (h : PutR vs vs' a b k n ks fresh) : vs'.length ≤ vs.length + 1 := by
  rcases h with ⟨_, rfl, _⟩ | ⟨_, _, v', rfl⟩
  · omega
  · rw [List.length_append, List.length_singleton]; exact Nat.le_refl _
theorem put_same {w' : World} {lim B B' : Nat} {v v' : Value} {vs vs' : List P6} {a b k n : Int} {ks : Fo} {fresh z : Bool} (hP : PutR vs vs' a b k n ks fresh) (h : (hasE (vs.map P6.x) a b = true ∧ z = false ∧ v' = v) ∨ (hasE (vs.map P6.x) a b = false ∧ z = true ∧ OwnE w' lim B' v' (vs.map P6.x ++ [⟨a, b, k, n, ks⟩]))) (hO : OwnE w' lim B v (vs.map P6.x)) (hB : B ≤ B') :
    fresh = z ∧ OwnE w' lim B v' (vs'.map P6.x) ∧ (v' = v ∨ ∀ i, v'.ownBlock = some i → B' ≤ i) := by
  rcases hP with ⟨rfl, rfl, hk⟩ | ⟨rfl, hk, u, rfl⟩
  · rcases h with ⟨_, rfl, rfl⟩ | ⟨h, _⟩
    · exact ⟨rfl, hO, .inl rfl⟩
    · rw [hasK_E.2 hk] at h; cases h
  · rcases h with ⟨h, _⟩ | ⟨_, rfl, h⟩
    · exact absurd (hasK_E.1 h) hk
    · refine ⟨rfl, ?_, .inr h.ownLe⟩
      rw [List.map_append]
      exact h.mono hB
theorem MapS.gt {w : World} {M L G : Nat} {vs : List P6} (h : MapS w M L (some G) vs) : G < w.heap.size := by
  rcases h.e with ⟨e, _⟩ | ⟨G', e, _, hG⟩
  · cases e
  · cases e
    exact Nat.lt_of_not_le fun hn => by rw [Array.getElem?_eq_none hn] at hG; cases hG
end Go.Proofs.Ytmbcfijhlpeddaa
/- A parameter api.Entry: a key of two ints and a descriptor. -/
namespace Go.Proofs.Ytmbcfijhlpeddaa
open Go.ChangeShapes Go.WideShapes Go.ChangeAt Go.RowKit
set_option linter.unusedVariables false
set_option linter.unusedSimpArgs false
section
variable {H : Type} {enc : TypeId × Value → H} {w : World} {sp : Nat → Bool} {held : Bool}
set_option maxRecDepth 100000 in
theorem trod_entry (f0 f1 g0 g1 : Field) (hs : Try.prog.underlying 36 = some (.struct #[f0, f1])) (hk : f0.type = 24) (hd : f1.type = 34) (hg : Try.prog.underlying 24 = some (.struct #[g0, g1]))
    (j0 : Try.prog.underlying g0.type = some (.int .i64)) (j1 : Try.prog.underlying g1.type = some (.int .i64)) (o0 : f0.offset = 0) (o1 : f1.offset = 2) (q0 : g0.offset = 0) (q1 : g1.offset = 1) (y0 : Try.prog.cellsOf g0.type = 1) (y1 : Try.prog.cellsOf g1.type = 1)
    (hCK : Try.prog.cellsOf 24 = 2) (hCD : Try.prog.cellsOf 34 = 3) (hC : Try.prog.cellsOf 36 = 5) (base fuel : Nat) (cs : List Value) (x : DataW H × List MemPlace)
    (hD : ∀ (fuel : Nat) (cs : List Value) (x : DataW H × List MemPlace), DataW.trod enc Try.prog w base sp held fuel 34 cs = some x →
      ∃ (k n : Int) (s : Value) (ks : Fo), cs = [.int .i64 k, .int .i64 n, s] ∧ Kids w w.heap.size s ks ∧ ks.wf ∧ (-9223372036854775808 ≤ k ∧ k ≤ 9223372036854775807) ∧ (-9223372036854775808 ≤ n ∧ n ≤ 9223372036854775807) ∧ ks.cnt + 1 ≤ Rows.uptoBulk x.1)
    (h : DataW.trod enc Try.prog w base sp held fuel 36 cs = some x) :
    ∃ (a b k n : Int) (s : Value) (ks : Fo), cs = [.int .i64 a, .int .i64 b, .int .i64 k, .int .i64 n, s] ∧ Kids w w.heap.size s ks ∧ ks.wf ∧ (-9223372036854775808 ≤ a ∧ a ≤ 9223372036854775807) ∧ (-9223372036854775808 ≤ b ∧ b ≤ 9223372036854775807) ∧ (-9223372036854775808 ≤ k ∧ k ≤ 9223372036854775807) ∧ (-9223372036854775808 ≤ n ∧ n ≤ 9223372036854775807) ∧ ks.cnt + 1 ≤ Rows.uptoBulk x.1 := by
  obtain ⟨xs, m, rfl, rfl, hlen, hxs, hel⟩ := DataW.trod_struct hs h
  rw [hC] at hlen
  obtain ⟨c0, c1, c2, c3, c4, rfl⟩ : ∃ c0 c1 c2 c3 c4, cs = [c0, c1, c2, c3, c4] := by
    match cs, hlen with
    | [a, b, c, d, e], _ => exact ⟨a, b, c, d, e, rfl⟩
  obtain ⟨x0, x1, rfl⟩ : ∃ x0 x1, xs = [x0, x1] := by
    have h3 : xs.length = 2 := hxs
    match xs, h3 with
    | [a, b], _ => exact ⟨a, b, rfl⟩
  have e0 := hel 0 f0 rfl
  have e1 := hel 1 f1 rfl
  rw [o0, hk, hCK] at e0
  rw [o1, hd, hCD] at e1
  simp only [List.drop_zero, List.take_succ_cons, List.take_zero, List.getElem?_cons_zero, List.drop_succ_cons, List.getElem?_cons_succ] at e0 e1
  obtain ⟨ys, m', rfl, hx0, hlen', hys, hel'⟩ := DataW.trod_struct hg e0
  obtain ⟨z0, z1, rfl⟩ : ∃ z0 z1, ys = [z0, z1] := by
    have h3 : ys.length = 2 := hys
    match ys, h3 with
    | [a, b], _ => exact ⟨a, b, rfl⟩
  have d0 := hel' 0 g0 rfl
  have d1 := hel' 1 g1 rfl
  rw [q0, y0] at d0
  rw [q1, y1] at d1
  simp only [List.drop_zero, List.take_succ_cons, List.take_zero, List.getElem?_cons_zero, List.drop_succ_cons, List.getElem?_cons_succ] at d0 d1
  obtain ⟨a, ha, -, wa⟩ := DataW.trod_int j0 d0
  obtain ⟨b, hb, -, wb⟩ := DataW.trod_int j1 d1
  simp only [List.cons.injEq, and_true] at ha hb
  subst ha hb
  obtain ⟨k, n, s, ks, hcs, hK, wf, wk, wn, hc⟩ := hD _ _ _ e1
  simp only [List.cons.injEq, and_true] at hcs
  obtain ⟨rfl, rfl, rfl⟩ := hcs
  refine ⟨a, b, k, n, c4, ks, rfl, hK, wf, wf_i64 wa, wf_i64 wb, wk, wn, ?_⟩
  simp only [List.map_cons, List.map_nil, Rows.uptoBulk, Rows.uptoBulkAll]
  omega
end
set_option maxRecDepth 100000 in
theorem open_entry {H : Type} {enc : TypeId × Value → H} {w : World} {sp : Nat → Bool} {held : Bool} {base b0 : Nat} {r : Reach} {v : Value} {d : DataW H} {p : List MemPlace} (hv : Value.okWide Try.prog w r b0 36 v) (h : DataW.Trod enc Try.prog w base sp held 36 v d p) :
    ∃ (a b k n : Int) (s : Value) (ks : Fo), v = .agg #[.int .i64 a, .int .i64 b, .int .i64 k, .int .i64 n, s] ∧ Kids w w.heap.size s ks ∧ ks.wf ∧ (-9223372036854775808 ≤ a ∧ a ≤ 9223372036854775807) ∧ (-9223372036854775808 ≤ b ∧ b ≤ 9223372036854775807) ∧ (-9223372036854775808 ≤ k ∧ k ≤ 9223372036854775807) ∧ (-9223372036854775808 ≤ n ∧ n ≤ 9223372036854775807) ∧ ks.cnt + 1 ≤ Rows.uptoBulk d := by
  obtain ⟨cs, rfl, hsz⟩ := okWide_struct Try.underlying36 hv
  obtain ⟨fuel, hf⟩ := h
  have hD := trod_fo (H := H) (enc := enc) (w := w) (sp := sp) (held := held) 32 _ _ _ Try.underlying34 Try.underlying32 Try.underlying3 Try.underlying3 rfl rfl rfl (by kernel_rfl) (by kernel_rfl) (by kernel_rfl) (by kernel_rfl) base
  obtain ⟨a, b, k, n, s, ks, e, g⟩ := trod_entry _ _ _ _ Try.underlying36 rfl rfl Try.underlying24 Try.underlying3 Try.underlying3 rfl rfl rfl rfl (by kernel_rfl) (by kernel_rfl) (by kernel_rfl) (by kernel_rfl) (by kernel_rfl) base fuel _ _ hD hf
  simp only [Value.cells] at e
  refine ⟨a, b, k, n, s, ks, ?_, g⟩
  congr 1
  exact Array.ext' (by simpa using e)
end Go.Proofs.Ytmbcfijhlpeddaa
/- Rows of entries that come in. -/
namespace Go.Proofs.Ytmbcfijhlpeddaa
open Go.ChangeShapes Go.WideShapes Go.ChangeAt Go.RowKit
set_option linter.unusedVariables false
open Go.Joins Go.Deep
set_option linter.unusedSimpArgs false
/-- In words' range. -/
def En.inr (e : En) : Prop := (-9223372036854775808 ≤ e.a ∧ e.a ≤ 9223372036854775807) ∧ (-9223372036854775808 ≤ e.b ∧ e.b ≤ 9223372036854775807) ∧ (-9223372036854775808 ≤ e.k ∧ e.k ≤ 9223372036854775807) ∧ (-9223372036854775808 ≤ e.n ∧ e.n ≤ 9223372036854775807) ∧ e.ks.wf
theorem bulk_mem {H : Type} : ∀ (l : List (DataW H)) (i : Nat) (hi : i < l.length), Rows.uptoBulk l[i] ≤ Rows.uptoBulkAll l
  | x :: l, 0, _ => by simp only [List.getElem_cons_zero, Rows.uptoBulkAll]; omega
  | x :: l, i + 1, h => by
    have := bulk_mem l i (by simpa using h)
    simp only [List.getElem_cons_succ, Rows.uptoBulkAll]
    omega
set_option maxRecDepth 100000 in
theorem trod_ens {H : Type} {enc : TypeId × Value → H} {w : World} {sp : Nat → Bool} {held : Bool} (base fuel : Nat) (v : Value) (x : DataW H × List MemPlace) (e2 : DataW.trod enc Try.prog w base sp held fuel 22 [v] = some x) :
    ∃ l : List En, RowN w w.heap.size v l ∧ ∀ e ∈ l, e.inr ∧ e.ks.cnt + 1 ≤ Rows.uptoBulk x.1 := by
  have hC : Try.prog.cellsOf 36 = 5 := by kernel_rfl
  rcases DataW.trod_slice Try.underlying22 e2 with ⟨hc, hx2⟩ | ⟨a, len, cap, elems, rest, m2, hm2, hc, hx2, hb, hlc, hcm, hle, hels, _, _⟩
  · simp only [List.cons.injEq, and_true] at hc
    subst hc
    exact ⟨[], RowN.nought _ _, fun e he => by cases he⟩
  · simp only [List.cons.injEq, and_true] at hc
    subst hc
    rw [hC] at hels
    have hD := trod_fo (H := H) (enc := enc) (w := w) (sp := sp) (held := held) 32 _ _ _ Try.underlying34 Try.underlying32 Try.underlying3 Try.underlying3 rfl rfl rfl (by kernel_rfl) (by kernel_rfl) (by kernel_rfl) (by kernel_rfl) base
    have each0 : ∀ i, i < len → ∃ e : En, (∃ u, w.cell? (a.add (i * 5)) = some u) ∧ (∀ b o, a = ⟨b, o, none⟩ → EnAt w w.heap.size b (o + i * 5) e) ∧ e.inr ∧ e.ks.cnt + 1 ≤ Rows.uptoBulk x.1 := by
      intro i hi
      have he := hels i hi
      rw [List.getElem?_eq_getElem (show i < elems.length by omega)] at he
      obtain ⟨cs', h1', h2'⟩ := Option.bind_eq_some_iff.1 he
      obtain ⟨ea, eb, k', n', s', ks', rfl, g1, g2, ga, gb, g3, g4, g5⟩ := trod_entry _ _ _ _ Try.underlying36 rfl rfl Try.underlying24 Try.underlying3 Try.underlying3 rfl rfl rfl rfl (by kernel_rfl) (by kernel_rfl) (by kernel_rfl) (by kernel_rfl) (by kernel_rfl) base m2 _ _ hD h2'
      obtain ⟨_, _, hcell⟩ := World.cells?_some h1'
      have q0 := hcell 0 (by omega)
      have e : (a.add (i * 5)).add 0 = a.add (i * 5) := by obtain ⟨b, o, sp⟩ := a; cases sp <;> simp [Addr.add]
      rw [e] at q0
      refine ⟨⟨ea, eb, k', n', ks'⟩, ⟨_, q0⟩, ?_, ⟨ga, gb, g3, g4, g2⟩, ?_⟩
      · rintro b o rfl
        have q1 := hcell 1 (by omega)
        have q2 := hcell 2 (by omega)
        have q3 := hcell 3 (by omega)
        have q4 := hcell 4 (by omega)
        rw [add_plain, add_plain] at q1 q2 q3 q4
        rw [add_plain] at q0
        have q0' : w.cell? ⟨b, o + i * 5, none⟩ = some (.int .i64 ea) := by simpa using q0
        exact ⟨block_lt_of_cell q0', s', q0', by simpa using q1, by simpa using q2, by simpa using q3, by simpa using q4, g1⟩
      · have hm := bulk_mem (elems.map (·.1)) i (by rw [List.length_map]; omega)
        rw [List.getElem_map] at hm
        simp only [Rows.uptoBulk, hx2]
        show ks'.cnt + 1 ≤ _
        omega
    have each : ∀ i, i < len → ∃ e : En, (∃ b o, a = ⟨b, o, none⟩ ∧ EnAt w w.heap.size b (o + i * 5) e) ∧ e.inr ∧ e.ks.cnt + 1 ≤ Rows.uptoBulk x.1 := by
      intro i hi
      obtain ⟨_, ⟨u, hc0⟩, _⟩ := each0 0 (by omega)
      obtain ⟨b, o, spot⟩ := a
      have hspot : spot = none := by
        have := World.cell?_spot hc0
        cases spot with
        | none => rfl
        | some q => simp [Addr.add] at this
      subst hspot
      obtain ⟨e, _, h2, h3⟩ := each0 i hi
      exact ⟨e, ⟨b, o, rfl, h2 b o rfl⟩, h3⟩
    have build : ∀ j, j ≤ len → ∃ l : List En, l.length = j ∧ ∀ i e, l[i]? = some e → ((∃ b o, a = ⟨b, o, none⟩ ∧ EnAt w w.heap.size b (o + i * 5) e) ∧ e.inr ∧ e.ks.cnt + 1 ≤ Rows.uptoBulk x.1) := by
      intro j
      induction j with
      | zero => intro _; exact ⟨[], rfl, fun i e h => by simp at h⟩
      | succ j ih =>
        intro hj
        obtain ⟨l, hl, hA⟩ := ih (by omega)
        obtain ⟨e, he⟩ := each j (by omega)
        refine ⟨l ++ [e], by simp [hl], fun i z hz => ?_⟩
        rcases Nat.lt_or_ge i j with h | h
        · rw [List.getElem?_append_left (by omega)] at hz
          exact hA i z hz
        · rw [List.getElem?_append_right (by omega)] at hz
          have hi : i = j := by
            have := (List.getElem?_eq_some_iff.1 hz).1
            simp at this; omega
          subst hi
          rw [hl, Nat.sub_self] at hz
          simp at hz; subst hz
          exact he
    obtain ⟨l, hl, hA⟩ := build len (Nat.le_refl _)
    refine ⟨l, ⟨some a, cap, by rw [hl], by omega, hcm, fun i e he => ?_⟩, fun e he => ?_⟩
    · obtain ⟨⟨b, o, ha, hE⟩, _⟩ := hA i e he
      exact ⟨b, o, by rw [ha], hE⟩
    · obtain ⟨i, hi, rfl⟩ := List.getElem_of_mem he
      exact (hA i _ (List.getElem?_eq_getElem hi)).2
set_option maxRecDepth 100000 in
theorem open_entries {H : Type} {enc : TypeId × Value → H} {w : World} {sp : Nat → Bool} {held : Bool} {base b0 : Nat} {r : Reach} {v : Value} {d : DataW H} {p : List MemPlace} (hv : Value.okWide Try.prog w r b0 22 v) (h : DataW.Trod enc Try.prog w base sp held 22 v d p) :
    ∃ l : List En, RowN w w.heap.size v l ∧ ∀ e ∈ l, e.inr ∧ e.ks.cnt + 1 ≤ Rows.uptoBulk d := by
  obtain ⟨a, n, c, rfl⟩ := okWide_slice Try.underlying22 hv
  obtain ⟨fuel, hf⟩ := h
  exact trod_ens base fuel (.slice a n c) _ hf
end Go.Proofs.Ytmbcfijhlpeddaa
/- Reference 26: Merge. -/
namespace Go.Proofs.Ytmbcfijhlpeddaa
open Go.ChangeShapes Go.WideShapes Go.ChangeAt Go.RowKit
set_option linter.unusedVariables false
set_option linter.unusedSimpArgs false
attribute [local go_sem ↓] Go.wp_at_zero Go.wp_at_succ
/-- The error of one entry, of a row. -/
def chkE (e : En) : Int := fori e.a e.b e.n (chkd e.k e.n e.ks)
def badE : List En → Int
  | [] => 0
  | e :: l => if chkE e = 0 then badE l else chkE e
theorem badE_at : ∀ {l : List En} {i : Nat} {e : En}, l[i]? = some e → (∀ (j : Nat) (y : En), j < i → l[j]? = some y → chkE y = 0) → chkE e ≠ 0 → badE l = chkE e
  | [], _, _, h, _, _ => by simp at h
  | x :: l, 0, e, h, _, hn => by
    simp at h; subst h
    unfold badE; rw [if_neg hn]
  | x :: l, i + 1, e, h, hj, hn => by
    unfold badE
    rw [if_pos (hj 0 x (by omega) rfl)]
    exact badE_at (i := i) (by simpa using h) (fun j y h1 h2 => hj (j + 1) y (by omega) (by simpa using h2)) hn
theorem badE_zero : ∀ {l : List En}, (∀ e ∈ l, chkE e = 0) → badE l = 0
  | [], _ => rfl
  | x :: l, h => by
    unfold badE
    rw [if_pos (h x (List.mem_cons_self ..))]
    exact badE_zero (fun e he => h e (List.mem_cons_of_mem _ he))
/-- One more, many more. -/
def putE (l : List En) (e : En) : List En := if hasE l e.a e.b then l else l ++ [e]
def mrgE (l m : List En) : List En := m.foldl putE l
theorem mrgE_snoc {l m : List En} {i : Nat} {e : En} (h : m[i]? = some e) : mrgE l (m.take (i + 1)) = putE (mrgE l (m.take i)) e := by
  unfold mrgE
  rw [List.take_add_one, h, List.foldl_append]
  rfl
theorem putE_len (l : List En) (e : En) : (putE l e).length = l.length ∨ (putE l e).length = l.length + 1 := by
  unfold putE
  split
  · exact .inl rfl
  · rw [List.length_append, List.length_singleton]; exact .inr rfl
theorem mrgE_len (l : List En) : ∀ m : List En, l.length ≤ (mrgE l m).length ∧ (mrgE l m).length ≤ l.length + m.length := by
  intro m
  induction m generalizing l with
  | nil => exact ⟨Nat.le_refl _, Nat.le_refl _⟩
  | cons e m ih =>
    have h1 := ih (putE l e)
    have h2 := putE_len l e
    show l.length ≤ (mrgE (putE l e) m).length ∧ _
    have h3 : mrgE l (e :: m) = mrgE (putE l e) m := rfl
    rw [h3, List.length_cons]
    omega
/-- The row that a put leaves. -/
theorem put_row {w' : World} {lim B B' : Nat} {v v' : Value} {l : List En} {e : En} {z : Bool} (h : (hasE l e.a e.b = true ∧ z = false ∧ v' = v) ∨ (hasE l e.a e.b = false ∧ z = true ∧ OwnE w' lim B' v' (l ++ [e]))) (hO : OwnE w' lim B v l) (hB : B ≤ B') :
    OwnE w' lim B v' (putE l e) ∧ (v' = v ∨ ∀ i, v'.ownBlock = some i → B' ≤ i) ∧ (z = false ∧ (putE l e).length = l.length ∨ z = true ∧ (putE l e).length = l.length + 1) := by
  unfold putE
  rcases h with ⟨h, rfl, rfl⟩ | ⟨h, rfl, h2⟩
  · rw [h, if_pos rfl]; exact ⟨hO, .inl rfl, .inl ⟨rfl, rfl⟩⟩
  · rw [h, if_neg (by simp)]; exact ⟨h2.mono hB, .inr h2.ownLe, .inr ⟨rfl, by rw [List.length_append, List.length_singleton]⟩⟩
theorem res_3 {P : Program} {fn : Func} {a b c : Tmp} (h : fn.results = #[.tmp a, .tmp b, .tmp c]) (tmps : Array Value) (w : World) (x y z : Value) (ha : tmps.getD a undef = x) (hb : tmps.getD b undef = y) (hc : tmps.getD c undef = z) :
    (results fn tmps).run P w = .ok (.tuple #[x, y, z]) w := by
  have e1 : tmps[a]?.getD undef = x := by simpa using ha
  have e2 : tmps[b]?.getD undef = y := by simpa using hb
  have e3 : tmps[c]?.getD undef = z := by simpa using hc
  simp [results, h, e1, e2, e3]
set_option maxRecDepth 100000 in
set_option maxHeartbeats 8000000 in
theorem r26_merge (v u : Value) (l m : List En) (lim B : Nat) (W : World) (h : OwnE W lim B v l) (hm : RowN W lim u m) (hlB : lim ≤ B) (hB : B ≤ W.heap.size) (hn : l.length + m.length ≤ 80000) (hE : ∀ e ∈ m, e.inr ∧ e.ks.cnt + 1 ≤ 1048576) :
    Calls Try.prog 20 #[v, u] W fun e w' => ∃ (v' : Value) (N : Nat) (C : Int), e = .returned (.tuple #[v', .int .i64 N, .int .i64 C]) ∧ C = badE m ∧ ((C ≠ 0 ∧ N = 0 ∧ v' = v) ∨ (C = 0 ∧ OwnE w' lim B v' (mrgE l m) ∧ N = (mrgE l m).length - l.length ∧ (v' = v ∨ ∀ i, v'.ownBlock = some i → W.heap.size ≤ i))) ∧ Below W.heap.size W w' := by
  obtain ⟨p, c, rfl, hlc, hcm⟩ := hm.form
  obtain ⟨n, hnl⟩ : ∃ n, m.length = n := ⟨_, rfl⟩
  have HNL := Lib.hid hnl
  rw [hnl] at hm hlc hn ⊢
  have HIN := Lib.hid hm
  have HE := Lib.hid hE
  have HO := Lib.hid h
  have hcc : c ≤ 9223372036854775807 := by unfold maxLen at hcm; omega
  clear h hm hE hnl hcm
  go_enter Try.func20, Try.ntmps20
  go_wp2_with fail
  go_loopw [7] (fun j wr => ∃ i : Nat, j = .int .i64 i ∧ i ≤ n ∧ Hid (∀ (j : Nat) (e : En), j < i → m[j]? = some e → chkE e = 0) ∧ Hid (Below W.heap.size W wr)) (fun j _ => n - (intOf j).toNat)
  case atStart => exact ⟨0, rfl, by omega, Lib.hid (fun j e hj => by omega), Lib.hid (Below.refl _ _)⟩
  case round =>
    obtain ⟨i, rfl, hi, HC, HB⟩ := hrel
    by_cases hlt : i < n
    case pos =>
      have d1 : decide ((i : Int) < (n : Int)) = true := decide_eq_true (by omega)
      have d1' : decide (i < n) = true := decide_eq_true hlt
      obtain ⟨wu, rfl⟩ : ∃ wu, wu = wr := ⟨_, rfl⟩
      obtain ⟨e, he⟩ : ∃ e, m[i]? = some e := ⟨m[i]'(by have := HNL.out; omega), List.getElem?_eq_getElem (by have := HNL.out; omega)⟩
      obtain ⟨gb, o, rfl, hb, s, y0, y1, y2, y3, y4, hK⟩ := (HIN.out.carry (HB.out.mono (Nat.le_trans hlB hB))).get he
      obtain ⟨sp, sm, sc, rfl, -, -, hsm⟩ := hK.shape
      obtain ⟨hinr, hcnt⟩ := HE.out e (List.mem_of_getElem? he)
      have STOP := Lib.hid (fun hz => badE_at he (fun j y h1 h2 => HC.out j y h1 h2) hz)
      have STEP := Lib.hid (fun (hz : chkE e = 0) => (show ∀ (j : Nat) (y : En), j < i + 1 → m[j]? = some y → chkE y = 0 from fun j y hj hy => by
        rcases Nat.lt_or_eq_of_le (Nat.le_of_lt_succ hj) with h | rfl
        · exact HC.out j y h hy
        · rw [he] at hy; cases hy; exact hz))
      obtain ⟨zc, hzc⟩ : ∃ z, chkE e = z := ⟨_, rfl⟩
      obtain ⟨ea, eb, ek, em, eks⟩ := e
      simp only [En.inr] at y0 y1 y2 y3 hK hsm hinr hcnt
      obtain ⟨wa, wb, wk, wn, wf⟩ := hinr
      have hbz := HB.out.size
      have CH := Lib.hid (fun w' (hb' : Below wu.heap.size wu w') => (show Calls Try.prog 10 #[.agg #[.int .i64 ea, .int .i64 eb, .int .i64 ek, .int .i64 em, .slice sp sm sc]] w' fun e w'' => e = .returned (.int .i64 zc) ∧ Below w'.heap.size w' w'' from by
        have := r24_check eks (.slice sp sm sc) ea eb ek em lim w' (by omega) (hK.below (by omega) hb') (by have := hb'.size; omega) wa wk wn wf
        rw [show fori ea eb em (chkd ek em eks) = zc from hzc] at this
        exact this))
      have XC := Lib.hid (fun w' (hb' : Below wu.heap.size wu w') => (show w'.cell? ⟨gb, o + i * 5, none⟩ = some (.int .i64 ea) ∧ w'.cell? ⟨gb, o + i * 5 + 1, none⟩ = some (.int .i64 eb) ∧ w'.cell? ⟨gb, o + i * 5 + 2, none⟩ = some (.int .i64 ek) ∧ w'.cell? ⟨gb, o + i * 5 + 3, none⟩ = some (.int .i64 em) ∧ w'.cell? ⟨gb, o + i * 5 + 4, none⟩ = some (.slice sp sm sc) from
        ⟨(hb'.cell (p := ⟨gb, o + i * 5, none⟩) (show gb < _ by omega)).trans y0, (hb'.cell (p := ⟨gb, o + i * 5 + 1, none⟩) (show gb < _ by omega)).trans y1, (hb'.cell (p := ⟨gb, o + i * 5 + 2, none⟩) (show gb < _ by omega)).trans y2, (hb'.cell (p := ⟨gb, o + i * 5 + 3, none⟩) (show gb < _ by omega)).trans y3, (hb'.cell (p := ⟨gb, o + i * 5 + 4, none⟩) (show gb < _ by omega)).trans y4⟩))
      have hiI : (i : Int) < (n : Int) := by omega
      have hi0 : (0 : Int) ≤ (i : Int) := by omega
      rw [hzc] at STOP STEP
      clear hzc hK hsm wa wb wk wn wf hcnt he hb
      go_wp2_with fail
      refine (CH.out wu (Below.refl _ _)).mono ?_
      rintro e w3 ⟨rfl, hb3⟩
      have H3 := Lib.hid hb3
      have HB3 := Lib.hid (HB.out.trans (hb3.mono HB.out.size))
      clear hb3 y0 y1 y2 y3 y4
      by_cases hz : zc = 0
      case pos =>
        have d2 : (zc != 0) = false := by simp [hz]
        have ST2 := Lib.hid (STEP.out hz)
        clear STOP STEP XC CH hz
        go_wp2_with fail
        go_roundw
        case rel => exact ⟨i + 1, by go_num, by omega, ST2, HB3⟩
        case measure => simp only [intOf]; omega
      case neg =>
        have d2 : (zc != 0) = true := by simp [hz]
        have ST2 := Lib.hid (STOP.out hz)
        have HZ := Lib.hid hz
        obtain ⟨y0, y1, y2, y3, y4⟩ := XC.out w3 H3.out
        have C3 := CH.out w3 H3.out
        clear STOP STEP XC CH hz
        go_wp2_with fail
        refine C3.mono ?_
        rintro e w4 ⟨rfl, hb4⟩
        have HB4 := Lib.hid (HB3.out.trans (hb4.mono HB3.out.size))
        clear hb4 C3 y0 y1 y2 y3 y4
        go_wp2_with fail
        refine bodyPost_ret (res_3 (a := 4) (b := 5) (c := 6) rfl _ _ v (.int .i64 0) (.int .i64 zc) rfl rfl rfl) rfl ?_
        exact ⟨v, 0, zc, rfl, ST2.out.symm, .inl ⟨HZ.out, rfl, rfl⟩, HB4.out⟩
    case neg =>
      obtain rfl : i = n := by omega
      have d1 : decide ((i : Int) < (i : Int)) = false := decide_eq_false (by omega)
      have BZ := Lib.hid (show badE m = 0 from badE_zero (fun e he => by
        obtain ⟨j, hj⟩ := List.mem_iff_getElem?.1 he
        exact HC.out j e (by have := (List.getElem?_eq_some_iff.1 hj).1; have := HNL.out; omega) hj))
      have HO1 := Lib.hid (HO.out.below (HB.out) (Nat.le_trans hlB hB))
      clear HC
      obtain ⟨wv, rfl⟩ : ∃ wv, wv = wr := ⟨_, rfl⟩
      go_wp2_with fail
      go_loopw [0, 8, 9] (fun x q j wr => ∃ (i2 : Nat) (vv : Value) (N : Nat), j = .int .i64 i2 ∧ vv = x ∧ q = .int .i64 N ∧ i2 ≤ i ∧ N = (mrgE l (m.take i2)).length - l.length ∧ Hid (OwnE wr lim B vv (mrgE l (m.take i2))) ∧ Hid (vv = v ∨ ∀ i, vv.ownBlock = some i → W.heap.size ≤ i) ∧ Hid (Below W.heap.size W wr)) (fun _ _ j _ => i - (intOf j).toNat)
      case atStart => exact ⟨0, _, 0, rfl, rfl, rfl, by omega, by simp [mrgE], HO1, Lib.hid (.inl rfl), HB⟩
      case round =>
        obtain ⟨i2, vv, N, rfl, rfl, rfl, hi2, hN, HO2, HV2, HB2⟩ := hrel
        obtain ⟨wu, rfl⟩ : ∃ wu, wu = wr := ⟨_, rfl⟩
        by_cases hlt2 : i2 < i
        case neg =>
          obtain rfl : i2 = i := by omega
          have d3 : decide ((i2 : Int) < (i2 : Int)) = false := decide_eq_false (by omega)
          have ET := Lib.hid (show m.take i2 = m by rw [← HNL.out, List.take_length])
          have HNN := Lib.hid hN
          clear hN
          go_wp2_with fail
          refine bodyPost_ret (res_3 (a := 4) (b := 5) (c := 6) rfl _ _ vv (.int .i64 (N : Nat)) (.int .i64 0) rfl rfl rfl) rfl ?_
          exact ⟨vv, N, 0, rfl, BZ.out.symm, .inr ⟨rfl, by have := HO2.out; rw [ET.out] at this; exact this, by have := HNN.out; rw [ET.out] at this; exact this, HV2.out⟩, HB2.out⟩
        case pos =>
          have d3 : decide ((i2 : Int) < (i : Int)) = true := decide_eq_true (by omega)
          have d3' : decide (i2 < i) = true := decide_eq_true hlt2
          obtain ⟨e, he⟩ : ∃ e, m[i2]? = some e := ⟨m[i2]'(by have := HNL.out; omega), List.getElem?_eq_getElem (by have := HNL.out; omega)⟩
          obtain ⟨gb, o, rfl, hb, s, y0, y1, y2, y3, y4, hK⟩ := (HIN.out.carry (HB2.out.mono (Nat.le_trans hlB hB))).get he
          obtain ⟨sp, sm, sc, rfl, -, -, hsm⟩ := hK.shape
          have hml := mrgE_len l (m.take i2)
          have htl : (m.take i2).length ≤ i2 := by rw [List.length_take]; omega
          have hbz := HB2.out.size
          have PU := r26_put vv (mrgE l (m.take i2)) e.a e.b e.k e.n (.slice sp sm sc) e.ks lim B wu HO2.out hK hlB (by omega) (by omega)
          have HSN := Lib.hid (mrgE_snoc (l := l) he)
          have PR := Lib.hid (fun (w' : World) (v' : Value) z h (hO : OwnE w' lim B vv (mrgE l (m.take i2))) => put_row (w' := w') (v' := v') (B' := wu.heap.size) (z := z) (e := e) h hO (by omega))
          have hml2 := mrgE_len l (m.take (i2 + 1))
          obtain ⟨ea, eb, ek, em, eks⟩ := e
          simp only at y0 y1 y2 y3 hK hsm PU PR
          have hiI : (i2 : Int) < (i : Int) := by omega
          have hi0 : (0 : Int) ≤ (i2 : Int) := by omega
          have HNN := Lib.hid hN
          have hNb : N ≤ 80000 := by omega
          clear hK he hb hsm hN
          go_wp2_with fail
          refine PU.mono ?_
          rintro e w3 ⟨v3, z, rfl, hr, hb3⟩
          have hO3 := HO2.out.below hb3 (by omega)
          obtain ⟨hO4, hv4, hz⟩ := PR.out w3 v3 z hr hO3
          rw [← HSN.out] at hO4 hz
          have HO4 := Lib.hid hO4
          have HV4 := Lib.hid (show v3 = v ∨ ∀ i, v3.ownBlock = some i → W.heap.size ≤ i from by
            rcases hv4 with rfl | h
            · exact HV2.out
            · exact .inr (fun i hi => by have := h i hi; omega))
          have HB3 := Lib.hid (HB2.out.trans (hb3.mono HB2.out.size))
          clear hr hb3 hO3 hO4 hv4 PU y0 y1 y2 y3 y4
          obtain ⟨vp, vm, vc, rfl⟩ : ∃ vp vm vc, v3 = .slice vp vm vc := by
            rcases HO4.out.form with ⟨rfl, _⟩ | ⟨_, _, rfl, _⟩
            · exact ⟨_, _, _, rfl⟩
            · exact ⟨_, _, _, rfl⟩
          rcases hz with ⟨rfl, hz⟩ | ⟨rfl, hz⟩
          · go_wp2_with fail
            go_roundw
            case rel => exact ⟨i2 + 1, _, N, by go_num, rfl, rfl, by omega, by have := HNN.out; omega, HO4, HV4, HB3⟩
            case measure => simp only [intOf]; omega
          · go_wp2_with fail
            go_roundw
            case rel => exact ⟨i2 + 1, _, N + 1, by go_num, rfl, by go_num, by omega, by have := HNN.out; omega, HO4, HV4, HB3⟩
            case measure => simp only [intOf]; omega
end Go.Proofs.Ytmbcfijhlpeddaa
