/- lru: slices.Insert at the front of a row that has elements. By program (genlrj.py). -/
import Derived.Test.YtncpikaegcookaaLri
namespace Go.Proofs.Ytncpikaegcookaa
open Go.ChangeShapes Go.WideShapes Go.ChangeAt Go.RowKit
set_option linter.unusedVariables false
set_option linter.unusedSimpArgs false
theorem fr_cons {w : World} {F n cap t : Nat} {L R : List Value} {ts : List Nat} (hF : FB w F (ptr t :: L.take n ++ R)) (hn : ts.length = n) (hnL : n ≤ L.length) (hl : (ptr t :: L.take n ++ R).length = cap) (hcap : cap ≤ 9223372036854775807)
    (h1 : ∀ u ∈ L, u.oneCell' = true) (hR : ∀ u ∈ R, u.oneCell' = true) (hts : ∀ (j x : Nat), ts[j]? = some x → L[j]? = some (ptr x)) : FR w F (.slice (some ⟨F, 0, none⟩) (n + 1) cap) (t :: ts) := by
  have hlt : (L.take n).length = n := by rw [List.length_take]; omega
  refine .inr ⟨cap, _, by rw [List.length_cons, hn], hF, hl, ?_, ?_, hcap, ?_, ?_⟩
  · rw [← hl]; simp [hlt]; omega
  · rw [← hl]; simp
  · intro u hu
    rcases List.mem_append.1 hu with hu | hu
    · rcases List.mem_cons.1 hu with rfl | hu
      · rfl
      · exact h1 u (List.mem_of_mem_take hu)
    · exact hR u hu
  · intro j x hj
    cases j with
    | zero => simp at hj; subst hj; rfl
    | succ j =>
      rw [List.getElem?_cons_succ] at hj
      have hjl := (List.getElem?_eq_some_iff.1 hj).1
      rw [List.cons_append, List.getElem?_cons_succ, List.getElem?_append_left (by omega), List.getElem?_take, if_pos (by omega)]
      exact hts j x hj
set_option maxRecDepth 100000 in
set_option maxHeartbeats 8000000 in
theorem ins_shift (F V t n cap : Nat) (L : List Value) (ts : List Nat) (W : World) (h : FB W F L) (hL : L.length = cap) (hn : ts.length = n) (hn1 : 1 ≤ n) (hroom : n + 1 ≤ cap) (hcap : cap ≤ 9223372036854775807) (h1 : ∀ v ∈ L, v.oneCell' = true) (hts : ∀ (j x : Nat), ts[j]? = some x → L[j]? = some (ptr x))
    (hV : W.heap[V]? = some (.cells #[ptr t] 52 (0, 0))) (hVF : V ≠ F) :
    Calls Try.prog 32 #[.slice (some ⟨F, 0, none⟩) n cap, .int .i64 0, .slice (some ⟨V, 0, none⟩) 1 1] W fun e w' => ∃ v', e = .returned v' ∧ FR w' F v' (t :: ts) ∧ But W w' F := by
  have hsz : (Try.prog.info? 52).map (·.size) = some 1 := size_p
  have hov : ∀ lb cb, (callFunc 34 #[.slice (some ⟨V, 0, none⟩) 1 1, .slice (some ⟨F, 1, none⟩) lb cb]).run Try.prog W = .ok (.value (.bool false)) W := fun lb cb => by
    rw [run_callFunc_extern Try.func34 (by kernel_rfl) (by kernel_rfl) (by kernel_rfl) (e := Extern.SlicesOverlaps.overlaps #[49, 49] #[4]) (by kernel_rfl),
      Lib.run_overlaps_apart W 49 4 52 Try.underlying49 1 (fun w => by kernel_rfl) ⟨V, 0, none⟩ ⟨F, 1, none⟩ 1 1 lb cb hVF 52 52 1 cap (by simp [World.shape?, hV]) (by have := h; unfold FB at this; simp [World.shape?, this, hL]) (by omega) (frozen_of_row _ _ _ _ _ hV) (frozen_of_row _ _ _ _ _ hV)]
    rfl
  have hl0 : (L.take n).length = n := by rw [List.length_take]; omega
  have hcA : ∀ ty dc sc, (Builtin.copy_ #[49, 49] ty #[.slice (some ⟨F, 1, none⟩) n dc, .slice (some ⟨F, 0, none⟩) (n + 1) sc]).run Try.prog W.drew = .ok (goInt (L.take n).length) (W.drew.setCells F 1 (L.take n)) := fun ty dc sc =>
    run_copy_cells W.drew _ _ ty 52 F 1 n dc ⟨F, 0, none⟩ (n + 1) sc (L.take n) Try.underlying49 hsz (by rw [hl0]; simp only [Nat.min_def]; split <;> omega)
      (fun j v hj => by
        rw [Addr.add_mid, Nat.zero_add]
        rw [List.getElem?_take] at hj
        split at hj
        · exact h.cell hj
        · cases hj)
      (fun j hj => h.some (by omega)) (fun j hj => h.free _) (fun v hv => h1 v (List.mem_of_mem_take hv))
  obtain ⟨W1, hW1⟩ : ∃ W1, W.drew.setCells F 1 (L.take n) = W1 := ⟨_, rfl⟩
  have hF1 : FB W1 F (L.take 1 ++ L.take n ++ L.drop (1 + n)) := by
    rw [← hW1]
    have := FB.set (L.take n) 1 (show FB W.drew F L from h) (by rw [hl0]; omega)
    rwa [hl0] at this
  have hB1 : But W W1 F := by rw [← hW1]; exact (But.drew W F).trans (But.cells F _ 1 _)
  have hV1 : W1.heap[V]? = some (.cells #[ptr t] 52 (0, 0)) := (hB1.o V (Nat.lt_of_not_le fun hn => by rw [Array.getElem?_eq_none hn] at hV; cases hV) hVF).trans hV
  have hlt1 : (L.take 1).length = 1 := by rw [List.length_take]; omega
  have hl1 : (L.take 1 ++ L.take n ++ L.drop (1 + n)).length = cap := by rw [List.length_append, List.length_append, hlt1, hl0, List.length_drop]; omega
  have hcB : ∀ ty dc, (Builtin.copy_ #[49, 49] ty #[.slice (some ⟨F, 0, none⟩) (n + 1) dc, .slice (some ⟨V, 0, none⟩) 1 1]).run Try.prog W1 = .ok (goInt 1) (W1.setCells F 0 [ptr t]) := fun ty dc =>
    run_copy_cells W1 _ _ ty 52 F 0 (n + 1) dc ⟨V, 0, none⟩ 1 1 [ptr t] Try.underlying49 hsz (by simp only [Nat.min_def]; split <;> simp; omega)
      (fun j v hj => by
        have hl := (List.getElem?_eq_some_iff.1 hj).1
        obtain rfl : j = 0 := by simpa using hl
        rw [Addr.add_mid, cell_of_row _ _ _ _ _ _ hV1]; exact hj)
      (fun j hj => hF1.some (by simp at hj; omega)) (fun j hj => hF1.free _) (fun v hv => by rw [List.mem_singleton] at hv; subst hv; rfl)
  have E := Lib.hid (show FR (W1.setCells F 0 [ptr t]) F (.slice (some ⟨F, 0, none⟩) (n + 1) cap) (t :: ts) ∧ But W (W1.setCells F 0 [ptr t]) F from by
    have h2 := FB.set [ptr t] 0 hF1 (by rw [hl1]; simp; omega)
    rw [List.take_zero, List.nil_append, List.length_singleton, Nat.zero_add, List.append_assoc, List.drop_append, List.drop_of_length_le (by omega), List.nil_append, hlt1, Nat.sub_self, List.drop_zero, List.singleton_append, ← List.cons_append] at h2
    refine ⟨fr_cons h2 hn (by omega) (by simp [hl0]; omega) hcap h1 (fun u hu => h1 u (List.mem_of_mem_drop hu)) hts, hB1.trans (But.cells F _ 0 W1)⟩)
  rw [hW1] at hcA
  have HA := Lib.hid hcA
  have HB := Lib.hid hcB
  have HF := Lib.hid h.lt
  have WR : wrap64 ((n : Int) + 1) = ((n + 1 : Nat) : Int) := by simp only [wrap64]; omega
  have g1 : ¬ cap = 1 := by omega
  have g0 : ¬ cap = 0 := by omega
  have gn : ¬ (0 : Int) = (n : Int) := by omega
  have gc : ¬ (cap : Int) < (n : Int) + 1 := by omega
  have gm : (n : Int) + 1 ≤ (cap : Int) := by omega
  have e1 : n + 1 - 1 = n := by omega
  have hw1 : IntKind.i64.wrap 1 = 1 := rfl
  have gi : (1 : Int) ≤ (n : Int) + 1 := by omega
  have gp : (0 : Int) ≤ (n : Int) + 1 := by omega
  clear h hV hV1 hF1 hB1 hcA hcB hts h1 hW1 hl1 hlt1 hl0 hL
  go_enter Try.func32, Try.ntmps32
  go_upto_region 15 with (simp only [hov])
  refine region_gate (fun w' => w' = W.drew) 8 (by kernel_rfl) rfl (fun hHeld => ?_)
  refine gate_takeF (i := 0) (v := ?v1) rfl (by kernel_rfl) (by kernel_rfl) (by kernel_rfl) (by kernel_rfl) (fun _ _ _ h => h) (Or.inl ⟨by rfl, ?hy1⟩) (by assumption) ?rest1
  case hy1 => intro w hSw; clear hSw; go_simp; (first | done | with_reducible rfl)
  (try simp only [Act.put, List.getElem_toArray, List.getElem_cons_zero, List.getElem_cons_succ, List.setIfInBounds_toArray, List.set_cons_zero, List.set_cons_succ])
  refine gate_takeF (i := 1) (v := ?v2) rfl (by kernel_rfl) (by kernel_rfl) (by kernel_rfl) (by kernel_rfl) (fun _ _ _ h => h) (Or.inl ⟨by rfl, ?hy2⟩) (by assumption) ?rest2
  case hy2 => intro w hSw; clear hSw; go_simp; (first | done | with_reducible rfl)
  (try simp only [Act.put, List.getElem_toArray, List.getElem_cons_zero, List.getElem_cons_succ, List.setIfInBounds_toArray, List.set_cons_zero, List.set_cons_succ])
  refine gate_takeF (i := 2) (v := ?v3) rfl (by kernel_rfl) (by kernel_rfl) (by kernel_rfl) (by kernel_rfl) (fun _ _ _ h => h) (Or.inl ⟨by rfl, ?hy3⟩) (by assumption) ?rest3
  case hy3 => intro w hSw; clear hSw; go_simp; (first | done | with_reducible rfl)
  (try simp only [Act.put, List.getElem_toArray, List.getElem_cons_zero, List.getElem_cons_succ, List.setIfInBounds_toArray, List.set_cons_zero, List.set_cons_succ])
  refine gate_takeF (i := 3) (v := ?v4) rfl (by kernel_rfl) (by kernel_rfl) (by kernel_rfl) (by kernel_rfl) (fun _ _ _ h => h) (Or.inl ⟨by rfl, ?hy4⟩) (by assumption) ?rest4
  case hy4 => intro w hSw; clear hSw; go_simp; (first | done | with_reducible rfl)
  (try simp only [Act.put, List.getElem_toArray, List.getElem_cons_zero, List.getElem_cons_succ, List.setIfInBounds_toArray, List.set_cons_zero, List.set_cons_succ])
  refine gate_takeF (i := 4) (v := ?v5) rfl (by kernel_rfl) (by kernel_rfl) (by kernel_rfl) (by kernel_rfl) (fun _ _ _ h => h) (Or.inl ⟨by rfl, ?hy5⟩) (by assumption) ?rest5
  case hy5 => intro w hSw; clear hSw; go_simp; (first | done | with_reducible rfl)
  (try simp only [Act.put, List.getElem_toArray, List.getElem_cons_zero, List.getElem_cons_succ, List.setIfInBounds_toArray, List.set_cons_zero, List.set_cons_succ])
  refine gate_takeF (i := 5) (v := ?v6) rfl (by kernel_rfl) (by kernel_rfl) (by kernel_rfl) (by kernel_rfl) (fun _ _ _ h => h) (Or.inl ⟨by rfl, ?hy6⟩) (by assumption) ?rest6
  case hy6 => intro w hSw; clear hSw; go_simp; (first | done | with_reducible rfl)
  (try simp only [Act.put, List.getElem_toArray, List.getElem_cons_zero, List.getElem_cons_succ, List.setIfInBounds_toArray, List.set_cons_zero, List.set_cons_succ])
  refine gate_takeF (i := 6) (v := ?v7) rfl (by kernel_rfl) (by kernel_rfl) (by kernel_rfl) (by kernel_rfl) (fun _ _ _ h => h) (Or.inl ⟨by rfl, ?hy7⟩) (by assumption) ?rest7
  case hy7 => intro w hSw; clear hSw; go_simp; (first | done | with_reducible rfl)
  (try simp only [Act.put, List.getElem_toArray, List.getElem_cons_zero, List.getElem_cons_succ, List.setIfInBounds_toArray, List.set_cons_zero, List.set_cons_succ])
  refine gate_takeF (i := 7) (v := ?v8) rfl (by kernel_rfl) (by kernel_rfl) (by kernel_rfl) (by kernel_rfl) (fun _ _ _ h => h) (Or.inl ⟨by rfl, ?hy8⟩) (by assumption) ?rest8
  case hy8 => intro w hSw; clear hSw; go_simp; (first | done | with_reducible rfl)
  (try simp only [Act.put, List.getElem_toArray, List.getElem_cons_zero, List.getElem_cons_succ, List.setIfInBounds_toArray, List.set_cons_zero, List.set_cons_succ])
  refine gate_past (i := 8) rfl (by kernel_rfl) (by kernel_rfl) (fun K hK => ?_)
  refine step_cpy rfl _ _ _ _ rfl _ _ rfl rfl (HA.out _ _ _) ?_
  refine hK.out _ _ ?_
  clear hK K
  (try simp only [Act.put, List.getElem_toArray, List.getElem_cons_zero, List.getElem_cons_succ, List.setIfInBounds_toArray, List.set_cons_zero, List.set_cons_succ])
  refine gate_done (by kernel_rfl) ?_ _
  clear hHeld
  have hcb := HB.out
  go_wp2_with fail
  go_ret
  exact ⟨_, rfl, E.out.1, E.out.2⟩
set_option maxRecDepth 100000 in
set_option maxHeartbeats 8000000 in
theorem ins_grow (F V t n : Nat) (L : List Value) (ts : List Nat) (W : World) (h : FB W F L) (hL : L.length = n) (hn : ts.length = n) (hn1 : 1 ≤ n) (hcap : n ≤ 100000) (h1 : ∀ v ∈ L, v.oneCell' = true) (hts : ∀ (j x : Nat), ts[j]? = some x → L[j]? = some (ptr x))
    (hV : W.heap[V]? = some (.cells #[ptr t] 52 (0, 0))) :
    Calls Try.prog 32 #[.slice (some ⟨F, 0, none⟩) n n, .int .i64 0, .slice (some ⟨V, 0, none⟩) 1 1] W fun e w' => ∃ v', e = .returned v' ∧ FR w' W.heap.size v' (t :: ts) ∧ Below W.heap.size W w' := by
  have hsz : (Try.prog.info? 52).map (·.size) = some 1 := size_p
  obtain ⟨i0, hi0, hz0, hs0, hb0⟩ := info_p'
  have hVl : V < W.heap.size := Nat.lt_of_not_le fun hn => by rw [Array.getElem?_eq_none hn] at hV; cases hV
  have hap : ∀ ty, (Builtin.append_ #[49, 3] ty #[.slice (some ⟨F, 0, none⟩) 0 n, .int .i64 ((n + 1 : Nat) : Int)]).run Try.prog W = _ := fun ty =>
    Lib.run_append_grow_zeros (P := Try.prog) W 49 3 ty 52 i0 nilP .i64 .i64 Try.underlying49 Try.underlying3 hi0 hz0 (some ⟨F, 0, none⟩) 0 n [] (firstCells_zero _ _ n _) (n + 1) (by omega) (by omega) (by omega) (by omega) (by rw [hb0]; omega) (by rw [hb0]; exact growslice_fits (by omega) (by omega))
  have hg1 : 0 + (n + 1) ≤ grownCap W (0 + (n + 1)) n 52 := grownCap_ge ..
  have hg2 := grownCap_le_maxLen W (0 + (n + 1)) n 52 (by unfold maxLen; omega)
  simp only [Nat.zero_add] at hg1 hg2 hap
  obtain ⟨G, hG⟩ : ∃ G, grownCap W (n + 1) n 52 = G := ⟨_, rfl⟩
  rw [hG] at hg1 hg2
  have hg3 : G ≤ 9223372036854775807 := by unfold maxLen at hg2; exact hg2
  clear hg2
  simp only [hG] at hap
  clear hG
  obtain ⟨N, hN⟩ : ∃ N, W.heap.size = N := ⟨_, rfl⟩
  obtain ⟨W1, hW1⟩ : ∃ W1, W.drew.alloc (.cells (([] : List Value).toArray ++ Builtin.zeroCells nilP.cells (n + 1) ++ Builtin.zeroCells nilP.cells (G - (n + 1))) 52) = W1 := ⟨_, rfl⟩
  simp only [hW1, hN] at hap
  have hF1 : FB W1 N (List.replicate G nilP) := by
    rw [← hW1, ← hN]
    have := heap_alloc_new W.drew (.cells (([] : List Value).toArray ++ Builtin.zeroCells nilP.cells (n + 1) ++ Builtin.zeroCells nilP.cells (G - (n + 1))) 52)
    unfold FB
    rw [show W.drew.heap.size = W.heap.size from rfl] at this
    rw [this]
    congr 2
    apply Array.ext'
    rw [Array.toList_append, Array.toList_append, zeros_list, zeros_list]
    simp only [List.nil_append]
    rw [List.replicate_append_replicate, show n + 1 + (G - (n + 1)) = G by omega]
  have hB1 : Below N W W1 := by rw [← hW1, ← hN]; exact ((Below.refl W.heap.size W).drew).alloc (Nat.le_refl _) _
  have hV1 : W1.heap[V]? = some (.cells #[ptr t] 52 (0, 0)) := (hB1.block V (by omega)).trans hV
  have hFL1 : FB W1 F L := (hB1.block F (by have := h.lt; omega)).trans h
  have hFN : F ≠ N := by have := h.lt; omega
  have hcA : ∀ ty dc, (Builtin.copy_ #[49, 49] ty #[.slice (some ⟨N, 0, none⟩) (n + 1) dc, .slice (some ⟨V, 0, none⟩) 1 1]).run Try.prog W1 = .ok (goInt 1) (W1.setCells N 0 [ptr t]) := fun ty dc =>
    run_copy_cells W1 _ _ ty 52 N 0 (n + 1) dc ⟨V, 0, none⟩ 1 1 [ptr t] Try.underlying49 hsz (by simp only [Nat.min_def]; split <;> simp; omega)
      (fun j v hj => by
        have hl := (List.getElem?_eq_some_iff.1 hj).1
        obtain rfl : j = 0 := by simpa using hl
        rw [Addr.add_mid, cell_of_row _ _ _ _ _ _ hV1]; exact hj)
      (fun j hj => hF1.some (by simp at hj; simp; omega)) (fun j hj => hF1.free _) (fun v hv => by rw [List.mem_singleton] at hv; subst hv; rfl)
  obtain ⟨W2, hW2⟩ : ∃ W2, W1.setCells N 0 [ptr t] = W2 := ⟨_, rfl⟩
  have hF2 : FB W2 N (ptr t :: List.replicate (G - 1) nilP) := by
    rw [← hW2]
    have := FB.set [ptr t] 0 hF1 (by simp; omega)
    simpa using this
  have hB2 : But W1 W2 N := by rw [← hW2]; exact But.cells N _ 0 W1
  have hFL2 : FB W2 F L := hFL1.but hB2 hFN
  have hcB : ∀ ty dc, (Builtin.copy_ #[49, 49] ty #[.slice (some ⟨N, 1, none⟩) n dc, .slice (some ⟨F, 0, none⟩) n n]).run Try.prog W2.drew = .ok (goInt L.length) (W2.drew.setCells N 1 L) := fun ty dc =>
    run_copy_cells W2.drew _ _ ty 52 N 1 n dc ⟨F, 0, none⟩ n n L Try.underlying49 hsz (by rw [hL]; simp only [Nat.min_def]; split <;> omega)
      (fun j v hj => by rw [Addr.add_mid, Nat.zero_add]; exact hFL2.cell hj)
      (fun j hj => hF2.some (by simp; omega)) (fun j hj => hF2.free _) h1
  obtain ⟨W3, hW3⟩ : ∃ W3, W2.drew.setCells N 1 L = W3 := ⟨_, rfl⟩
  have E := Lib.hid (show FR W3 N (.slice (some ⟨N, 0, none⟩) (n + 1) G) (t :: ts) ∧ Below N W W3 from by
    have h3 := FB.set L 1 (show FB W2.drew N _ from hF2) (by simp; omega)
    rw [hW3] at h3
    have e : (ptr t :: List.replicate (G - 1) nilP).take 1 ++ L ++ (ptr t :: List.replicate (G - 1) nilP).drop (1 + L.length) = ptr t :: L.take n ++ List.replicate (G - 1 - n) nilP := by
      rw [List.take_of_length_le (by omega : L.length ≤ n), show 1 + L.length = L.length + 1 by omega, List.drop_succ_cons, List.drop_replicate, hL]
      rfl
    rw [e] at h3
    refine ⟨fr_cons h3 hn (by omega) (by simp; omega) hg3 h1 (fun u hu => by rw [(List.mem_replicate.1 hu).2]; rfl) hts, ?_⟩
    have b2 := hB2.b N (Nat.le_refl N) (by have := hF1.lt; omega)
    have b3 := (But.cells N L 1 W2.drew).b N (Nat.le_refl N) (by have := hF2.lt; exact Nat.le_of_lt this)
    rw [hW3] at b3
    exact (hB1.trans b2).trans (((Below.refl N W2).drew).trans b3))
  simp only [hW2] at hcA
  simp only [hW3] at hcB
  have HP := Lib.hid (show ∀ ty, (Builtin.append_ #[49, 3] ty #[.slice (some ⟨F, 0, none⟩) 0 n, .int .i64 ((n : Int) + 1)]).run Try.prog W = .ok (.slice (some ⟨N, 0, none⟩) (n + 1) G) W1 from fun ty => by
    have h9 := hap ty
    rw [show ((n + 1 : Nat) : Int) = (n : Int) + 1 by omega] at h9
    exact h9)
  have HA := Lib.hid hcA
  have HB := Lib.hid hcB
  have HF := Lib.hid h.lt
  have HNN := Lib.hid hN
  have WR : wrap64 ((n : Int) + 1) = ((n + 1 : Nat) : Int) := by simp only [wrap64]; omega
  have g1 : ¬ G = 1 := by omega
  have g0 : ¬ G = 0 := by omega
  have gn : ¬ (0 : Int) = (n : Int) := by omega
  have gc : (n : Int) < (n : Int) + 1 := by omega
  have gz : ¬ n = 0 := by omega
  have gG : n + 1 ≤ G := by omega
  have e1 : n + 1 - 1 = n := by omega
  have gi : (1 : Int) ≤ (n : Int) + 1 := by omega
  have gp : (0 : Int) ≤ (n : Int) + 1 := by omega
  have hw1 : IntKind.i64.wrap 1 = 1 := rfl
  have HWN := Lib.hid (show W.heap.size < W1.heap.size ∧ W.heap.size < W2.heap.size from ⟨by rw [hN]; exact hF1.lt, by rw [hN]; exact hF2.lt⟩)
  rw [hN]
  clear h hV hV1 hF1 hB1 hap hcA hcB hts h1 hW1 hW2 hW3 hL hF2 hB2 hFL1 hFL2 hs0 hb0 hz0 hg1 hg3 hN
  go_enter Try.func32, Try.ntmps32
  have hcp2 := HA.out
  go_upto_region 11 with (at_builtin; refine wpl_app rfl _ _ _ _ rfl (.slice (some ⟨F, 0, none⟩) 0 n) (.int .i64 ((n : Int) + 1)) rfl rfl (HP.out _) ?_)
  clear hcp2
  refine region_gate (fun w' => w' = W2.drew) 8 (by kernel_rfl) rfl (fun hHeld => ?_)
  refine gate_takeF (i := 0) (v := ?v9) rfl (by kernel_rfl) (by kernel_rfl) (by kernel_rfl) (by kernel_rfl) (fun _ _ _ h => h) (Or.inl ⟨by rfl, ?hy9⟩) (by assumption) ?rest9
  case hy9 => intro w hSw; clear hSw; go_simp; (first | done | with_reducible rfl)
  (try simp only [Act.put, List.getElem_toArray, List.getElem_cons_zero, List.getElem_cons_succ, List.setIfInBounds_toArray, List.set_cons_zero, List.set_cons_succ])
  refine gate_takeF (i := 1) (v := ?v10) rfl (by kernel_rfl) (by kernel_rfl) (by kernel_rfl) (by kernel_rfl) (fun _ _ _ h => h) (Or.inl ⟨by rfl, ?hy10⟩) (by assumption) ?rest10
  case hy10 => intro w hSw; clear hSw; go_simp; (first | done | with_reducible rfl)
  (try simp only [Act.put, List.getElem_toArray, List.getElem_cons_zero, List.getElem_cons_succ, List.setIfInBounds_toArray, List.set_cons_zero, List.set_cons_succ])
  refine gate_takeF (i := 2) (v := ?v11) rfl (by kernel_rfl) (by kernel_rfl) (by kernel_rfl) (by kernel_rfl) (fun _ _ _ h => h) (Or.inl ⟨by rfl, ?hy11⟩) (by assumption) ?rest11
  case hy11 => intro w hSw; clear hSw; go_simp; (first | done | with_reducible rfl)
  (try simp only [Act.put, List.getElem_toArray, List.getElem_cons_zero, List.getElem_cons_succ, List.setIfInBounds_toArray, List.set_cons_zero, List.set_cons_succ])
  refine gate_takeF (i := 3) (v := ?v12) rfl (by kernel_rfl) (by kernel_rfl) (by kernel_rfl) (by kernel_rfl) (fun _ _ _ h => h) (Or.inl ⟨by rfl, ?hy12⟩) (by assumption) ?rest12
  case hy12 => intro w hSw; clear hSw; go_simp; (first | done | with_reducible rfl)
  (try simp only [Act.put, List.getElem_toArray, List.getElem_cons_zero, List.getElem_cons_succ, List.setIfInBounds_toArray, List.set_cons_zero, List.set_cons_succ])
  refine gate_takeF (i := 4) (v := ?v13) rfl (by kernel_rfl) (by kernel_rfl) (by kernel_rfl) (by kernel_rfl) (fun _ _ _ h => h) (Or.inl ⟨by rfl, ?hy13⟩) (by assumption) ?rest13
  case hy13 => intro w hSw; clear hSw; go_simp; (first | done | with_reducible rfl)
  (try simp only [Act.put, List.getElem_toArray, List.getElem_cons_zero, List.getElem_cons_succ, List.setIfInBounds_toArray, List.set_cons_zero, List.set_cons_succ])
  refine gate_takeF (i := 5) (v := ?v14) rfl (by kernel_rfl) (by kernel_rfl) (by kernel_rfl) (by kernel_rfl) (fun _ _ _ h => h) (Or.inl ⟨by rfl, ?hy14⟩) (by assumption) ?rest14
  case hy14 => intro w hSw; clear hSw; go_simp; (first | done | with_reducible rfl)
  (try simp only [Act.put, List.getElem_toArray, List.getElem_cons_zero, List.getElem_cons_succ, List.setIfInBounds_toArray, List.set_cons_zero, List.set_cons_succ])
  refine gate_takeF (i := 6) (v := ?v15) rfl (by kernel_rfl) (by kernel_rfl) (by kernel_rfl) (by kernel_rfl) (fun _ _ _ h => h) (Or.inl ⟨by rfl, ?hy15⟩) (by assumption) ?rest15
  case hy15 => intro w hSw; clear hSw; go_simp; (first | done | with_reducible rfl)
  (try simp only [Act.put, List.getElem_toArray, List.getElem_cons_zero, List.getElem_cons_succ, List.setIfInBounds_toArray, List.set_cons_zero, List.set_cons_succ])
  refine gate_takeF (i := 7) (v := ?v16) rfl (by kernel_rfl) (by kernel_rfl) (by kernel_rfl) (by kernel_rfl) (fun _ _ _ h => h) (Or.inl ⟨by rfl, ?hy16⟩) (by assumption) ?rest16
  case hy16 => intro w hSw; clear hSw; go_simp; (first | done | with_reducible rfl)
  (try simp only [Act.put, List.getElem_toArray, List.getElem_cons_zero, List.getElem_cons_succ, List.setIfInBounds_toArray, List.set_cons_zero, List.set_cons_succ])
  refine gate_past (i := 8) rfl (by kernel_rfl) (by kernel_rfl) (fun K hK => ?_)
  refine step_cpy rfl _ _ _ _ rfl _ _ rfl rfl (HB.out _ _) ?_
  refine hK.out _ _ ?_
  clear hK K
  (try simp only [Act.put, List.getElem_toArray, List.getElem_cons_zero, List.getElem_cons_succ, List.setIfInBounds_toArray, List.set_cons_zero, List.set_cons_succ])
  refine gate_done (by kernel_rfl) ?_ _
  clear hHeld
  go_wp2_with fail
  go_ret
  exact ⟨_, rfl, E.out.1, E.out.2⟩
end Go.Proofs.Ytncpikaegcookaa
