/- LoadCounts. By program (genlc.py). -/
import Derived.Test.YtfilbdmenlhoiaaLcs
namespace Go.Proofs.Ytfilbdmenlhoiaa
open Go.ChangeShapes Go.WideShapes Go.ChangeAt Go.RowKit
set_option linter.unusedVariables false
open Go.WideMaps Go.MapKept Go.WideElems Go.ChangeMaps Go.Maps
set_option linter.unusedSimpArgs false
namespace loadCounts
set_option maxRecDepth 100000 in
set_option maxHeartbeats 32000000 in
theorem walk (W : World) (v0 : Value) (l0 : List Oi) (hR0 : RowO W W.heap.size v0 l0) :
    Calls Try.prog 4 #[v0] W fun e W' => e = .returned (.bool true) ∧ Below W.heap.size W W' := by
  have HR := Lib.hid hR0
  have OK := Lib.hid (rowO_ok hR0).1
  have WO := Lib.hid (rowO_ok hR0).2
  obtain ⟨p, c, rfl, hlc, hcm, -⟩ := hR0
  have LV := Lib.hid live45
  by_cases h60 : 60 < l0.length
  · have hd : decide ((l0.length : Int) > 60) = true := by simp; omega
    go_enter Try.func4, Try.ntmps4
    go_wp2_with fail
    refine (LV.out W).mono ?_
    rintro e w1 ⟨rfl, hb1⟩
    have HB1 := Lib.hid hb1
    clear hb1
    go_wp2_with fail
    go_ret
    exact ⟨rfl, HB1.out⟩
  · have HN := Lib.hid (show l0.length ≤ 60 by omega)
    have CK := Lib.hid (l_kinds _ l0 W.heap.size W HR.out (Nat.le_refl _) (by omega) OK.out)
    go_enter Try.func4, Try.ntmps4
    go_wp2_with fail
    refine CK.out.mono ?_
    rintro e w1 ⟨rfl, hb1⟩
    have HB1 := Lib.hid hb1
    clear hb1
    go_wp2_with fail
    refine (l_clients _ l0 W.heap.size w1 (HR.out.below HB1.out) HB1.out.size (by have := HN.out; omega) OK.out WO.out).mono ?_
    rintro e w2 ⟨M, rfl, hM, hMs, hb2⟩
    obtain ⟨fl, hfl⟩ : ∃ fl, (flatL (kindsL l0)).toArray = fl := ⟨_, rfl⟩
    have hfs : fl.size = 32 := by rw [← hfl, List.size_toArray, flatL_len, kindsL_len]
    have hf1 : fl.all (·.oneCell') = true := by rw [← hfl]; exact flatL_one _
    obtain ⟨w3, hw3⟩ : ∃ w3, w2.alloc (.cells fl 29) = w3 := ⟨_, rfl⟩
    have ST := run_storeAt_new (P := Try.prog) w2 29 #[.int .i64 0, .int .i64 0, .int .i64 0, .int .i64 0, .int .i64 0, .int .i64 0, .int .i64 0, .int .i64 0, .int .i64 0, .int .i64 0, .int .i64 0, .int .i64 0, .int .i64 0, .int .i64 0, .int .i64 0, .int .i64 0, .int .i64 0, .int .i64 0, .int .i64 0, .int .i64 0, .int .i64 0, .int .i64 0, .int .i64 0, .int .i64 0, .int .i64 0, .int .i64 0, .int .i64 0, .int .i64 0, .int .i64 0, .int .i64 0, .int .i64 0, .int .i64 0] fl (by rw [hfs]; exact arr_size) (by rw [hfs]; rfl) hf1
    rw [hw3] at ST
    have ST := Lib.hid ST
    obtain ⟨w4, hw4⟩ : ∃ w4, w3.alloc (.cells #[.int .i64 0, .int .i64 0, .int .i64 0, .int .i64 0] 25) = w4 := ⟨_, rfl⟩
    have hs3 : w3.heap.size = w2.heap.size + 1 := by rw [← hw3]; simp
    have HS4 := Lib.hid (show LS W w2.heap.size w3.heap.size M l0 ⟨0, 0, 0, 0⟩ w4 from by
      have b3 : Below w2.heap.size w2 w3 := by rw [← hw3]; exact (Below.refl _ _).alloc (Nat.le_refl _) _
      have b4 : Below w3.heap.size w3 w4 := by rw [← hw4]; exact (Below.refl _ _).alloc (Nat.le_refl _) _
      have a3 : w3.heap[w2.heap.size]? = some (.cells (flatL (kindsL l0)).toArray 29 (0, 0)) := by rw [← hw3, hfl]; exact heap_alloc_new _ _
      have hMl := g_lt hM
      have hw : Below W.heap.size W w2 := HB1.out.trans (hb2.mono HB1.out.size)
      refine ⟨LK.of_flat (kindsL_len _) ((b4.block _ (by omega)).trans a3), by rw [← hw4]; exact heap_alloc_new _ _, (b4.block _ (by omega)).trans ((b3.block _ hMl).trans hM), (hw.trans (b3.mono hw.size)).trans (b4.mono (by have := hw.size; omega)), by omega, by omega, by have := hw.size; omega⟩)
    have HW4 := Lib.hid hw4
    have HFL := Lib.hid hfl
    obtain ⟨A, hA⟩ : ∃ A, w2.heap.size = A := ⟨_, rfl⟩
    obtain ⟨B, hB⟩ : ∃ B, w3.heap.size = B := ⟨_, rfl⟩
    rw [hA, hB] at HS4
    have HA := Lib.hid hA
    have HB := Lib.hid hB
    clear hM hMs hb2 hfs hf1 hw3 hw4 hs3 hA hB
    go_wp2_with (refine wpl_newT rfl _ _ rfl rfl rfl ST.out ?_)
    rw [HW4.out, HA.out, HB.out]
    clear ST
    go_loopw [6] (fun x wr => ∃ (i : Nat), x = .int .i64 i ∧ Hid (i ≤ 8) ∧ Hid (LS W A B M l0 (partS kf l0 (kindD i)) wr)) (fun x _ => 8 - (match x with | .int _ n => n.toNat | _ => 0))
    case atStart => exact ⟨0, rfl, Lib.hid (by omega), HS4⟩
    case round =>
      obtain ⟨i, rfl, HI, HS⟩ := hrel
      obtain ⟨w5, rfl⟩ : ∃ w, w = wr := ⟨_, rfl⟩
      by_cases hi : i < 8
      · have hi8 : (i : Int) < 8 := by omega
        obtain ⟨s, hs⟩ : ∃ s, kindL l0 i = s := ⟨_, rfl⟩
        have HSG := Lib.hid (show (kindsL l0)[i]? = some s by rw [kindsL_get _ hi, hs])
        have HSO := Lib.hid (show s.ok ∧ 0 ≤ s.g by rw [← hs]; exact kindL_ok OK.out i)
        have HOF := Lib.hid (show ofN (l0.filter (fun y => decide (kf y = (i : Int)))) = s from hs)
        obtain ⟨t, ht⟩ : ∃ t, partS kf l0 (kindD i) = t := ⟨_, rfl⟩
        have HTO := Lib.hid (show t.ok ∧ 0 ≤ t.g by rw [← ht]; exact partS_ok kf l0 OK.out _)
        have HPS := Lib.hid (show lsum [t, s] = partS kf l0 (kindD (i + 1)) by rw [lsum_two HTO.out, kindD_succ, partS_snoc, ht]; unfold kindL at hs; rw [hs])
        have WR := Lib.hid (show wrap64 ((i : Int) + 1) = ((i + 1 : Nat) : Int) by simp only [wrap64]; omega)
        have CKD := Lib.hid (fun (u : World) (hu : LS W A B M l0 t u) => r45_kind _ l0 (i : Int) W.heap.size u (HR.out.below hu.w) hu.w.size (by have := HN.out; omega))
        have CSM := Lib.hid (l45_same s)
        have COF := Lib.hid (fun (v : Value) (u : World) (lim : Nat) (hO : OwnO u lim v (l0.filter (fun y => decide (kf y = (i : Int))))) => (show Calls Try.prog 11 #[v] u fun e w' => e = .returned (.agg #[.int .i64 s.c, .int .i64 s.e, .int .i64 s.d, .int .i64 s.g]) ∧ Below u.heap.size u w' from by
          have := r45_of v _ u.heap.size u hO.rowO (Nat.le_refl _) (Nat.le_trans (List.length_filter_le ..) (by have := HN.out; omega))
          rw [HOF.out] at this
          exact this))
        rw [ht] at HS
        clear hs ht
        go_upto_region 8 with fail
        refine wp_region_held_drew (S := fun w' => LS W A B M l0 t w') (by kernel_rfl) ?_ (fun hHeld => ?_)
        · exact HS.out.drew
        refine wpAnyH_take (i := 0) (v := ?v1) rfl (by kernel_rfl) (by kernel_rfl) (by kernel_rfl) (fun _ _ _ h => h) (Or.inl ⟨by kernel_rfl, ?hy1⟩) (by assumption) ?rest1
        case hy1 => intro w hSw; (try dsimp only at hSw); go_simp; (first | done | with_reducible rfl)
        (try simp only [Act.put, List.getElem_toArray, List.getElem_cons_zero, List.getElem_cons_succ, List.setIfInBounds_toArray, List.set_cons_zero, List.set_cons_succ])
        refine wpAnyH_take (i := 1) (v := ?v2) rfl (by kernel_rfl) (by kernel_rfl) (by kernel_rfl) (fun _ _ _ h => h) (Or.inl ⟨by kernel_rfl, ?hy2⟩) (by assumption) ?rest2
        case hy2 => intro w hSw; (try dsimp only at hSw); go_simp; (first | done | with_reducible rfl)
        (try simp only [Act.put, List.getElem_toArray, List.getElem_cons_zero, List.getElem_cons_succ, List.setIfInBounds_toArray, List.set_cons_zero, List.set_cons_succ])
        refine wpAnyH_take (i := 2) (v := .agg #[.int .i64 s.c, .int .i64 s.e, .int .i64 s.d, .int .i64 s.g]) rfl (by kernel_rfl) (by kernel_rfl) (by kernel_rfl) (fun _ _ _ h => h) (yieldsIf_load_mid (by kernel_rfl) 25 _ rfl A (i * 4) rfl [.int .i64 s.c, .int .i64 s.e, .int .i64 s.d, .int .i64 s.g] _ (fun w h => h.a.c _ _ HSG.out) Try.underlying25 rfl ld_size) (by assumption) ?_
        (try simp only [Act.put, List.getElem_toArray, List.getElem_cons_zero, List.getElem_cons_succ, List.setIfInBounds_toArray, List.set_cons_zero, List.set_cons_succ])
        refine wpAnyH_take (i := 3) (v := ?v3) rfl (by kernel_rfl) (by kernel_rfl) (by kernel_rfl) (fun _ _ _ h => h) (Or.inl ⟨by kernel_rfl, ?hy3⟩) (by assumption) ?rest3
        case hy3 => intro w hSw; (try dsimp only at hSw); go_simp; (first | done | with_reducible rfl)
        (try simp only [Act.put, List.getElem_toArray, List.getElem_cons_zero, List.getElem_cons_succ, List.setIfInBounds_toArray, List.set_cons_zero, List.set_cons_succ])
        refine wpAnyH_take (i := 4) (v := ?v4) rfl (by kernel_rfl) (by kernel_rfl) (by kernel_rfl) (fun _ _ _ h => h) (Or.inl ⟨by kernel_rfl, ?hy4⟩) (by assumption) ?rest4
        case hy4 => intro w hSw; (try dsimp only at hSw); go_simp; (first | done | with_reducible rfl)
        (try simp only [Act.put, List.getElem_toArray, List.getElem_cons_zero, List.getElem_cons_succ, List.setIfInBounds_toArray, List.set_cons_zero, List.set_cons_succ])
        refine wpAnyH_ready (rs := [5]) (by kernel_rfl) (by simp) ?_
        refine AllReadyH.cons rfl (fun K hK => ?_) AllReadyH.nil
        go_simp
        go_at_call 12
        (with_reducible refine (CKD.out _ hHeld).mono ?_)
        rintro e w6 ⟨v6, rfl, hO6, hb⟩
        (try go_wp2_with fail)
        refine hK.out _ _ ?_ (fun hHeld2 => ?_)
        · exact (hHeld.below hb)
        clear hK K hHeld
        have hHeld := hHeld2
        clear hHeld2
        (try simp only [Act.put, List.getElem_toArray, List.getElem_cons_zero, List.getElem_cons_succ, List.setIfInBounds_toArray, List.set_cons_zero, List.set_cons_succ])
        refine wpAnyH_ready (rs := [6]) (by kernel_rfl) (by simp) ?_
        refine AllReadyH.cons rfl (fun K hK => ?_) AllReadyH.nil
        go_simp
        go_at_call 11
        (with_reducible refine (COF.out _ _ _ hO6).mono ?_)
        rintro e w7 ⟨rfl, hb⟩
        (try go_wp2_with fail)
        refine hK.out _ _ ?_ (fun hHeld2 => ?_)
        · exact (hHeld.below hb)
        clear hK K hHeld
        have hHeld := hHeld2
        clear hHeld2
        (try simp only [Act.put, List.getElem_toArray, List.getElem_cons_zero, List.getElem_cons_succ, List.setIfInBounds_toArray, List.set_cons_zero, List.set_cons_succ])
        refine wpAnyH_ready (rs := [7]) (by kernel_rfl) (by simp) ?_
        refine AllReadyH.cons rfl (fun K hK => ?_) AllReadyH.nil
        go_simp
        go_at_call 10
        (with_reducible refine (CSM.out _).mono ?_)
        rintro e w8 ⟨rfl, hb⟩
        (try go_wp2_with fail)
        refine hK.out _ _ ?_ (fun hHeld2 => ?_)
        · exact (hHeld.below hb)
        clear hK K hHeld
        have hHeld := hHeld2
        clear hHeld2
        (try simp only [Act.put, List.getElem_toArray, List.getElem_cons_zero, List.getElem_cons_succ, List.setIfInBounds_toArray, List.set_cons_zero, List.set_cons_succ])
        refine wpAnyH_take (i := 8) (v := ?v5) rfl (by kernel_rfl) (by kernel_rfl) (by kernel_rfl) (fun _ _ _ h => h) (Or.inl ⟨by kernel_rfl, ?hy5⟩) (by assumption) ?rest5
        case hy5 => intro w hSw; (try dsimp only at hSw); go_simp; (first | done | with_reducible rfl)
        (try simp only [Act.put, List.getElem_toArray, List.getElem_cons_zero, List.getElem_cons_succ, List.setIfInBounds_toArray, List.set_cons_zero, List.set_cons_succ])
        refine wpAnyH_done (by kernel_rfl) ?_ _
        have HS8 := Lib.hid hHeld
        clear hHeld hO6
        go_upto_region 10 with fail
        refine region_gate (LS W A B M l0 t) 6 (by kernel_rfl) HS8.out.drew (fun hHeld => ?_)
        refine gate_take (i := 0) (v := .agg #[.int .i64 t.c, .int .i64 t.e, .int .i64 t.d, .int .i64 t.g]) rfl (by kernel_rfl) (by kernel_rfl) (by kernel_rfl) (by kernel_rfl) (by kernel_rfl) (fun _ _ _ h => h) (yieldsIf_load_mid (by kernel_rfl) 25 _ rfl B 0 rfl [.int .i64 t.c, .int .i64 t.e, .int .i64 t.d, .int .i64 t.g] _ (fun w h => h.load) Try.underlying25 rfl ld_size) (by assumption) ?_
        (try simp only [Act.put, List.getElem_toArray, List.getElem_cons_zero, List.getElem_cons_succ, List.setIfInBounds_toArray, List.set_cons_zero, List.set_cons_succ])
        refine gate_takeF (i := 1) (v := ?v6) rfl (by kernel_rfl) (by kernel_rfl) (by kernel_rfl) (by kernel_rfl) (fun _ _ _ h => h) (Or.inl ⟨by rfl, ?hy6⟩) (by assumption) ?rest6
        case hy6 => intro w hSw; clear hSw; go_simp; (first | done | with_reducible rfl)
        (try simp only [Act.put, List.getElem_toArray, List.getElem_cons_zero, List.getElem_cons_succ, List.setIfInBounds_toArray, List.set_cons_zero, List.set_cons_succ])
        refine gate_takeF (i := 2) (v := ?v7) rfl (by kernel_rfl) (by kernel_rfl) (by kernel_rfl) (by kernel_rfl) (fun _ _ _ h => h) (Or.inl ⟨by rfl, ?hy7⟩) (by assumption) ?rest7
        case hy7 => intro w hSw; clear hSw; go_simp; (first | done | with_reducible rfl)
        (try simp only [Act.put, List.getElem_toArray, List.getElem_cons_zero, List.getElem_cons_succ, List.setIfInBounds_toArray, List.set_cons_zero, List.set_cons_succ])
        refine gate_take (i := 3) (v := .agg #[.int .i64 s.c, .int .i64 s.e, .int .i64 s.d, .int .i64 s.g]) rfl (by kernel_rfl) (by kernel_rfl) (by kernel_rfl) (by kernel_rfl) (by kernel_rfl) (fun _ _ _ h => h) (yieldsIf_load_mid (by kernel_rfl) 25 _ rfl A (i * 4) rfl [.int .i64 s.c, .int .i64 s.e, .int .i64 s.d, .int .i64 s.g] _ (fun w h => h.a.c _ _ HSG.out) Try.underlying25 rfl ld_size) (by assumption) ?_
        (try simp only [Act.put, List.getElem_toArray, List.getElem_cons_zero, List.getElem_cons_succ, List.setIfInBounds_toArray, List.set_cons_zero, List.set_cons_succ])
        refine gate_one (i := 4) rfl (by kernel_rfl) (fun K hK => ?_)
        go_simp
        refine hK.out _ _ (hHeld.below ((Below.refl _ _).alloc (Nat.le_refl _) _)) (fun hHeld2 => ?_)
        clear hK K hHeld
        have hHeld := hHeld2
        clear hHeld2
        (try simp only [Act.put, List.getElem_toArray, List.getElem_cons_zero, List.getElem_cons_succ, List.setIfInBounds_toArray, List.set_cons_zero, List.set_cons_succ])
        refine gate_one (i := 5) rfl (by kernel_rfl) (fun K hK => ?_)
        go_simp
        refine (l_sum _ [t, s] _ ?rowA (by simp)).mono ?_
        case rowA => exact row_two HTO.out.1 HSO.out.1 (heap_alloc_new _ _)
        rintro e w' ⟨rfl, hb⟩
        (try go_wp2_with fail)
        refine hK.out _ _ (hHeld.below hb) (fun hHeld2 => ?_)
        clear hK K hHeld
        have hHeld := hHeld2
        clear hHeld2
        (try simp only [Act.put, List.getElem_toArray, List.getElem_cons_zero, List.getElem_cons_succ, List.setIfInBounds_toArray, List.set_cons_zero, List.set_cons_succ])
        refine gate_past (i := 6) rfl (by kernel_rfl) (by kernel_rfl) (fun K hK => ?_)
        refine step_plain rfl (wp_store_mid _ _ _ rfl B 0 _ rfl rfl hHeld.there ld_size (by simp [Value.oneCell']) ?_)
        refine hK.out _ _ ?_
        clear hK K
        (try simp only [Act.put, List.getElem_toArray, List.getElem_cons_zero, List.getElem_cons_succ, List.setIfInBounds_toArray, List.set_cons_zero, List.set_cons_succ])
        refine gate_done (by kernel_rfl) ?_ _
        have HS9 := hHeld.put (lsum [t, s])
        change LS W A B M l0 _ (w'.setCells B 0 [.int .i64 (lsum [t, s]).c, .int .i64 (lsum [t, s]).e, .int .i64 (lsum [t, s]).d, .int .i64 (lsum [t, s]).g]) at HS9
        generalize w'.setCells B 0 [.int .i64 (lsum [t, s]).c, .int .i64 (lsum [t, s]).e, .int .i64 (lsum [t, s]).d, .int .i64 (lsum [t, s]).g] = w9 at HS9 ⊢
        rw [HPS.out] at HS9
        have HS9 := Lib.hid HS9
        clear hHeld
        go_wp2_with fail
        go_roundw
        case rel => exact ⟨i + 1, by first | rw [WR.out] | simp, Lib.hid hi, HS9⟩
        case measure => (first | (simp; omega) | (simp [WR.out]; omega))
      · have h9 : i = 8 := by have := HI.out; omega
        subst h9
        rw [show ((8 : Nat) : Int) = 8 from rfl]
        obtain ⟨q, hq⟩ : ∃ q, ofN l0 = q := ⟨_, rfl⟩
        have HQ := Lib.hid hq
        rw [kind_all l0 (by have := HN.out; omega), hq] at HS
        obtain ⟨w6, hw6⟩ : ∃ w6, w5.alloc (.cells #[.int .i64 0, .int .i64 0, .int .i64 0, .int .i64 0] 25) = w6 := ⟨_, rfl⟩
        obtain ⟨C, hC⟩ : ∃ C, w5.heap.size = C := ⟨_, rfl⟩
        have HT6 := Lib.hid (show LT W A B C M l0 q ⟨0, 0, 0, 0⟩ w6 from by
          have b6 : Below C w5 w6 := by rw [← hw6, ← hC]; exact (Below.refl _ _).alloc (Nat.le_refl _) _
          have h1 := g_lt HS.out.b
          have h2 := HS.out.n
          refine ⟨⟨HS.out.a.below (by omega) b6, by rw [← hw6, ← hC]; exact heap_alloc_new _ _, (b6.block _ (by omega)).trans HS.out.m, HS.out.w.trans (b6.mono (by omega)), by omega, by omega, by omega⟩, (b6.block _ (by omega)).trans HS.out.b, by omega⟩)
        have HW6 := Lib.hid hw6
        have HC := Lib.hid hC
        clear hw6 hC hq
        go_wp2_with fail
        rw [HW6.out, HC.out]
        go_loopw [9, 7] (fun x n wr => ∃ (i : Nat), x = .int .i64 i ∧ n = .int .i64 ((clTo l0 i).length : Nat) ∧ Hid (i ≤ l0.length) ∧ Hid (LT W A B C M l0 q (partS (fun x => x.who) l0 (whoD l0 i)) wr)) (fun x _ _ => l0.length - (match x with | .int _ n => n.toNat | _ => 0))
        case atStart => exact ⟨0, rfl, rfl, Lib.hid (Nat.zero_le _), HT6⟩
        case round =>
          obtain ⟨i, rfl, rfl, HI, HT⟩ := hrel
          obtain ⟨w7, rfl⟩ : ∃ w, w = wr := ⟨_, rfl⟩
          by_cases hi : i < l0.length
          · obtain ⟨x, hx⟩ : ∃ x, l0[i]? = some x := ⟨_, List.getElem?_eq_getElem hi⟩
            obtain ⟨b, o, cs, rfl, hbl, hv, hc⟩ := (HR.out.below HT.out.l.w).get hx
            have c0 := hc 0 _ hv.hw
            rw [Nat.add_zero] at c0
            have hbl2 : b < w7.heap.size := by have := HT.out.l.w.size; omega
            have hic : i ≤ c := by omega
            have WR := Lib.hid (show wrap64 ((i : Int) + 1) = ((i + 1 : Nat) : Int) by have := HN.out; simp only [wrap64]; omega)
            have WS := Lib.hid (whoD_succ hx)
            have WL := Lib.hid (whoD_len l0)
            have XW := Lib.hid (WO.out x (List.mem_of_getElem? hx))
            have AMN := Lib.hid (clTo_am l0 WO.out l0.length (Nat.le_refl _))
            obtain ⟨y, hy⟩ : ∃ y, whoL l0 x.who = y := ⟨_, rfl⟩
            have HYO := Lib.hid (show y.ok ∧ 0 ≤ y.g by rw [← hy]; exact whoL_ok OK.out _)
            obtain ⟨k, hk⟩ : ∃ k, x.who = k := ⟨_, rfl⟩
            rw [hk] at WS XW hy c0
            have LOOK := Lib.hid (fun (u : World) (z : Ld) (hu : LT W A B C M l0 q z u) => (show (Instr.lookup 31 (.map (some M)) (.int .i64 k) false).run Try.prog u = .ok (.agg #[.int .i64 y.c, .int .i64 y.e, .int .i64 y.d, .int .i64 y.g]) u from by
              have := (am_look Try.underlying31 AMN.out ldE z4 zero_ld XW.out u M hu.l.m).1
              rw [clTo_get l0 OK.out l0.length (Nat.le_refl _), List.take_length, hy] at this
              exact this))
            have COY := Lib.hid (fun (v : Value) (u : World) (lim : Nat) (hO : RowO u lim v (l0.filter (fun z => decide (z.who = k)))) (hl : lim ≤ u.heap.size) => (show Calls Try.prog 11 #[v] u fun e w' => e = .returned (.agg #[.int .i64 y.c, .int .i64 y.e, .int .i64 y.d, .int .i64 y.g]) ∧ Below u.heap.size u w' from by
              have := r45_of v _ lim u hO hl (Nat.le_trans (List.length_filter_le ..) (by have := HN.out; omega))
              unfold whoL at hy
              rw [hy] at this
              exact this))
            have CSY := Lib.hid (l45_same y)
            have CW1 := Lib.hid (fun (u : World) (z : Ld) (hu : LT W A B C M l0 q z u) => r45_who _ l0 k W.heap.size u (HR.out.below hu.l.w) hu.l.w.size (by have := HN.out; omega))
            have CW2 := Lib.hid (fun (u : World) (z : Ld) (hu : LT W A B C M l0 q z u) => r45_who _ (l0.take i) k W.heap.size u ((HR.out.below hu.l.w).take (Nat.le_of_lt hi)) hu.l.w.size (by rw [List.length_take]; have := HN.out; omega))
            obtain ⟨t, ht⟩ : ∃ t, partS (fun x => x.who) l0 (whoD l0 i) = t := ⟨_, rfl⟩
            have HTO := Lib.hid (show t.ok ∧ 0 ≤ t.g by rw [← ht]; exact partS_ok _ l0 OK.out _)
            have HPS := Lib.hid (show ((l0.take i).filter (fun z => decide (z.who = k))).length = 0 → lsum [t, y] = partS (fun x => x.who) l0 (whoD l0 (i + 1)) ∧ (clTo l0 (i + 1)).length = (clTo l0 i).length + 1 from fun h0 => by
              rw [← WL.out, ← WL.out, WS.out, if_pos h0]
              refine ⟨?_, by simp⟩
              rw [lsum_two HTO.out, partS_snoc, ht]
              unfold whoL at hy
              rw [hy])
            have HPN := Lib.hid (show ¬ ((l0.take i).filter (fun z => decide (z.who = k))).length = 0 → t = partS (fun x => x.who) l0 (whoD l0 (i + 1)) ∧ (clTo l0 (i + 1)).length = (clTo l0 i).length from fun h0 => by
              rw [← WL.out, ← WL.out, WS.out, if_neg h0]
              exact ⟨ht.symm, rfl⟩)
            have WRM := Lib.hid (show wrap64 (((clTo l0 i).length : Nat) + 1) = (((clTo l0 i).length + 1 : Nat) : Int) by
              have h1 := whoD_le l0 i (Nat.le_of_lt hi)
              rw [WL.out] at h1
              have := HN.out
              simp only [wrap64]; omega)
            rw [ht] at HT
            clear hx hc hv ht hy hk
            go_wp2_with fail
            refine (CW1.out _ _ HT.out).mono ?_
            rintro e w8 ⟨v8, rfl, hO8, hb8⟩
            have HT8 := Lib.hid (HT.out.below hb8)
            clear hb8
            go_upto_region 18 with fail
            refine wp_region_held_drew (S := fun w' => LT W A B C M l0 q t w' ∧ Below w8.heap.size w8 w') (by kernel_rfl) ?_ (fun hHeld => ?_)
            · exact ⟨HT8.out.drew, (Below.refl _ _).drew⟩
            refine wpAnyH_take (i := 0) (v := ?v8) rfl (by kernel_rfl) (by kernel_rfl) (by kernel_rfl) (fun _ _ _ h => h) (Or.inl ⟨by kernel_rfl, ?hy8⟩) (by assumption) ?rest8
            case hy8 => intro w hSw; (try dsimp only at hSw); go_simp; (first | done | with_reducible rfl)
            (try simp only [Act.put, List.getElem_toArray, List.getElem_cons_zero, List.getElem_cons_succ, List.setIfInBounds_toArray, List.set_cons_zero, List.set_cons_succ])
            refine wpAnyH_take (i := 1) (v := ?v9) rfl (by kernel_rfl) (by kernel_rfl) (by kernel_rfl) (fun _ _ _ h => h) (Or.inl ⟨by kernel_rfl, ?hy9⟩) (by assumption) ?rest9
            case hy9 => intro w hSw; (try dsimp only at hSw); go_simp; (first | done | with_reducible rfl)
            (try simp only [Act.put, List.getElem_toArray, List.getElem_cons_zero, List.getElem_cons_succ, List.setIfInBounds_toArray, List.set_cons_zero, List.set_cons_succ])
            refine wpAnyH_take (i := 2) (v := ?v10) rfl (by kernel_rfl) (by kernel_rfl) (by kernel_rfl) (fun _ _ _ h => h) (Or.inl ⟨by kernel_rfl, ?hy10⟩) (by assumption) ?rest10
            case hy10 => intro w hSw; (try dsimp only at hSw); have hq := LOOK.out w _ hSw.1; go_simp; (first | done | with_reducible rfl)
            (try simp only [Act.put, List.getElem_toArray, List.getElem_cons_zero, List.getElem_cons_succ, List.setIfInBounds_toArray, List.set_cons_zero, List.set_cons_succ])
            refine wpAnyH_take (i := 3) (v := ?v11) rfl (by kernel_rfl) (by kernel_rfl) (by kernel_rfl) (fun _ _ _ h => h) (Or.inl ⟨by kernel_rfl, ?hy11⟩) (by assumption) ?rest11
            case hy11 => intro w hSw; (try dsimp only at hSw); go_simp; (first | done | with_reducible rfl)
            (try simp only [Act.put, List.getElem_toArray, List.getElem_cons_zero, List.getElem_cons_succ, List.setIfInBounds_toArray, List.set_cons_zero, List.set_cons_succ])
            refine wpAnyH_ready (rs := [4]) (by kernel_rfl) (by simp) ?_
            refine AllReadyH.cons rfl (fun K hK => ?_) AllReadyH.nil
            go_simp
            go_at_call 11
            (with_reducible refine (COY.out _ _ _ (hO8.rowO.below hHeld.2) hHeld.2.size).mono ?_)
            rintro e w9 ⟨rfl, hb⟩
            (try go_wp2_with fail)
            refine hK.out _ _ ?_ (fun hHeld2 => ?_)
            · exact ⟨hHeld.1.below hb, hHeld.2.trans (hb.mono hHeld.2.size)⟩
            clear hK K hHeld
            have hHeld := hHeld2
            clear hHeld2
            (try simp only [Act.put, List.getElem_toArray, List.getElem_cons_zero, List.getElem_cons_succ, List.setIfInBounds_toArray, List.set_cons_zero, List.set_cons_succ])
            refine wpAnyH_ready (rs := [5]) (by kernel_rfl) (by simp) ?_
            refine AllReadyH.cons rfl (fun K hK => ?_) AllReadyH.nil
            go_simp
            go_at_call 10
            (with_reducible refine (CSY.out _).mono ?_)
            rintro e w10 ⟨rfl, hb⟩
            (try go_wp2_with fail)
            refine hK.out _ _ ?_ (fun hHeld2 => ?_)
            · exact ⟨hHeld.1.below hb, hHeld.2.trans (hb.mono hHeld.2.size)⟩
            clear hK K hHeld
            have hHeld := hHeld2
            clear hHeld2
            (try simp only [Act.put, List.getElem_toArray, List.getElem_cons_zero, List.getElem_cons_succ, List.setIfInBounds_toArray, List.set_cons_zero, List.set_cons_succ])
            refine wpAnyH_take (i := 6) (v := ?v12) rfl (by kernel_rfl) (by kernel_rfl) (by kernel_rfl) (fun _ _ _ h => h) (Or.inl ⟨by kernel_rfl, ?hy12⟩) (by assumption) ?rest12
            case hy12 => intro w hSw; (try dsimp only at hSw); go_simp; (first | done | with_reducible rfl)
            (try simp only [Act.put, List.getElem_toArray, List.getElem_cons_zero, List.getElem_cons_succ, List.setIfInBounds_toArray, List.set_cons_zero, List.set_cons_succ])
            refine wpAnyH_done (by kernel_rfl) ?_ _
            have HT10 := Lib.hid hHeld.1
            clear hHeld hO8
            have hbl3 : b < w10.heap.size := by have := HT10.out.l.w.size; omega
            go_wp2_with fail
            refine (CW2.out _ _ HT10.out).mono ?_
            rintro e w11 ⟨v11, rfl, hO11, hb11⟩
            have HT11 := Lib.hid (HT10.out.below hb11)
            obtain ⟨p11, c11, hv11, -⟩ := hO11.rowO
            subst hv11
            clear hO11 hb11
            by_cases h0 : ((l0.take i).filter (fun z => decide (z.who = k))).length = 0
            · have hd0 : ((((l0.take i).filter (fun z => decide (z.who = k))).length : Int) == 0) = true := by simp only [beq_iff_eq]; omega
              have HP1 := Lib.hid (HPS.out h0)
              have hq := LOOK.out w11 _ HT11.out
              have HLD := Lib.hid HT11.out.l.load
              clear h0
              go_wp2_with (first | refine wpList_load_mid rfl _ _ rfl C 0 rfl [.int .i64 t.c, .int .i64 t.e, .int .i64 t.d, .int .i64 t.g] _ HLD.out Try.underlying25 rfl ld_size ?_)
              refine (l_sum _ [t, y] _ ?rowB (by simp)).mono ?_
              case rowB => exact row_two HTO.out.1 HYO.out.1 (heap_alloc_new _ _)
              rintro e w12 ⟨rfl, hb12⟩
              have HT12 := Lib.hid ((HT11.out.below ((Below.refl _ _).alloc (Nat.le_refl _) _)).below hb12)
              clear hb12 hq
              have HTH := Lib.hid HT12.out.l.there
              go_wp2_with (refine wpList_store_mid rfl _ _ _ rfl C 0 _ rfl rfl HTH.out ld_size (by simp [Value.oneCell']) ?_)
              have HS9 := HT12.out.put (lsum [t, y])
              change LT W A B C M l0 q _ (w12.setCells C 0 [.int .i64 (lsum [t, y]).c, .int .i64 (lsum [t, y]).e, .int .i64 (lsum [t, y]).d, .int .i64 (lsum [t, y]).g]) at HS9
              generalize w12.setCells C 0 [.int .i64 (lsum [t, y]).c, .int .i64 (lsum [t, y]).e, .int .i64 (lsum [t, y]).d, .int .i64 (lsum [t, y]).g] = w13 at HS9 ⊢
              rw [HP1.out.1] at HS9
              have HS9 := Lib.hid HS9
              go_roundw
              case rel => exact ⟨i + 1, by first | rw [WR.out] | simp, by rw [HP1.out.2]; first | rw [WRM.out] | simp, Lib.hid hi, HS9⟩
              case measure => (first | (simp; omega) | (simp [WR.out]; omega))
            · have hd0 : ((((l0.take i).filter (fun z => decide (z.who = k))).length : Int) == 0) = false := by simp only [beq_eq_false_iff_ne, ne_eq]; omega
              have HP1 := Lib.hid (HPN.out h0)
              clear h0
              go_wp2_with fail
              go_roundw
              case rel => exact ⟨i + 1, by first | rw [WR.out] | simp, by rw [HP1.out.2], Lib.hid hi, by have := HP1.out.1; rw [← this]; exact HT11⟩
              case measure => (first | (simp; omega) | (simp [WR.out]; omega))
          · have h9 : i = l0.length := by have := HI.out; omega
            subst h9
            have hi : ¬ l0.length < l0.length := by omega
            rw [who_all l0 (by have := HN.out; omega) WO.out, HQ.out] at HT
            have HQO := Lib.hid (show q.ok ∧ 0 ≤ q.g by rw [← HQ.out]; exact ofN_ok OK.out)
            have LM := Lib.hid (fun (u : World) (hu : LT W A B C M l0 q q u) => (show (Builtin.len_ #[31] 3 #[.map (some M)]).run Try.prog u = .ok (.int .i64 ((clTo l0 l0.length).length : Nat)) u from by
              have := run_len_map (P := Try.prog) (w := u) 31 3 M _ _ (by kernel_rfl) hu.l.m
              rw [this]
              simp [goInt, gEnts_len, aMap]))
            have COQ := Lib.hid (fun (u : World) (hu : LT W A B C M l0 q q u) => (show Calls Try.prog 11 #[.slice p l0.length c] u fun e w' => e = .returned (.agg #[.int .i64 q.c, .int .i64 q.e, .int .i64 q.d, .int .i64 q.g]) ∧ Below u.heap.size u w' from by
              have := r45_of _ l0 W.heap.size u (HR.out.below hu.l.w) hu.l.w.size (by have := HN.out; omega)
              rw [HQ.out] at this
              exact this))
            have CSQ := Lib.hid (l45_same q)
            go_upto_region 23 with fail
            refine wp_region_held_drew (S := fun w' => LT W A B C M l0 q q w') (by kernel_rfl) ?_ (fun hHeld => ?_)
            · exact HT.out.drew
            refine wpAnyH_take (i := 0) (v := ?v13) rfl (by kernel_rfl) (by kernel_rfl) (by kernel_rfl) (fun _ _ _ h => h) (Or.inl ⟨by kernel_rfl, ?hy13⟩) (by assumption) ?rest13
            case hy13 => intro w hSw; (try dsimp only at hSw); go_simp; (first | done | with_reducible rfl)
            (try simp only [Act.put, List.getElem_toArray, List.getElem_cons_zero, List.getElem_cons_succ, List.setIfInBounds_toArray, List.set_cons_zero, List.set_cons_succ])
            refine wpAnyH_take (i := 1) (v := ?v14) rfl (by kernel_rfl) (by kernel_rfl) (by kernel_rfl) (fun _ _ _ h => h) (Or.inl ⟨by kernel_rfl, ?hy14⟩) (by assumption) ?rest14
            case hy14 => intro w hSw; (try dsimp only at hSw); go_simp; (first | done | with_reducible rfl)
            (try simp only [Act.put, List.getElem_toArray, List.getElem_cons_zero, List.getElem_cons_succ, List.setIfInBounds_toArray, List.set_cons_zero, List.set_cons_succ])
            refine wpAnyH_take (i := 2) (v := ?v15) rfl (by kernel_rfl) (by kernel_rfl) (by kernel_rfl) (fun _ _ _ h => h) (Or.inl ⟨by kernel_rfl, ?hy15⟩) (by assumption) ?rest15
            case hy15 => intro w hSw; (try dsimp only at hSw); have hq := LM.out w hSw; go_simp; (first | done | with_reducible rfl)
            (try simp only [Act.put, List.getElem_toArray, List.getElem_cons_zero, List.getElem_cons_succ, List.setIfInBounds_toArray, List.set_cons_zero, List.set_cons_succ])
            refine wpAnyH_take (i := 3) (v := .bool true) rfl (by kernel_rfl) (by kernel_rfl) (by kernel_rfl) (fun _ _ _ h => h) (Or.inl ⟨by kernel_rfl, ?hy16⟩) (by assumption) ?rest16
            case hy16 => intro w hSw; (try dsimp only at hSw); go_simp; (first | done | with_reducible rfl)
            (try simp only [Act.put, List.getElem_toArray, List.getElem_cons_zero, List.getElem_cons_succ, List.setIfInBounds_toArray, List.set_cons_zero, List.set_cons_succ])
            refine wpAnyH_take (i := 4) (v := ?v17) rfl (by kernel_rfl) (by kernel_rfl) (by kernel_rfl) (fun _ _ _ h => h) (Or.inl ⟨by kernel_rfl, ?hy17⟩) (by assumption) ?rest17
            case hy17 => intro w hSw; (try dsimp only at hSw); go_simp; (first | done | with_reducible rfl)
            (try simp only [Act.put, List.getElem_toArray, List.getElem_cons_zero, List.getElem_cons_succ, List.setIfInBounds_toArray, List.set_cons_zero, List.set_cons_succ])
            refine wpAnyH_take (i := 5) (v := .agg #[.int .i64 q.c, .int .i64 q.e, .int .i64 q.d, .int .i64 q.g]) rfl (by kernel_rfl) (by kernel_rfl) (by kernel_rfl) (fun _ _ _ h => h) (yieldsIf_load_mid (by kernel_rfl) 25 _ rfl B 0 rfl [.int .i64 q.c, .int .i64 q.e, .int .i64 q.d, .int .i64 q.g] _ (fun w h => h.load) Try.underlying25 rfl ld_size) (by assumption) ?_
            (try simp only [Act.put, List.getElem_toArray, List.getElem_cons_zero, List.getElem_cons_succ, List.setIfInBounds_toArray, List.set_cons_zero, List.set_cons_succ])
            refine wpAnyH_take (i := 6) (v := ?v18) rfl (by kernel_rfl) (by kernel_rfl) (by kernel_rfl) (fun _ _ _ h => h) (Or.inl ⟨by kernel_rfl, ?hy18⟩) (by assumption) ?rest18
            case hy18 => intro w hSw; (try dsimp only at hSw); go_simp; (first | done | with_reducible rfl)
            (try simp only [Act.put, List.getElem_toArray, List.getElem_cons_zero, List.getElem_cons_succ, List.setIfInBounds_toArray, List.set_cons_zero, List.set_cons_succ])
            refine wpAnyH_ready (rs := [7]) (by kernel_rfl) (by simp) ?_
            refine AllReadyH.cons rfl (fun K hK => ?_) AllReadyH.nil
            go_simp
            go_at_call 11
            (with_reducible refine (COQ.out _ hHeld).mono ?_)
            rintro e w8 ⟨rfl, hb⟩
            (try go_wp2_with fail)
            refine hK.out _ _ ?_ (fun hHeld2 => ?_)
            · exact (hHeld.below hb)
            clear hK K hHeld
            have hHeld := hHeld2
            clear hHeld2
            (try simp only [Act.put, List.getElem_toArray, List.getElem_cons_zero, List.getElem_cons_succ, List.setIfInBounds_toArray, List.set_cons_zero, List.set_cons_succ])
            refine wpAnyH_ready (rs := [8]) (by kernel_rfl) (by simp) ?_
            refine AllReadyH.cons rfl (fun K hK => ?_) AllReadyH.nil
            go_simp
            go_at_call 10
            (with_reducible refine (CSQ.out _).mono ?_)
            rintro e w9 ⟨rfl, hb⟩
            (try go_wp2_with fail)
            refine hK.out _ _ ?_ (fun hHeld2 => ?_)
            · exact (hHeld.below hb)
            clear hK K hHeld
            have hHeld := hHeld2
            clear hHeld2
            (try simp only [Act.put, List.getElem_toArray, List.getElem_cons_zero, List.getElem_cons_succ, List.setIfInBounds_toArray, List.set_cons_zero, List.set_cons_succ])
            refine wpAnyH_take (i := 9) (v := ?v19) rfl (by kernel_rfl) (by kernel_rfl) (by kernel_rfl) (fun _ _ _ h => h) (Or.inl ⟨by kernel_rfl, ?hy19⟩) (by assumption) ?rest19
            case hy19 => intro w hSw; (try dsimp only at hSw); go_simp; (first | done | with_reducible rfl)
            (try simp only [Act.put, List.getElem_toArray, List.getElem_cons_zero, List.getElem_cons_succ, List.setIfInBounds_toArray, List.set_cons_zero, List.set_cons_succ])
            refine wpAnyH_take (i := 10) (v := ?v20) rfl (by kernel_rfl) (by kernel_rfl) (by kernel_rfl) (fun _ _ _ h => h) (Or.inl ⟨by kernel_rfl, ?hy20⟩) (by assumption) ?rest20
            case hy20 => intro w hSw; (try dsimp only at hSw); go_simp; (first | done | with_reducible rfl)
            (try simp only [Act.put, List.getElem_toArray, List.getElem_cons_zero, List.getElem_cons_succ, List.setIfInBounds_toArray, List.set_cons_zero, List.set_cons_succ])
            refine wpAnyH_take (i := 11) (v := .agg #[.int .i64 q.c, .int .i64 q.e, .int .i64 q.d, .int .i64 q.g]) rfl (by kernel_rfl) (by kernel_rfl) (by kernel_rfl) (fun _ _ _ h => h) (yieldsIf_load_mid (by kernel_rfl) 25 _ rfl C 0 rfl [.int .i64 q.c, .int .i64 q.e, .int .i64 q.d, .int .i64 q.g] _ (fun w h => h.l.load) Try.underlying25 rfl ld_size) (by assumption) ?_
            (try simp only [Act.put, List.getElem_toArray, List.getElem_cons_zero, List.getElem_cons_succ, List.setIfInBounds_toArray, List.set_cons_zero, List.set_cons_succ])
            refine wpAnyH_take (i := 12) (v := ?v21) rfl (by kernel_rfl) (by kernel_rfl) (by kernel_rfl) (fun _ _ _ h => h) (Or.inl ⟨by kernel_rfl, ?hy21⟩) (by assumption) ?rest21
            case hy21 => intro w hSw; (try dsimp only at hSw); go_simp; (first | done | with_reducible rfl)
            (try simp only [Act.put, List.getElem_toArray, List.getElem_cons_zero, List.getElem_cons_succ, List.setIfInBounds_toArray, List.set_cons_zero, List.set_cons_succ])
            refine wpAnyH_ready (rs := [13]) (by kernel_rfl) (by simp) ?_
            refine AllReadyH.cons rfl (fun K hK => ?_) AllReadyH.nil
            go_simp
            go_at_call 11
            (with_reducible refine (COQ.out _ hHeld).mono ?_)
            rintro e w10 ⟨rfl, hb⟩
            (try go_wp2_with fail)
            refine hK.out _ _ ?_ (fun hHeld2 => ?_)
            · exact (hHeld.below hb)
            clear hK K hHeld
            have hHeld := hHeld2
            clear hHeld2
            (try simp only [Act.put, List.getElem_toArray, List.getElem_cons_zero, List.getElem_cons_succ, List.setIfInBounds_toArray, List.set_cons_zero, List.set_cons_succ])
            refine wpAnyH_ready (rs := [14]) (by kernel_rfl) (by simp) ?_
            refine AllReadyH.cons rfl (fun K hK => ?_) AllReadyH.nil
            go_simp
            go_at_call 10
            (with_reducible refine (CSQ.out _).mono ?_)
            rintro e w11 ⟨rfl, hb⟩
            (try go_wp2_with fail)
            refine hK.out _ _ ?_ (fun hHeld2 => ?_)
            · exact (hHeld.below hb)
            clear hK K hHeld
            have hHeld := hHeld2
            clear hHeld2
            (try simp only [Act.put, List.getElem_toArray, List.getElem_cons_zero, List.getElem_cons_succ, List.setIfInBounds_toArray, List.set_cons_zero, List.set_cons_succ])
            refine wpAnyH_take (i := 15) (v := ?v22) rfl (by kernel_rfl) (by kernel_rfl) (by kernel_rfl) (fun _ _ _ h => h) (Or.inl ⟨by kernel_rfl, ?hy22⟩) (by assumption) ?rest22
            case hy22 => intro w hSw; (try dsimp only at hSw); go_simp; (first | done | with_reducible rfl)
            (try simp only [Act.put, List.getElem_toArray, List.getElem_cons_zero, List.getElem_cons_succ, List.setIfInBounds_toArray, List.set_cons_zero, List.set_cons_succ])
            refine wpAnyH_take (i := 16) (v := ?v23) rfl (by kernel_rfl) (by kernel_rfl) (by kernel_rfl) (fun _ _ _ h => h) (Or.inl ⟨by kernel_rfl, ?hy23⟩) (by assumption) ?rest23
            case hy23 => intro w hSw; (try dsimp only at hSw); go_simp; (first | done | with_reducible rfl)
            (try simp only [Act.put, List.getElem_toArray, List.getElem_cons_zero, List.getElem_cons_succ, List.setIfInBounds_toArray, List.set_cons_zero, List.set_cons_succ])
            refine wpAnyH_ready (rs := [17]) (by kernel_rfl) (by simp) ?_
            refine AllReadyH.cons rfl (fun K hK => ?_) AllReadyH.nil
            go_simp
            go_at_call 6
            (with_reducible refine (LV.out _).mono ?_)
            rintro e w12 ⟨rfl, hb⟩
            (try go_wp2_with fail)
            refine hK.out _ _ ?_ (fun hHeld2 => ?_)
            · exact (hHeld.below hb)
            clear hK K hHeld
            have hHeld := hHeld2
            clear hHeld2
            (try simp only [Act.put, List.getElem_toArray, List.getElem_cons_zero, List.getElem_cons_succ, List.setIfInBounds_toArray, List.set_cons_zero, List.set_cons_succ])
            refine wpAnyH_take (i := 18) (v := ?v24) rfl (by kernel_rfl) (by kernel_rfl) (by kernel_rfl) (fun _ _ _ h => h) (Or.inl ⟨by kernel_rfl, ?hy24⟩) (by assumption) ?rest24
            case hy24 => intro w hSw; (try dsimp only at hSw); go_simp; (first | done | with_reducible rfl)
            (try simp only [Act.put, List.getElem_toArray, List.getElem_cons_zero, List.getElem_cons_succ, List.setIfInBounds_toArray, List.set_cons_zero, List.set_cons_succ])
            refine wpAnyH_take (i := 19) (v := ?v25) rfl (by kernel_rfl) (by kernel_rfl) (by kernel_rfl) (fun _ _ _ h => h) (Or.inl ⟨by kernel_rfl, ?hy25⟩) (by assumption) ?rest25
            case hy25 => intro w hSw; (try dsimp only at hSw); go_simp; (first | done | with_reducible rfl)
            (try simp only [Act.put, List.getElem_toArray, List.getElem_cons_zero, List.getElem_cons_succ, List.setIfInBounds_toArray, List.set_cons_zero, List.set_cons_succ])
            refine wpAnyH_done (by kernel_rfl) ?_ _
            have hE := hHeld.l.w
            go_wp2_with fail
            go_ret
            exact ⟨rfl, hE⟩
end loadCounts
end Go.Proofs.Ytfilbdmenlhoiaa
