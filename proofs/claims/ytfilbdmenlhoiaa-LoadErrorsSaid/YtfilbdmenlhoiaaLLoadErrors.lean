/- LoadErrors. -/
import Derived.Test.YtfilbdmenlhoiaaLv45
import Derived.Test.YtfilbdmenlhoiaaLnu
namespace Go.Proofs.Ytfilbdmenlhoiaa
open Go.ChangeShapes Go.WideShapes Go.ChangeAt Go.RowKit
set_option linter.unusedVariables false
open Go.WideMaps Go.MapKept Go.WideElems Go.ChangeMaps
set_option linter.unusedSimpArgs false
theorem sumK_le (l : List Oi) (hn : l.length ≤ 10000) : ∀ i, i ≤ l.length → 0 ≤ sumK l i ∧ sumK l i ≤ 10000 * (i : Int)
  | 0, _ => by simp [sumK, eTo]
  | i + 1, hi => by
    obtain ⟨x, hx⟩ : ∃ x, l[i]? = some x := ⟨_, List.getElem?_eq_getElem (by omega)⟩
    have ih := sumK_le l hn i (by omega)
    have hg := iget_eTo l hn l.length (Nat.le_refl _) x.e
    have hle := toldN_le l x.e l.length
    by_cases hc : x.t ≠ -1 ∧ x.e ≠ 0 ∧ toldN (l.take i) x.e = 0
    · have h1 := (step_in hx (by omega) ⟨hc.1, hc.2.1⟩ hc.2.2).1
      rw [if_neg hc.2.1] at hg
      omega
    · have h1 := (step_out hx (by omega) hc).1
      omega
namespace loadErrors
set_option maxRecDepth 100000 in
set_option maxHeartbeats 8000000 in
theorem walk (W : World) (v0 : Value) (l0 : List Oi) (hR0 : RowO W W.heap.size v0 l0) (a1 : Int) (wa1 : -9223372036854775808 ≤ a1 ∧ a1 ≤ 9223372036854775807) :
    Calls Try.prog 5 #[v0, .int .i64 a1] W fun e W' => e = .returned (.bool true) ∧ Below W.heap.size W W' := by
  have HR := Lib.hid hR0
  obtain ⟨p, c, rfl, hlc, hcm, -⟩ := hR0
  have LV := Lib.hid live45
  by_cases h60 : 60 < l0.length
  · have hd : decide ((l0.length : Int) > 60) = true := by simp; omega
    go_enter Try.func5, Try.ntmps5
    go_wp2_with fail
    refine (LV.out W).mono ?_
    rintro e w1 ⟨rfl, hb1⟩
    have HB1 := Lib.hid hb1
    clear hb1
    go_wp2_with fail
    go_ret
    exact ⟨rfl, HB1.out⟩
  · have HN := Lib.hid (show l0.length ≤ 60 by omega)
    have CErr := Lib.hid (l_errors _ l0 W HR.out (by omega))
    go_enter Try.func5, Try.ntmps5
    go_wp2_with fail
    refine CErr.out.mono ?_
    rintro e wE ⟨rfl, hq, hm, hbE⟩
    obtain ⟨G, hG⟩ : ∃ G, W.heap.size = G := ⟨_, rfl⟩
    have HQ := Lib.hid hq
    have HM := Lib.hid hm
    have HBE := Lib.hid hbE
    rw [hG] at HQ
    rw [hG]
    clear hq hm hbE
    go_wp2_with fail
    go_loopw [8, 6, 7] (fun x n k wr => ∃ (i : Nat), x = .int .i64 i ∧ n = .int .i64 (sumK l0 i) ∧ k = .int .i64 ((eTo l0 i).length : Nat) ∧ Hid (i ≤ l0.length) ∧ Hid (Below wE.heap.size wE wr)) (fun x _ _ _ => l0.length - (match x with | .int _ n => n.toNat | _ => 0))
    case atStart => exact ⟨0, rfl, rfl, rfl, Lib.hid (Nat.zero_le _), Lib.hid (Below.refl _ _)⟩
    case round =>
      obtain ⟨i, rfl, rfl, rfl, HI, HB⟩ := hrel
      have HBW := Lib.hid (show Below W.heap.size W wr from HBE.out.trans (HB.out.mono HBE.out.size))
      have hGE := g_lt HQ.out
      have HQr := Lib.hid ((HB.out.block G hGE).trans HQ.out)
      by_cases hi : i < l0.length
      · obtain ⟨x, hx⟩ : ∃ x, l0[i]? = some x := ⟨_, List.getElem?_eq_getElem hi⟩
        obtain ⟨b, o, cs, rfl, hbl, hv, hc⟩ := (HR.out.below HBW.out).get hx
        have c9 := hc 9 _ hv.he
        have c18 := hc 18 _ hv.ht
        have hbl2 : b < wr.heap.size := by have := HBW.out.size; omega
        have hic : i ≤ c := by omega
        have CT := Lib.hid (r45_told _ (l0.take i) x.e W.heap.size wr ((HR.out.below HBW.out).take (Nat.le_of_lt hi)) HBW.out.size (by rw [List.length_take]; have := HN.out; omega))
        have WR := Lib.hid (show wrap64 ((i : Int) + 1) = ((i + 1 : Nat) : Int) by have := HN.out; simp only [wrap64]; omega)
        have HX := Lib.hid hx
        have HV := Lib.hid hv
        clear hx hc hv
        by_cases ht : x.t = -1
        · have hd : (x.t != -1) = false := by simp [ht]
          have SO := Lib.hid (step_out HX.out (Nat.le_of_lt hi) (fun e => e.1 ht))
          clear ht
          go_wp2_with fail
          go_roundw
          case rel => exact ⟨i + 1, by simp, by rw [SO.out.1], by rw [SO.out.2], Lib.hid hi, HB⟩
          case measure => simp; omega
        · have hd : (x.t != -1) = true := by simp [ht]
          by_cases he : x.e = 0
          · have hd2 : (x.e != 0) = false := by simp [he]
            have SO := Lib.hid (step_out HX.out (Nat.le_of_lt hi) (fun e => e.2.1 he))
            clear he
            go_wp2_with fail
            go_roundw
            case rel => exact ⟨i + 1, by simp, by rw [SO.out.1], by rw [SO.out.2], Lib.hid hi, HB⟩
            case measure => simp; omega
          · have hd2 : (x.e != 0) = true := by simp [he]
            go_wp2_with fail
            refine CT.out.mono ?_
            rintro e w2 ⟨rfl, hb2⟩
            have HB2 := Lib.hid (HB.out.trans (hb2.mono HB.out.size))
            have HQ2 := Lib.hid ((hb2.block G (g_lt HQr.out)).trans HQr.out)
            clear hb2
            by_cases h0 : toldN (l0.take i) x.e = 0
            · have hd3 : ((toldN (l0.take i) x.e : Int) == 0) = true := by simp [h0]
              have SI := Lib.hid (step_in HX.out (Nat.le_of_lt hi) ⟨ht, he⟩ h0)
              obtain ⟨L1, -⟩ := im_look_g Try.underlying53 Try.underlying44 HM.out HV.out.ok.2.2.1 w2 G HQ2.out
              have WN := Lib.hid (show wrap64 (sumK l0 i + iget (eTo l0 l0.length) x.e) = sumK l0 (i + 1) by
                have h1 := sumK_le l0 (by have := HN.out; omega) (i + 1) hi
                rw [← SI.out.1]
                have := HN.out
                simp only [wrap64]
                omega)
              have WK := Lib.hid (show wrap64 (((eTo l0 i).length : Int) + 1) = ((eTo l0 (i + 1)).length : Int) by
                rw [SI.out.2]
                have h1 : (eTo l0 i).length ≤ i := by
                  have : ∀ j, j ≤ l0.length → (eTo l0 j).length ≤ j := by
                    intro j
                    induction j with
                    | zero => intro _; simp [eTo]
                    | succ j ih =>
                      intro hj
                      rw [eTo_succ (List.getElem?_eq_getElem (by omega)), estep]
                      have := ih (by omega)
                      split
                      · exact Nat.le_trans (iput_len _ _ _) (by omega)
                      · omega
                  exact this i (Nat.le_of_lt hi)
                have := HN.out
                simp only [wrap64]
                omega)
              clear h0
              go_wp2_with fail
              go_roundw
              case rel => exact ⟨i + 1, by simp, by rw [WN.out], by rw [WK.out], Lib.hid hi, HB2⟩
              case measure => simp; omega
            · have hd3 : ((toldN (l0.take i) x.e : Int) == 0) = false := by simp; omega
              have SO := Lib.hid (step_out HX.out (Nat.le_of_lt hi) (fun e => h0 e.2.2))
              clear h0
              go_wp2_with fail
              go_roundw
              case rel => exact ⟨i + 1, by simp, by rw [SO.out.1], by rw [SO.out.2], Lib.hid hi, HB2⟩
              case measure => simp; omega
      · have h9 := (show i = l0.length by have := HI.out; omega)
        subst h9
        have hi : ¬ l0.length < l0.length := by omega
        have hRr := HR.out.below HBW.out
        have CH := Lib.hid (l_hits _ l0 W.heap.size wr hRr HBW.out.size (by have := HN.out; omega))
        have SA := Lib.hid (sumK_all l0 (by have := HN.out; omega) HM.out.d)
        clear hRr
        go_wp2_with fail
        refine CH.out.mono ?_
        rintro e w3 ⟨rfl, hb3⟩
        have HB3 := Lib.hid (HBW.out.trans (hb3.mono HBW.out.size))
        have HQ3 := Lib.hid ((hb3.block G (g_lt HQr.out)).trans HQr.out)
        have CK := Lib.hid (r45_kind _ l0 2 W.heap.size w3 (HR.out.below HB3.out) HB3.out.size (by have := HN.out; omega))
        clear hb3
        go_wp2_with fail
        refine CK.out.mono ?_
        rintro e w4 ⟨vk, rfl, hok, hb4⟩
        have HB4 := Lib.hid (HB3.out.trans (hb4.mono HB3.out.size))
        have HQ4 := Lib.hid ((hb4.block G (g_lt HQ3.out)).trans HQ3.out)
        have HK := Lib.hid hok.rowO
        obtain ⟨pk, ck, rfl, -⟩ := hok.rowO
        have hkl : (l0.filter (fun y => decide (kf y = 2))).length ≤ 100000 := Nat.le_trans (List.length_filter_le ..) (by have := HN.out; omega)
        have CT0 := Lib.hid (r45_told _ _ 0 w4.heap.size w4 HK.out (Nat.le_refl _) hkl)
        have CT7 := Lib.hid (fun (u : World) (hu : Below w4.heap.size w4 u) => (show Calls Try.prog 15 #[.slice pk (l0.filter (fun y => decide (kf y = 2))).length ck, .int .i64 7] u fun x w' => x = .returned (.int .i64 (l0.countP (hitB 7) : Nat)) ∧ Below u.heap.size u w' from by
          have := r45_told _ _ 7 w4.heap.size u (HK.out.below hu) hu.size hkl
          rw [hits_told] at this
          exact this))
        rw [hits_told] at CT0
        have CO := Lib.hid (fun (u : World) (hu : Below W.heap.size W u) => r45_of _ l0 W.heap.size u (HR.out.below hu) hu.size (by have := HN.out; omega))
        clear hok hb4 hkl
        -- tail
        go_wp2_with fail
        refine CT0.out.mono ?_
        rintro e w5 ⟨rfl, hb5⟩
        have HB5 := Lib.hid hb5
        clear hb5
        go_wp2_with fail
        refine (CT7.out w5 HB5.out).mono ?_
        rintro e w6 ⟨rfl, hb6⟩
        have HB6 := Lib.hid (HB5.out.trans (hb6.mono HB5.out.size))
        have HB6W := Lib.hid (HB4.out.trans (HB6.out.mono HB4.out.size))
        clear hb6
        have hsum : (sumK l0 l0.length != (ofN l0).e) = false := by rw [SA.out]; simp
        go_wp2_with fail
        refine (CO.out w6 HB6W.out).mono ?_
        rintro e w7 ⟨rfl, hb7⟩
        have HB7 := Lib.hid (HB6W.out.trans (hb7.mono HB6W.out.size))
        have hQ7 := (hb7.block G (by have := HB6.out.size; have := g_lt HQ4.out; omega)).trans ((HB6.out.block G (g_lt HQ4.out)).trans HQ4.out)
        have HQ7 := Lib.hid hQ7
        clear hb7
        have LM : (Builtin.len_ #[53] 3 #[.map (some G)]).run Try.prog w7 = .ok (.int .i64 ((eTo l0 l0.length).length : Nat)) w7 := by
          have := run_len_map (P := Try.prog) (w := w7) 53 3 G _ _ (by kernel_rfl) hQ7
          rw [this]
          simp [goInt, gEnts_len, iMap_len]
        clear hQ7
        have hF : (Instr.field 34 (.agg #[.int .i64 (ofN l0).c, .int .i64 (ofN l0).e, .int .i64 (ofN l0).d, .int .i64 (ofN l0).g]) 1).run Try.prog w7 = .ok (.int .i64 (ofN l0).e) w7 := by
          generalize (ofN l0).c = q0, (ofN l0).e = q1, (ofN l0).d = q2, (ofN l0).g = q3
          first | rfl | kernel_rfl
        go_wp2_with fail
        have HIG := Lib.hid (iget_eTo l0 (by have := HN.out; omega) l0.length (Nat.le_refl _))
        have L0 := Lib.hid (fun (u : World) (hu : u.heap[G]? = some (gMap (iMap (eTo l0 l0.length)))) => (show (Instr.lookup 53 (.map (some G)) (.int .i64 0) false).run Try.prog u = .ok (.int .i64 0) u from by
          have := (im_look_g Try.underlying53 Try.underlying44 HM.out (n := 0) (by unfold i64ok; omega) u G hu).1
          rw [HIG.out 0, if_pos rfl] at this
          exact this))
        have LA := Lib.hid (fun (h0 : ¬ a1 = 0) (u : World) (hu : u.heap[G]? = some (gMap (iMap (eTo l0 l0.length)))) => (show (Instr.lookup 53 (.map (some G)) (.int .i64 a1) false).run Try.prog u = .ok (.int .i64 (toldN l0 a1 : Nat)) u from by
          have := (im_look_g Try.underlying53 Try.underlying44 HM.out (n := a1) wa1 u G hu).1
          rw [HIG.out a1, if_neg h0, List.take_length] at this
          exact this))
        have CA := Lib.hid (fun (u : World) (hu : Below W.heap.size W u) => r45_told _ l0 a1 W.heap.size u (HR.out.below hu) hu.size (by have := HN.out; omega))
        have MK := Lib.hid (fun w' (hb : Below w7.heap.size w7 w') => (show (w'.heap[G]? = some (gMap (iMap (eTo l0 l0.length))) ∧ Below w7.heap.size w7 w') from ⟨(hb.block G (g_lt HQ7.out)).trans HQ7.out, hb⟩))
        have KP := Lib.hid (fun w1 w' (hS : (w1.heap[G]? = some (gMap (iMap (eTo l0 l0.length))) ∧ Below w7.heap.size w7 w1)) (hb : Below w1.heap.size w1 w') => MK.out w' (hS.2.trans (hb.mono hS.2.size)))
        have SW := Lib.hid (fun w1 (hS : (w1.heap[G]? = some (gMap (iMap (eTo l0 l0.length))) ∧ Below w7.heap.size w7 w1)) => (show Below W.heap.size W w1 from HB7.out.trans (hS.2.mono HB7.out.size)))
        by_cases h0 : a1 = 0
        · have hd0 : (a1 == 0) = true := by simp [h0]
          have hd1 : (a1 != 0) = false := by simp [h0]
          clear h0
          refine wp_region_held_drew (S := (fun w' => (w'.heap[G]? = some (gMap (iMap (eTo l0 l0.length))) ∧ Below w7.heap.size w7 w'))) (by kernel_rfl) ?_ (fun hHeld => ?_)
          · (try dsimp only); (first | exact MK.out _ (Below.refl _ _) | exact MK.out _ ((Below.refl _ _).drew) | assumption | (refine KP.out _ _ ?_ hb; first | assumption | exact MK.out _ ((Below.refl _ _).drew)))
          refine wpAnyH_take (i := 0) (v := ?vz0) rfl (by kernel_rfl) (by kernel_rfl) (by kernel_rfl) (fun _ _ _ h => h) (Or.inl ⟨by kernel_rfl, ?hyz0⟩) (by assumption) ?restz0
          case hyz0 => intro w hSw; (try dsimp only at hSw); go_simp; (first | done | with_reducible rfl)
          (try simp only [Act.put, List.getElem_toArray, List.getElem_cons_zero, List.getElem_cons_succ, List.setIfInBounds_toArray, List.set_cons_zero, List.set_cons_succ])
          refine wpAnyH_take (i := 1) (v := ?vz1) rfl (by kernel_rfl) (by kernel_rfl) (by kernel_rfl) (fun _ _ _ h => h) (Or.inl ⟨by kernel_rfl, ?hyz1⟩) (by assumption) ?restz1
          case hyz1 => intro w hSw; (try dsimp only at hSw); go_simp; (first | done | with_reducible rfl)
          (try simp only [Act.put, List.getElem_toArray, List.getElem_cons_zero, List.getElem_cons_succ, List.setIfInBounds_toArray, List.set_cons_zero, List.set_cons_succ])
          refine wpAnyH_take (i := 2) (v := ?vz2) rfl (by kernel_rfl) (by kernel_rfl) (by kernel_rfl) (fun _ _ _ h => h) (Or.inl ⟨by kernel_rfl, ?hyz2⟩) (by assumption) ?restz2
          case hyz2 => intro w hSw; (try dsimp only at hSw); go_simp; (first | done | with_reducible rfl)
          (try simp only [Act.put, List.getElem_toArray, List.getElem_cons_zero, List.getElem_cons_succ, List.setIfInBounds_toArray, List.set_cons_zero, List.set_cons_succ])
          refine wpAnyH_take (i := 3) (v := ?vz3) rfl (by kernel_rfl) (by kernel_rfl) (by kernel_rfl) (fun _ _ _ h => h) (Or.inl ⟨by kernel_rfl, ?hyz3⟩) (by assumption) ?restz3
          case hyz3 => intro w hSw; (try dsimp only at hSw); go_simp; (first | done | with_reducible rfl)
          (try simp only [Act.put, List.getElem_toArray, List.getElem_cons_zero, List.getElem_cons_succ, List.setIfInBounds_toArray, List.set_cons_zero, List.set_cons_succ])
          refine wpAnyH_take (i := 4) (v := ?vz4) rfl (by kernel_rfl) (by kernel_rfl) (by kernel_rfl) (fun _ _ _ h => h) (Or.inl ⟨by kernel_rfl, ?hyz4⟩) (by assumption) ?restz4
          case hyz4 => intro w hSw; (try dsimp only at hSw); have hq := L0.out w hSw.1; go_simp; (first | done | with_reducible rfl)
          (try simp only [Act.put, List.getElem_toArray, List.getElem_cons_zero, List.getElem_cons_succ, List.setIfInBounds_toArray, List.set_cons_zero, List.set_cons_succ])
          refine wpAnyH_take (i := 5) (v := ?vz5) rfl (by kernel_rfl) (by kernel_rfl) (by kernel_rfl) (fun _ _ _ h => h) (Or.inl ⟨by kernel_rfl, ?hyz5⟩) (by assumption) ?restz5
          case hyz5 => intro w hSw; (try dsimp only at hSw); go_simp; (first | done | with_reducible rfl)
          (try simp only [Act.put, List.getElem_toArray, List.getElem_cons_zero, List.getElem_cons_succ, List.setIfInBounds_toArray, List.set_cons_zero, List.set_cons_succ])
          refine wpAnyH_take (i := 6) (v := ?vz6) rfl (by kernel_rfl) (by kernel_rfl) (by kernel_rfl) (fun _ _ _ h => h) (Or.inl ⟨by kernel_rfl, ?hyz6⟩) (by assumption) ?restz6
          case hyz6 => intro w hSw; (try dsimp only at hSw); go_simp; (first | done | with_reducible rfl)
          (try simp only [Act.put, List.getElem_toArray, List.getElem_cons_zero, List.getElem_cons_succ, List.setIfInBounds_toArray, List.set_cons_zero, List.set_cons_succ])
          refine wpAnyH_take (i := 7) (v := ?vz7) rfl (by kernel_rfl) (by kernel_rfl) (by kernel_rfl) (fun _ _ _ h => h) (Or.inl ⟨by kernel_rfl, ?hyz7⟩) (by assumption) ?restz7
          case hyz7 => intro w hSw; (try dsimp only at hSw); go_simp; (first | done | with_reducible rfl)
          (try simp only [Act.put, List.getElem_toArray, List.getElem_cons_zero, List.getElem_cons_succ, List.setIfInBounds_toArray, List.set_cons_zero, List.set_cons_succ])
          refine wpAnyH_take (i := 8) rfl (by kernel_rfl) (by kernel_rfl) (by kernel_rfl) (fun _ _ _ h => h) (Or.inr ⟨by kernel_rfl, rfl⟩) (by assumption) ?_
          (try simp only [Act.put, List.getElem_toArray, List.getElem_cons_zero, List.getElem_cons_succ, List.setIfInBounds_toArray, List.set_cons_zero, List.set_cons_succ])
          refine wpAnyH_take (i := 9) rfl (by kernel_rfl) (by kernel_rfl) (by kernel_rfl) (fun _ _ _ h => h) (Or.inr ⟨by kernel_rfl, rfl⟩) (by assumption) ?_
          (try simp only [Act.put, List.getElem_toArray, List.getElem_cons_zero, List.getElem_cons_succ, List.setIfInBounds_toArray, List.set_cons_zero, List.set_cons_succ])
          refine wpAnyH_take (i := 10) rfl (by kernel_rfl) (by kernel_rfl) (by kernel_rfl) (fun _ _ _ h => h) (Or.inr ⟨by kernel_rfl, rfl⟩) (by assumption) ?_
          (try simp only [Act.put, List.getElem_toArray, List.getElem_cons_zero, List.getElem_cons_succ, List.setIfInBounds_toArray, List.set_cons_zero, List.set_cons_succ])
          refine wpAnyH_take (i := 11) rfl (by kernel_rfl) (by kernel_rfl) (by kernel_rfl) (fun _ _ _ h => h) (Or.inr ⟨by kernel_rfl, rfl⟩) (by assumption) ?_
          (try simp only [Act.put, List.getElem_toArray, List.getElem_cons_zero, List.getElem_cons_succ, List.setIfInBounds_toArray, List.set_cons_zero, List.set_cons_succ])
          refine wpAnyH_take (i := 12) rfl (by kernel_rfl) (by kernel_rfl) (by kernel_rfl) (fun _ _ _ h => h) (Or.inr ⟨by kernel_rfl, rfl⟩) (by assumption) ?_
          (try simp only [Act.put, List.getElem_toArray, List.getElem_cons_zero, List.getElem_cons_succ, List.setIfInBounds_toArray, List.set_cons_zero, List.set_cons_succ])
          refine wpAnyH_take (i := 13) rfl (by kernel_rfl) (by kernel_rfl) (by kernel_rfl) (fun _ _ _ h => h) (Or.inr ⟨by kernel_rfl, rfl⟩) (by assumption) ?_
          (try simp only [Act.put, List.getElem_toArray, List.getElem_cons_zero, List.getElem_cons_succ, List.setIfInBounds_toArray, List.set_cons_zero, List.set_cons_succ])
          refine wpAnyH_take (i := 14) rfl (by kernel_rfl) (by kernel_rfl) (by kernel_rfl) (fun _ _ _ h => h) (Or.inr ⟨by kernel_rfl, rfl⟩) (by assumption) ?_
          (try simp only [Act.put, List.getElem_toArray, List.getElem_cons_zero, List.getElem_cons_succ, List.setIfInBounds_toArray, List.set_cons_zero, List.set_cons_succ])
          refine wpAnyH_take (i := 15) rfl (by kernel_rfl) (by kernel_rfl) (by kernel_rfl) (fun _ _ _ h => h) (Or.inr ⟨by kernel_rfl, rfl⟩) (by assumption) ?_
          (try simp only [Act.put, List.getElem_toArray, List.getElem_cons_zero, List.getElem_cons_succ, List.setIfInBounds_toArray, List.set_cons_zero, List.set_cons_succ])
          refine wpAnyH_take (i := 16) rfl (by kernel_rfl) (by kernel_rfl) (by kernel_rfl) (fun _ _ _ h => h) (Or.inr ⟨by kernel_rfl, rfl⟩) (by assumption) ?_
          (try simp only [Act.put, List.getElem_toArray, List.getElem_cons_zero, List.getElem_cons_succ, List.setIfInBounds_toArray, List.set_cons_zero, List.set_cons_succ])
          refine wpAnyH_take (i := 17) rfl (by kernel_rfl) (by kernel_rfl) (by kernel_rfl) (fun _ _ _ h => h) (Or.inr ⟨by kernel_rfl, rfl⟩) (by assumption) ?_
          (try simp only [Act.put, List.getElem_toArray, List.getElem_cons_zero, List.getElem_cons_succ, List.setIfInBounds_toArray, List.set_cons_zero, List.set_cons_succ])
          refine wpAnyH_take (i := 18) rfl (by kernel_rfl) (by kernel_rfl) (by kernel_rfl) (fun _ _ _ h => h) (Or.inr ⟨by kernel_rfl, rfl⟩) (by assumption) ?_
          (try simp only [Act.put, List.getElem_toArray, List.getElem_cons_zero, List.getElem_cons_succ, List.setIfInBounds_toArray, List.set_cons_zero, List.set_cons_succ])
          refine wpAnyH_take (i := 19) (v := ?vz19) rfl (by kernel_rfl) (by kernel_rfl) (by kernel_rfl) (fun _ _ _ h => h) (Or.inl ⟨by kernel_rfl, ?hyz19⟩) (by assumption) ?restz19
          case hyz19 => intro w hSw; (try dsimp only at hSw); go_simp; (first | done | with_reducible rfl)
          (try simp only [Act.put, List.getElem_toArray, List.getElem_cons_zero, List.getElem_cons_succ, List.setIfInBounds_toArray, List.set_cons_zero, List.set_cons_succ])
          refine wpAnyH_take (i := 20) (v := ?vz20) rfl (by kernel_rfl) (by kernel_rfl) (by kernel_rfl) (fun _ _ _ h => h) (Or.inl ⟨by kernel_rfl, ?hyz20⟩) (by assumption) ?restz20
          case hyz20 => intro w hSw; (try dsimp only at hSw); go_simp; (first | done | with_reducible rfl)
          (try simp only [Act.put, List.getElem_toArray, List.getElem_cons_zero, List.getElem_cons_succ, List.setIfInBounds_toArray, List.set_cons_zero, List.set_cons_succ])
          refine wpAnyH_ready (rs := [21]) (by kernel_rfl) (by simp) ?_
          refine AllReadyH.cons rfl (fun K hK => ?_) AllReadyH.nil
          go_simp
          go_at_call 6
          (with_reducible refine (LV.out _).mono ?_)
          rintro e w' ⟨rfl, hb⟩
          (try go_wp2_with fail)
          refine hK.out _ _ ?_ (fun hHeld2 => ?_)
          · (try dsimp only); (first | exact MK.out _ (Below.refl _ _) | exact MK.out _ ((Below.refl _ _).drew) | assumption | (refine KP.out _ _ ?_ hb; first | assumption | exact MK.out _ ((Below.refl _ _).drew)))
          clear hK K hHeld
          have hHeld := hHeld2
          clear hHeld2
          (try simp only [Act.put, List.getElem_toArray, List.getElem_cons_zero, List.getElem_cons_succ, List.setIfInBounds_toArray, List.set_cons_zero, List.set_cons_succ])
          refine wpAnyH_take (i := 22) (v := ?vz22) rfl (by kernel_rfl) (by kernel_rfl) (by kernel_rfl) (fun _ _ _ h => h) (Or.inl ⟨by kernel_rfl, ?hyz22⟩) (by assumption) ?restz22
          case hyz22 => intro w hSw; (try dsimp only at hSw); go_simp; (first | done | with_reducible rfl)
          (try simp only [Act.put, List.getElem_toArray, List.getElem_cons_zero, List.getElem_cons_succ, List.setIfInBounds_toArray, List.set_cons_zero, List.set_cons_succ])
          refine wpAnyH_take (i := 23) (v := ?vz23) rfl (by kernel_rfl) (by kernel_rfl) (by kernel_rfl) (fun _ _ _ h => h) (Or.inl ⟨by kernel_rfl, ?hyz23⟩) (by assumption) ?restz23
          case hyz23 => intro w hSw; (try dsimp only at hSw); go_simp; (first | done | with_reducible rfl)
          (try simp only [Act.put, List.getElem_toArray, List.getElem_cons_zero, List.getElem_cons_succ, List.setIfInBounds_toArray, List.set_cons_zero, List.set_cons_succ])
          refine wpAnyH_done (by kernel_rfl) ?_ _
          have hE := SW.out _ hHeld
          go_wp2_with fail
          go_ret
          exact ⟨rfl, hE⟩
        · have hd0 : (a1 == 0) = false := by simp [h0]
          have hd1 : (a1 != 0) = true := by simp [h0]
          have HA0 := Lib.hid h0
          clear h0
          refine wp_region_held_drew (S := (fun w' => (w'.heap[G]? = some (gMap (iMap (eTo l0 l0.length))) ∧ Below w7.heap.size w7 w'))) (by kernel_rfl) ?_ (fun hHeld => ?_)
          · (try dsimp only); (first | exact MK.out _ (Below.refl _ _) | exact MK.out _ ((Below.refl _ _).drew) | assumption | (refine KP.out _ _ ?_ hb; first | assumption | exact MK.out _ ((Below.refl _ _).drew)))
          refine wpAnyH_take (i := 0) (v := ?vn0) rfl (by kernel_rfl) (by kernel_rfl) (by kernel_rfl) (fun _ _ _ h => h) (Or.inl ⟨by kernel_rfl, ?hyn0⟩) (by assumption) ?restn0
          case hyn0 => intro w hSw; (try dsimp only at hSw); go_simp; (first | done | with_reducible rfl)
          (try simp only [Act.put, List.getElem_toArray, List.getElem_cons_zero, List.getElem_cons_succ, List.setIfInBounds_toArray, List.set_cons_zero, List.set_cons_succ])
          refine wpAnyH_take (i := 1) (v := ?vn1) rfl (by kernel_rfl) (by kernel_rfl) (by kernel_rfl) (fun _ _ _ h => h) (Or.inl ⟨by kernel_rfl, ?hyn1⟩) (by assumption) ?restn1
          case hyn1 => intro w hSw; (try dsimp only at hSw); go_simp; (first | done | with_reducible rfl)
          (try simp only [Act.put, List.getElem_toArray, List.getElem_cons_zero, List.getElem_cons_succ, List.setIfInBounds_toArray, List.set_cons_zero, List.set_cons_succ])
          refine wpAnyH_take (i := 2) (v := ?vn2) rfl (by kernel_rfl) (by kernel_rfl) (by kernel_rfl) (fun _ _ _ h => h) (Or.inl ⟨by kernel_rfl, ?hyn2⟩) (by assumption) ?restn2
          case hyn2 => intro w hSw; (try dsimp only at hSw); go_simp; (first | done | with_reducible rfl)
          (try simp only [Act.put, List.getElem_toArray, List.getElem_cons_zero, List.getElem_cons_succ, List.setIfInBounds_toArray, List.set_cons_zero, List.set_cons_succ])
          refine wpAnyH_take (i := 3) rfl (by kernel_rfl) (by kernel_rfl) (by kernel_rfl) (fun _ _ _ h => h) (Or.inr ⟨by kernel_rfl, rfl⟩) (by assumption) ?_
          (try simp only [Act.put, List.getElem_toArray, List.getElem_cons_zero, List.getElem_cons_succ, List.setIfInBounds_toArray, List.set_cons_zero, List.set_cons_succ])
          refine wpAnyH_take (i := 4) rfl (by kernel_rfl) (by kernel_rfl) (by kernel_rfl) (fun _ _ _ h => h) (Or.inr ⟨by kernel_rfl, rfl⟩) (by assumption) ?_
          (try simp only [Act.put, List.getElem_toArray, List.getElem_cons_zero, List.getElem_cons_succ, List.setIfInBounds_toArray, List.set_cons_zero, List.set_cons_succ])
          refine wpAnyH_take (i := 5) rfl (by kernel_rfl) (by kernel_rfl) (by kernel_rfl) (fun _ _ _ h => h) (Or.inr ⟨by kernel_rfl, rfl⟩) (by assumption) ?_
          (try simp only [Act.put, List.getElem_toArray, List.getElem_cons_zero, List.getElem_cons_succ, List.setIfInBounds_toArray, List.set_cons_zero, List.set_cons_succ])
          refine wpAnyH_take (i := 6) (v := ?vn6) rfl (by kernel_rfl) (by kernel_rfl) (by kernel_rfl) (fun _ _ _ h => h) (Or.inl ⟨by kernel_rfl, ?hyn6⟩) (by assumption) ?restn6
          case hyn6 => intro w hSw; (try dsimp only at hSw); go_simp; (first | done | with_reducible rfl)
          (try simp only [Act.put, List.getElem_toArray, List.getElem_cons_zero, List.getElem_cons_succ, List.setIfInBounds_toArray, List.set_cons_zero, List.set_cons_succ])
          refine wpAnyH_take (i := 7) (v := ?vn7) rfl (by kernel_rfl) (by kernel_rfl) (by kernel_rfl) (fun _ _ _ h => h) (Or.inl ⟨by kernel_rfl, ?hyn7⟩) (by assumption) ?restn7
          case hyn7 => intro w hSw; (try dsimp only at hSw); go_simp; (first | done | with_reducible rfl)
          (try simp only [Act.put, List.getElem_toArray, List.getElem_cons_zero, List.getElem_cons_succ, List.setIfInBounds_toArray, List.set_cons_zero, List.set_cons_succ])
          refine wpAnyH_take (i := 8) (v := ?vn8) rfl (by kernel_rfl) (by kernel_rfl) (by kernel_rfl) (fun _ _ _ h => h) (Or.inl ⟨by kernel_rfl, ?hyn8⟩) (by assumption) ?restn8
          case hyn8 => intro w hSw; (try dsimp only at hSw); go_simp; (first | done | with_reducible rfl)
          (try simp only [Act.put, List.getElem_toArray, List.getElem_cons_zero, List.getElem_cons_succ, List.setIfInBounds_toArray, List.set_cons_zero, List.set_cons_succ])
          refine wpAnyH_take (i := 9) (v := ?vn9) rfl (by kernel_rfl) (by kernel_rfl) (by kernel_rfl) (fun _ _ _ h => h) (Or.inl ⟨by kernel_rfl, ?hyn9⟩) (by assumption) ?restn9
          case hyn9 => intro w hSw; (try dsimp only at hSw); go_simp; (first | done | with_reducible rfl)
          (try simp only [Act.put, List.getElem_toArray, List.getElem_cons_zero, List.getElem_cons_succ, List.setIfInBounds_toArray, List.set_cons_zero, List.set_cons_succ])
          refine wpAnyH_take (i := 10) (v := ?vn10) rfl (by kernel_rfl) (by kernel_rfl) (by kernel_rfl) (fun _ _ _ h => h) (Or.inl ⟨by kernel_rfl, ?hyn10⟩) (by assumption) ?restn10
          case hyn10 => intro w hSw; (try dsimp only at hSw); go_simp; (first | done | with_reducible rfl)
          (try simp only [Act.put, List.getElem_toArray, List.getElem_cons_zero, List.getElem_cons_succ, List.setIfInBounds_toArray, List.set_cons_zero, List.set_cons_succ])
          refine wpAnyH_take (i := 11) (v := ?vn11) rfl (by kernel_rfl) (by kernel_rfl) (by kernel_rfl) (fun _ _ _ h => h) (Or.inl ⟨by kernel_rfl, ?hyn11⟩) (by assumption) ?restn11
          case hyn11 => intro w hSw; (try dsimp only at hSw); go_simp; (first | done | with_reducible rfl)
          (try simp only [Act.put, List.getElem_toArray, List.getElem_cons_zero, List.getElem_cons_succ, List.setIfInBounds_toArray, List.set_cons_zero, List.set_cons_succ])
          refine wpAnyH_take (i := 12) (v := ?vn12) rfl (by kernel_rfl) (by kernel_rfl) (by kernel_rfl) (fun _ _ _ h => h) (Or.inl ⟨by kernel_rfl, ?hyn12⟩) (by assumption) ?restn12
          case hyn12 => intro w hSw; (try dsimp only at hSw); go_simp; (first | done | with_reducible rfl)
          (try simp only [Act.put, List.getElem_toArray, List.getElem_cons_zero, List.getElem_cons_succ, List.setIfInBounds_toArray, List.set_cons_zero, List.set_cons_succ])
          refine wpAnyH_take (i := 13) (v := ?vn13) rfl (by kernel_rfl) (by kernel_rfl) (by kernel_rfl) (fun _ _ _ h => h) (Or.inl ⟨by kernel_rfl, ?hyn13⟩) (by assumption) ?restn13
          case hyn13 => intro w hSw; (try dsimp only at hSw); have hq := LA.out HA0.out w hSw.1; go_simp; (first | done | with_reducible rfl)
          (try simp only [Act.put, List.getElem_toArray, List.getElem_cons_zero, List.getElem_cons_succ, List.setIfInBounds_toArray, List.set_cons_zero, List.set_cons_succ])
          refine wpAnyH_take (i := 14) (v := ?vn14) rfl (by kernel_rfl) (by kernel_rfl) (by kernel_rfl) (fun _ _ _ h => h) (Or.inl ⟨by kernel_rfl, ?hyn14⟩) (by assumption) ?restn14
          case hyn14 => intro w hSw; (try dsimp only at hSw); go_simp; (first | done | with_reducible rfl)
          (try simp only [Act.put, List.getElem_toArray, List.getElem_cons_zero, List.getElem_cons_succ, List.setIfInBounds_toArray, List.set_cons_zero, List.set_cons_succ])
          refine wpAnyH_take (i := 15) (v := ?vn15) rfl (by kernel_rfl) (by kernel_rfl) (by kernel_rfl) (fun _ _ _ h => h) (Or.inl ⟨by kernel_rfl, ?hyn15⟩) (by assumption) ?restn15
          case hyn15 => intro w hSw; (try dsimp only at hSw); go_simp; (first | done | with_reducible rfl)
          (try simp only [Act.put, List.getElem_toArray, List.getElem_cons_zero, List.getElem_cons_succ, List.setIfInBounds_toArray, List.set_cons_zero, List.set_cons_succ])
          refine wpAnyH_ready (rs := [16]) (by kernel_rfl) (by simp) ?_
          refine AllReadyH.cons rfl (fun K hK => ?_) AllReadyH.nil
          go_simp
          go_at_call 15
          (with_reducible refine (CA.out _ (SW.out _ hHeld)).mono ?_)
          rintro e w' ⟨rfl, hb⟩
          (try go_wp2_with fail)
          refine hK.out _ _ ?_ (fun hHeld2 => ?_)
          · (try dsimp only); (first | exact MK.out _ (Below.refl _ _) | exact MK.out _ ((Below.refl _ _).drew) | assumption | (refine KP.out _ _ ?_ hb; first | assumption | exact MK.out _ ((Below.refl _ _).drew)))
          clear hK K hHeld
          have hHeld := hHeld2
          clear hHeld2
          (try simp only [Act.put, List.getElem_toArray, List.getElem_cons_zero, List.getElem_cons_succ, List.setIfInBounds_toArray, List.set_cons_zero, List.set_cons_succ])
          refine wpAnyH_take (i := 17) (v := ?vn17) rfl (by kernel_rfl) (by kernel_rfl) (by kernel_rfl) (fun _ _ _ h => h) (Or.inl ⟨by kernel_rfl, ?hyn17⟩) (by assumption) ?restn17
          case hyn17 => intro w hSw; (try dsimp only at hSw); go_simp; (first | done | with_reducible rfl)
          (try simp only [Act.put, List.getElem_toArray, List.getElem_cons_zero, List.getElem_cons_succ, List.setIfInBounds_toArray, List.set_cons_zero, List.set_cons_succ])
          refine wpAnyH_take (i := 18) (v := ?vn18) rfl (by kernel_rfl) (by kernel_rfl) (by kernel_rfl) (fun _ _ _ h => h) (Or.inl ⟨by kernel_rfl, ?hyn18⟩) (by assumption) ?restn18
          case hyn18 => intro w hSw; (try dsimp only at hSw); go_simp; (first | done | with_reducible rfl)
          (try simp only [Act.put, List.getElem_toArray, List.getElem_cons_zero, List.getElem_cons_succ, List.setIfInBounds_toArray, List.set_cons_zero, List.set_cons_succ])
          refine wpAnyH_take (i := 19) (v := ?vn19) rfl (by kernel_rfl) (by kernel_rfl) (by kernel_rfl) (fun _ _ _ h => h) (Or.inl ⟨by kernel_rfl, ?hyn19⟩) (by assumption) ?restn19
          case hyn19 => intro w hSw; (try dsimp only at hSw); go_simp; (first | done | with_reducible rfl)
          (try simp only [Act.put, List.getElem_toArray, List.getElem_cons_zero, List.getElem_cons_succ, List.setIfInBounds_toArray, List.set_cons_zero, List.set_cons_succ])
          refine wpAnyH_take (i := 20) (v := ?vn20) rfl (by kernel_rfl) (by kernel_rfl) (by kernel_rfl) (fun _ _ _ h => h) (Or.inl ⟨by kernel_rfl, ?hyn20⟩) (by assumption) ?restn20
          case hyn20 => intro w hSw; (try dsimp only at hSw); go_simp; (first | done | with_reducible rfl)
          (try simp only [Act.put, List.getElem_toArray, List.getElem_cons_zero, List.getElem_cons_succ, List.setIfInBounds_toArray, List.set_cons_zero, List.set_cons_succ])
          refine wpAnyH_ready (rs := [21]) (by kernel_rfl) (by simp) ?_
          refine AllReadyH.cons rfl (fun K hK => ?_) AllReadyH.nil
          go_simp
          go_at_call 6
          (with_reducible refine (LV.out _).mono ?_)
          rintro e w' ⟨rfl, hb⟩
          (try go_wp2_with fail)
          refine hK.out _ _ ?_ (fun hHeld2 => ?_)
          · (try dsimp only); (first | exact MK.out _ (Below.refl _ _) | exact MK.out _ ((Below.refl _ _).drew) | assumption | (refine KP.out _ _ ?_ hb; first | assumption | exact MK.out _ ((Below.refl _ _).drew)))
          clear hK K hHeld
          have hHeld := hHeld2
          clear hHeld2
          (try simp only [Act.put, List.getElem_toArray, List.getElem_cons_zero, List.getElem_cons_succ, List.setIfInBounds_toArray, List.set_cons_zero, List.set_cons_succ])
          refine wpAnyH_take (i := 22) (v := ?vn22) rfl (by kernel_rfl) (by kernel_rfl) (by kernel_rfl) (fun _ _ _ h => h) (Or.inl ⟨by kernel_rfl, ?hyn22⟩) (by assumption) ?restn22
          case hyn22 => intro w hSw; (try dsimp only at hSw); go_simp; (first | done | with_reducible rfl)
          (try simp only [Act.put, List.getElem_toArray, List.getElem_cons_zero, List.getElem_cons_succ, List.setIfInBounds_toArray, List.set_cons_zero, List.set_cons_succ])
          refine wpAnyH_take (i := 23) (v := ?vn23) rfl (by kernel_rfl) (by kernel_rfl) (by kernel_rfl) (fun _ _ _ h => h) (Or.inl ⟨by kernel_rfl, ?hyn23⟩) (by assumption) ?restn23
          case hyn23 => intro w hSw; (try dsimp only at hSw); go_simp; (first | done | with_reducible rfl)
          (try simp only [Act.put, List.getElem_toArray, List.getElem_cons_zero, List.getElem_cons_succ, List.setIfInBounds_toArray, List.set_cons_zero, List.set_cons_succ])
          refine wpAnyH_done (by kernel_rfl) ?_ _
          have hE := SW.out _ hHeld
          go_wp2_with fail
          go_ret
          exact ⟨rfl, hE⟩
end loadErrors
end Go.Proofs.Ytfilbdmenlhoiaa
