/- ScriptPrints. By program (genlsp.py). -/
import Derived.Test.YtoejflnlkapkiaaDoorSz23
namespace Go.Proofs.YtoejflnlkapkiaaDoor
open Go.ChangeShapes Go.WideShapes Go.ChangeAt Go.RowKit
set_option linter.unusedVariables false
set_option linter.unusedSimpArgs false
namespace scriptPrints
set_option maxRecDepth 100000 in
set_option maxHeartbeats 16000000 in
theorem main (W : World) (st rm : Int) (cv : Value) (cs : List (List Cl)) (pp tp : Option Addr) (pk tk : Nat) (ps ts : List Int) (hst : i64r st) (hrm : i64r rm) (hC : RowCC W cv cs) (hP : RowI W pp ps.length ps) (hQ : RowI W tp ts.length ts)
    (hcl : cs.length ≤ 2000000) (hll : ∀ l ∈ cs, l.length ≤ 2000000) (hbk : ps.length + ts.length + bulkC cs ≤ 3000000) (hm : MaxAt W) (h1 : 1 < W.heap.size) (hE : Evs W) (hT : Lib.TabIs Tryd.prog W "internal/strconv.uint64pow10" .u64 Lib.pow10Tab) :
    Calls Tryd.prog 3 #[.agg #[.int .i64 st, .int .i64 rm, cv, .slice pp ps.length pk, .slice tp ts.length tk]] W fun e W' => e = .returned (.bool true) ∧ Below W.heap.size W W' := by
  obtain ⟨cp, cc, rfl, -⟩ := id hC
  obtain ⟨w0, hw0, r0, hB0, hs0⟩ := boxG W #[.int .i64 st, .int .i64 rm, .slice cp cs.length cc, .slice pp ps.length pk, .slice tp ts.length tk] 25
  have HF := Lib.hid (fun (u : World) (hu : Below w0.heap.size w0 u) => sc_cells5 ((hu.block _ (by omega)).trans r0))
  have GR := Lib.hid (l42_great st rm _ cs pp tp ps.length pk ts.length tk w0 (hC.below hB0) hcl hll hbk)
  have LV := Lib.hid (fun w (h : Below W.heap.size W w) => live42 w (pow10_bel hT h))
  have HB0 := Lib.hid hB0
  have HC := Lib.hid hC
  have HP := Lib.hid hP
  have HQ := Lib.hid hQ
  have HM := Lib.hid hm
  have H1 := Lib.hid h1
  have HE := Lib.hid hE
  have HT := Lib.hid hT
  have HI := Lib.hid (And.intro hst hrm)
  have HGD := Lib.hid hC.good
  obtain ⟨m0, m1, m2, m3, m4⟩ := HF.out w0 (Below.refl _ _)
  clear r0 hB0 hs0 hC hP hQ hm h1 hE hT hst hrm hcl hll hbk
  go_enter Tryd.func3, Tryd.ntmps3
  go_wp2_with fail
  refine GR.out.mono ?_
  rintro e x1 ⟨⟨g, rfl, hg⟩, hb1⟩
  have HB1 := Lib.hid hb1
  have HW1 := Lib.hid (HB0.out.trans (hb1.mono HB0.out.size))
  clear hb1 m0 m1 m2 m3 m4
  obtain ⟨m0, m1, m2, m3, m4⟩ := HF.out x1 HB1.out
  cases g with
  | true =>
    clear hg
    go_wp2_with fail
    refine (LV.out _ HW1.out).mono ?_
    rintro e x2 ⟨rfl, hb2⟩
    have HB2 := Lib.hid (HW1.out.trans (hb2.mono HW1.out.size))
    clear hb2
    go_wp2_with fail
    go_ret
    exact ⟨rfl, HB2.out⟩
  | false =>
    obtain ⟨g1, g2, g3⟩ := hg rfl
    have HG := Lib.hid (And.intro g1 (And.intro g2 g3))
    have HSZ := Lib.hid (show ∀ l ∈ cs, ∀ c ∈ l, c.s.size ≤ 3000 ∧ c.xs.length ≤ 3000 from fun l hl c hc => by
      obtain ⟨q, hq, rfl⟩ := List.getElem_of_mem hl
      obtain ⟨j, hj, rfl⟩ := List.getElem_of_mem hc
      have h1 := bulkC_get (List.getElem?_eq_getElem hq)
      have h2 := bulkK_get (List.getElem?_eq_getElem hj)
      omega)
    clear hg g1 g2 g3
    have LI := Lib.hid (fun w (h : Below W.heap.size W w) => r42_lines st rm _ cs pp tp pk tk ps ts w HI.out.1 HI.out.2 (HC.out.below h) (by have := HG.out.1; omega) (fun l hl => by have := HG.out.2.1 l hl; omega) (fun l hl c hc => by have := HSZ.out l hl c hc; omega) (HP.out.below h) (by have := HG.out.2.2; omega) (HQ.out.below h) (by have := HG.out.2.2; omega))
    have LK := Lib.hid (fun w => l42_like st rm cp pp tp cs.length cc ps.length pk ts.length tk w)
    by_cases hkd : ∀ l ∈ cs, ∀ c ∈ l, 1 ≤ c.kd ∧ c.kd ≤ 7
    · have hgl : ∀ l ∈ cs, ∀ c ∈ l, GoodL c := fun l hl c hc => ⟨(HGD.out l hl c hc).1, (hkd l hl c hc).1, (hkd l hl c hc).2, (HGD.out l hl c hc).2⟩
      have hlen := scT_sz HI.out.1 HI.out.2 HP.out.good HQ.out.good hgl
      have hlen2 : (scT st rm ps ts cs).length ≤ 700000 := by have h1 := HG.out.1; have h2 := HG.out.2.2; omega
      have PR := sc_print st rm _ cs pp ps.length pk ps tp ts.length tk ts x1 HI.out.1 HI.out.2 (HC.out.below HW1.out) (by have := HG.out.1; omega) (fun l hl => by have := HG.out.2.1 l hl; omega) (HP.out.below HW1.out) (by have := HG.out.2.2; omega) (HQ.out.below HW1.out) (by have := HG.out.2.2; omega) (by omega)
        (fun l hl c hc => (gw_word (hkd l hl c hc).1 (hkd l hl c hc).2).1.1) (pow10_bel HT.out HW1.out) (fun l hl c hc x w hok hx htb => sc_words c x w hx hok (by have := HSZ.out l hl c hc; omega) (by have := HSZ.out l hl c hc; omega) htb)
      obtain ⟨t, ht⟩ : ∃ t : ByteArray, ⟨(scT st rm ps ts cs).toArray⟩ = t := ⟨_, rfl⟩
      have htt : t.data.toList = scT st rm ps ts cs := by rw [← ht]
      have HTT := Lib.hid (show t.data.toList = txT (linesL st rm ps ts cs) by rw [txT_lines]; exact htt)
      have hts : t.size ≤ 700000 := by have h : t.data.toList.length = t.size := rfl; rw [htt] at h; omega
      unfold bigS bigE at PR
      rw [if_pos (by omega), if_pos (by omega), ht] at PR
      have PR := Lib.hid PR
      have HPRS := Lib.hid (prs_scT htt HI.out.1 HI.out.2 HP.out.good HQ.out.good hgl)
      have HTS := Lib.hid hts
      have HKD := Lib.hid hkd
      have HLL2 := Lib.hid hlen2
      clear ht htt hts hgl hlen hlen2 hkd
      go_wp2_with fail
      refine PR.out.mono ?_
      rintro e x2 ⟨rfl, hb2⟩
      have HB2 := Lib.hid (HB1.out.trans (hb2.mono HB1.out.size))
      have HW2 := Lib.hid (HB0.out.trans (HB2.out.mono HB0.out.size))
      clear hb2 m0 m1 m2 m3 m4
      obtain ⟨m0, m1, m2, m3, m4⟩ := HF.out x2 HB2.out
      go_wp2_with fail
      refine (LK.out _).mono ?_
      rintro e x3 ⟨rfl, hb3⟩
      have HB3 := Lib.hid (HB2.out.trans (hb3.mono HB2.out.size))
      have HW3 := Lib.hid (HB0.out.trans (HB3.out.mono HB0.out.size))
      clear hb3 m0 m1 m2 m3 m4
      go_wp2_with fail
      refine (LI.out _ HW3.out).mono ?_
      rintro e x4 ⟨hli, hb4⟩
      rcases hli with ⟨-, lp, ln, lk, rfl, hrs⟩ | ⟨⟨l, hl, c, hc, hn⟩, -⟩
      · have HRS := Lib.hid hrs
        have HB4 := Lib.hid (HB3.out.trans (hb4.mono HB3.out.size))
        have HW4 := Lib.hid (HB0.out.trans (HB4.out.mono HB0.out.size))
        have PA := Lib.hid (sc_parse t (by have := HTS.out; omega) x4 (HM.out.below HW4.out H1.out) (Nat.lt_of_lt_of_le H1.out HW4.out.size) (HE.out.below HW4.out) (pow10_bel HT.out HW4.out))
        clear hb4 hrs
        go_wp2_with fail
        refine PA.out.mono ?_
        rintro e x5 ⟨hb5, hpo⟩
        rw [HPRS.out] at hpo
        obtain ⟨cv2, qp, qk, qt, qtk, rfl, hrc, hri1, hri2, -, -⟩ := hpo
        obtain ⟨cp2, cc2, rfl, -⟩ := id hrc
        simp only at hrc hri1 hri2
        simp only [List.length_map] at hrc
        obtain ⟨x7, hx7, r7, hb7, hs7⟩ := boxG x5 #[.int .i64 st, .int .i64 rm, .slice cp2 cs.length cc2, .slice qp ps.length qk, .slice qt ts.length qtk] 25
        have HB7 := Lib.hid ((HB4.out.trans (hb5.mono HB4.out.size)).trans (hb7.mono (Nat.le_trans HB4.out.size hb5.size)))
        have HBX := Lib.hid (HB0.out.trans (HB7.out.mono HB0.out.size))
        have FB := Lib.hid (fun (w : World) (h : Below x7.heap.size x7 w) => And.intro (sc_cells5 ((h.block _ (by omega)).trans r7)) (HF.out w (HB7.out.trans (h.mono HB7.out.size))))
        have TX := Lib.hid (fun (w : World) (h : Below x7.heap.size x7 w) => r42_text _ (linesL st rm ps ts cs) w ((HRS.out.below hb5).below (hb7.trans (h.mono hb7.size))) (by
          have h1 : ∀ Ls : List (List UInt8), Ls.length ≤ (txT Ls).length := fun Ls => by
            induction Ls with
            | nil => exact Nat.le_refl _
            | cons x r ih =>
              have e : txT (x :: r) = x ++ [10] ++ txT r := by unfold txT; simp
              rw [e, List.length_append, List.length_append, List.length_cons]; simp only [List.length_cons, List.length_nil]; omega
          have h2 := h1 (linesL st rm ps ts cs)
          rw [txT_lines] at h2
          have := HLL2.out
          omega) (by rw [txT_lines]; have := HLL2.out; omega))
        have AL := Lib.hid (fun (w : World) (h : Below x7.heap.size x7 w) => l42_alike st rm _ _ cs qp qt pp tp qk qtk pk tk ps ts w (hrc.below (hb7.trans (h.mono hb7.size))) (HC.out.below (HBX.out.trans (h.mono HBX.out.size))) (by have := HG.out.1; omega) (fun l hl => by have := HG.out.2.1 l hl; omega) (hri1.below (hb7.trans (h.mono hb7.size))) (hri2.below (hb7.trans (h.mono hb7.size))) (HP.out.below (HBX.out.trans (h.mono HBX.out.size))) (HQ.out.below (HBX.out.trans (h.mono HBX.out.size))))
        clear hrc hri1 hri2 r7 hb5 hb7 HRS
        go_upto_region 8 with fail
        refine wp_region_held_drew (S := fun w' => Below x7.heap.size x7 w') (by kernel_rfl) ((Below.refl _ _).drew) (fun hHeld => ?_)
        refine wpAnyH_take (i := 0) (v := ?v1) rfl (by kernel_rfl) (by kernel_rfl) (by kernel_rfl) (fun _ _ _ h => h) (Or.inl ⟨by kernel_rfl, ?hy1⟩) (by assumption) ?rest1
        case hy1 => intro w hSw; (try dsimp only at hSw); go_simp; (first | done | with_reducible rfl)
        (try simp only [Act.put, List.getElem_toArray, List.getElem_cons_zero, List.getElem_cons_succ, List.setIfInBounds_toArray, List.set_cons_zero, List.set_cons_succ])
        refine wpAnyH_take (i := 1) (v := ?v2) rfl (by kernel_rfl) (by kernel_rfl) (by kernel_rfl) (fun _ _ _ h => h) (Or.inl ⟨by kernel_rfl, ?hy2⟩) (by assumption) ?rest2
        case hy2 => intro w hSw; (try dsimp only at hSw); go_simp; (first | done | with_reducible rfl)
        (try simp only [Act.put, List.getElem_toArray, List.getElem_cons_zero, List.getElem_cons_succ, List.setIfInBounds_toArray, List.set_cons_zero, List.set_cons_succ])
        refine wpAnyH_take (i := 2) (v := ?v3) rfl (by kernel_rfl) (by kernel_rfl) (by kernel_rfl) (fun _ _ _ h => h) (Or.inl ⟨by kernel_rfl, ?hy3⟩) (by assumption) ?rest3
        case hy3 => intro w hSw; (try dsimp only at hSw); go_simp; (first | done | with_reducible rfl)
        (try simp only [Act.put, List.getElem_toArray, List.getElem_cons_zero, List.getElem_cons_succ, List.setIfInBounds_toArray, List.set_cons_zero, List.set_cons_succ])
        refine wpAnyH_take (i := 3) (v := ?v4) rfl (by kernel_rfl) (by kernel_rfl) (by kernel_rfl) (fun _ _ _ h => h) (Or.inl ⟨by kernel_rfl, ?hy4⟩) (by assumption) ?rest4
        case hy4 => intro w hSw; (try dsimp only at hSw); go_simp; (first | done | with_reducible rfl)
        (try simp only [Act.put, List.getElem_toArray, List.getElem_cons_zero, List.getElem_cons_succ, List.setIfInBounds_toArray, List.set_cons_zero, List.set_cons_succ])
        refine wpAnyH_take (i := 4) (v := ?v5) rfl (by kernel_rfl) (by kernel_rfl) (by kernel_rfl) (fun _ _ _ h => h) (Or.inl ⟨by kernel_rfl, ?hy5⟩) (by assumption) ?rest5
        case hy5 => intro w hSw; (try dsimp only at hSw); go_simp; (first | done | with_reducible rfl)
        (try simp only [Act.put, List.getElem_toArray, List.getElem_cons_zero, List.getElem_cons_succ, List.setIfInBounds_toArray, List.set_cons_zero, List.set_cons_succ])
        refine wpAnyH_ready (rs := [5]) (by kernel_rfl) (by simp) ?_
        refine AllReadyH.cons rfl (fun K hK => ?_) AllReadyH.nil
        go_simp
        go_at_call 13
        with_reducible refine (TX.out _ hHeld).mono ?_
        rintro e wA ⟨⟨sx, hsx, rfl⟩, hbA⟩
        have hsx2 := ba_ext2 (a := sx) (b := t) (hsx.trans HTT.out.symm)
        subst hsx2
        clear hsx
        have HBA := Lib.hid (hHeld.trans (hbA.mono hHeld.size))
        clear hbA
        (try go_wp2_with fail)
        refine hK.out _ _ HBA.out (fun hHeld2 => ?_)
        clear hK K hHeld
        have hHeld := hHeld2
        clear hHeld2
        (try simp only [Act.put, List.getElem_toArray, List.getElem_cons_zero, List.getElem_cons_succ, List.setIfInBounds_toArray, List.set_cons_zero, List.set_cons_succ])
        refine wpAnyH_take (i := 6) (v := ?v6) rfl (by kernel_rfl) (by kernel_rfl) (by kernel_rfl) (fun _ _ _ h => h) (Or.inl ⟨by kernel_rfl, ?hy6⟩) (by assumption) ?rest6
        case hy6 => intro w hSw; (try dsimp only at hSw); go_simp; (first | done | with_reducible rfl)
        (try simp only [Act.put, List.getElem_toArray, List.getElem_cons_zero, List.getElem_cons_succ, List.setIfInBounds_toArray, List.set_cons_zero, List.set_cons_succ])
        refine wpAnyH_take (i := 7) (v := ?v7) rfl (by kernel_rfl) (by kernel_rfl) (by kernel_rfl) (fun _ _ _ h => h) (Or.inl ⟨by kernel_rfl, ?hy7⟩) (by assumption) ?rest7
        case hy7 => intro w hSw; (try dsimp only at hSw); go_simp; (first | done | with_reducible rfl)
        (try simp only [Act.put, List.getElem_toArray, List.getElem_cons_zero, List.getElem_cons_succ, List.setIfInBounds_toArray, List.set_cons_zero, List.set_cons_succ])
        refine wpAnyH_take (i := 8) (v := ?v8) rfl (by kernel_rfl) (by kernel_rfl) (by kernel_rfl) (fun _ _ _ h => h) (Or.inl ⟨by kernel_rfl, ?hy8⟩) (by assumption) ?rest8
        case hy8 => intro w hSw; (try dsimp only at hSw); go_simp; (first | done | with_reducible rfl)
        (try simp only [Act.put, List.getElem_toArray, List.getElem_cons_zero, List.getElem_cons_succ, List.setIfInBounds_toArray, List.set_cons_zero, List.set_cons_succ])
        refine wpAnyH_take (i := 9) (v := ?v9) rfl (by kernel_rfl) (by kernel_rfl) (by kernel_rfl) (fun _ _ _ h => h) (Or.inl ⟨by kernel_rfl, ?hy9⟩) (by assumption) ?rest9
        case hy9 => intro w hSw; (try dsimp only at hSw); go_simp; (first | done | with_reducible rfl)
        (try simp only [Act.put, List.getElem_toArray, List.getElem_cons_zero, List.getElem_cons_succ, List.setIfInBounds_toArray, List.set_cons_zero, List.set_cons_succ])
        refine wpAnyH_take (i := 10) (v := ?v10) rfl (by kernel_rfl) (by kernel_rfl) (by kernel_rfl) (fun _ _ _ h => h) (Or.inl ⟨by kernel_rfl, ?hy10⟩) (by assumption) ?rest10
        case hy10 => intro w hSw; (try dsimp only at hSw); go_simp; (first | done | with_reducible rfl)
        (try simp only [Act.put, List.getElem_toArray, List.getElem_cons_zero, List.getElem_cons_succ, List.setIfInBounds_toArray, List.set_cons_zero, List.set_cons_succ])
        refine wpAnyH_take (i := 11) (v := ?v11) rfl (by kernel_rfl) (by kernel_rfl) (by kernel_rfl) (fun _ _ _ h => h) (Or.inl ⟨by kernel_rfl, ?hy11⟩) (by assumption) ?rest11
        case hy11 => intro w hSw; (try dsimp only at hSw); go_simp; (first | done | with_reducible rfl)
        (try simp only [Act.put, List.getElem_toArray, List.getElem_cons_zero, List.getElem_cons_succ, List.setIfInBounds_toArray, List.set_cons_zero, List.set_cons_succ])
        refine wpAnyH_take (i := 12) (v := ?v12) rfl (by kernel_rfl) (by kernel_rfl) (by kernel_rfl) (fun _ _ _ h => h) (Or.inl ⟨by kernel_rfl, ?hy12⟩) (by assumption) ?rest12
        case hy12 => intro w hSw; (try dsimp only at hSw); go_simp; (first | done | with_reducible rfl)
        (try simp only [Act.put, List.getElem_toArray, List.getElem_cons_zero, List.getElem_cons_succ, List.setIfInBounds_toArray, List.set_cons_zero, List.set_cons_succ])
        refine wpAnyH_take (i := 13) (v := ?v13) rfl (by kernel_rfl) (by kernel_rfl) (by kernel_rfl) (fun _ _ _ h => h) (Or.inl ⟨by kernel_rfl, ?hy13⟩) (by assumption) ?rest13
        case hy13 => intro w hSw; (try dsimp only at hSw); go_simp; (first | done | with_reducible rfl)
        (try simp only [Act.put, List.getElem_toArray, List.getElem_cons_zero, List.getElem_cons_succ, List.setIfInBounds_toArray, List.set_cons_zero, List.set_cons_succ])
        refine wpAnyH_take (i := 14) (v := ?v14) rfl (by kernel_rfl) (by kernel_rfl) (by kernel_rfl) (fun _ _ _ h => h) (Or.inl ⟨by kernel_rfl, ?hy14⟩) (by assumption) ?rest14
        case hy14 => intro w hSw; (try dsimp only at hSw); go_simp; (first | done | with_reducible rfl)
        (try simp only [Act.put, List.getElem_toArray, List.getElem_cons_zero, List.getElem_cons_succ, List.setIfInBounds_toArray, List.set_cons_zero, List.set_cons_succ])
        refine wpAnyH_take (i := 15) (v := ?v15) rfl (by kernel_rfl) (by kernel_rfl) (by kernel_rfl) (fun _ _ _ h => h) (Or.inl ⟨by kernel_rfl, ?hy15⟩) (by assumption) ?rest15
        case hy15 => intro w hSw; (try dsimp only at hSw); go_simp; (first | done | with_reducible rfl)
        (try simp only [Act.put, List.getElem_toArray, List.getElem_cons_zero, List.getElem_cons_succ, List.setIfInBounds_toArray, List.set_cons_zero, List.set_cons_succ])
        refine wpAnyH_take (i := 16) (v := ?v16) rfl (by kernel_rfl) (by kernel_rfl) (by kernel_rfl) (fun _ _ _ h => h) (Or.inl ⟨by kernel_rfl, ?hy16⟩) (by assumption) ?rest16
        case hy16 => intro w hSw; (try dsimp only at hSw); go_simp; (first | done | with_reducible rfl)
        (try simp only [Act.put, List.getElem_toArray, List.getElem_cons_zero, List.getElem_cons_succ, List.setIfInBounds_toArray, List.set_cons_zero, List.set_cons_succ])
        refine wpAnyH_take (i := 17) (v := ?v17) rfl (by kernel_rfl) (by kernel_rfl) (by kernel_rfl) (fun _ _ _ h => h) (Or.inl ⟨by kernel_rfl, ?hy17⟩) (by assumption) ?rest17
        case hy17 => intro w hSw; (try dsimp only at hSw); obtain ⟨⟨p0, p1, p2, p3, p4⟩, q0, q1, q2, q3, q4⟩ := FB.out w hSw; go_simp; (first | done | with_reducible rfl)
        (try simp only [Act.put, List.getElem_toArray, List.getElem_cons_zero, List.getElem_cons_succ, List.setIfInBounds_toArray, List.set_cons_zero, List.set_cons_succ])
        refine wpAnyH_take (i := 18) (v := ?v18) rfl (by kernel_rfl) (by kernel_rfl) (by kernel_rfl) (fun _ _ _ h => h) (Or.inl ⟨by kernel_rfl, ?hy18⟩) (by assumption) ?rest18
        case hy18 => intro w hSw; (try dsimp only at hSw); obtain ⟨⟨p0, p1, p2, p3, p4⟩, q0, q1, q2, q3, q4⟩ := FB.out w hSw; go_simp; (first | done | with_reducible rfl)
        (try simp only [Act.put, List.getElem_toArray, List.getElem_cons_zero, List.getElem_cons_succ, List.setIfInBounds_toArray, List.set_cons_zero, List.set_cons_succ])
        refine wpAnyH_ready (rs := [19]) (by kernel_rfl) (by simp) ?_
        refine AllReadyH.cons rfl (fun K hK => ?_) AllReadyH.nil
        go_simp
        go_at_call 11
        with_reducible refine (LK.out _).mono ?_
        rintro e wB ⟨rfl, hbB⟩
        have HBB := Lib.hid (hHeld.trans (hbB.mono hHeld.size))
        clear hbB
        (try go_wp2_with fail)
        refine hK.out _ _ HBB.out (fun hHeld2 => ?_)
        clear hK K hHeld
        have hHeld := hHeld2
        clear hHeld2
        (try simp only [Act.put, List.getElem_toArray, List.getElem_cons_zero, List.getElem_cons_succ, List.setIfInBounds_toArray, List.set_cons_zero, List.set_cons_succ])
        refine wpAnyH_ready (rs := [20]) (by kernel_rfl) (by simp) ?_
        refine AllReadyH.cons rfl (fun K hK => ?_) AllReadyH.nil
        go_simp
        go_at_call 14
        with_reducible refine (AL.out _ hHeld).mono ?_
        rintro e wC ⟨rfl, hbC⟩
        have HBC := Lib.hid (hHeld.trans (hbC.mono hHeld.size))
        clear hbC
        (try go_wp2_with fail)
        refine hK.out _ _ HBC.out (fun hHeld2 => ?_)
        clear hK K hHeld
        have hHeld := hHeld2
        clear hHeld2
        (try simp only [Act.put, List.getElem_toArray, List.getElem_cons_zero, List.getElem_cons_succ, List.setIfInBounds_toArray, List.set_cons_zero, List.set_cons_succ])
        refine wpAnyH_take (i := 21) (v := ?v19) rfl (by kernel_rfl) (by kernel_rfl) (by kernel_rfl) (fun _ _ _ h => h) (Or.inl ⟨by kernel_rfl, ?hy19⟩) (by assumption) ?rest19
        case hy19 => intro w hSw; (try dsimp only at hSw); go_simp; (first | done | with_reducible rfl)
        (try simp only [Act.put, List.getElem_toArray, List.getElem_cons_zero, List.getElem_cons_succ, List.setIfInBounds_toArray, List.set_cons_zero, List.set_cons_succ])
        refine wpAnyH_take (i := 22) (v := ?v20) rfl (by kernel_rfl) (by kernel_rfl) (by kernel_rfl) (fun _ _ _ h => h) (Or.inl ⟨by kernel_rfl, ?hy20⟩) (by assumption) ?rest20
        case hy20 => intro w hSw; (try dsimp only at hSw); go_simp; (first | done | with_reducible rfl)
        (try simp only [Act.put, List.getElem_toArray, List.getElem_cons_zero, List.getElem_cons_succ, List.setIfInBounds_toArray, List.set_cons_zero, List.set_cons_succ])
        refine wpAnyH_ready (rs := [23]) (by kernel_rfl) (by simp) ?_
        refine AllReadyH.cons rfl (fun K hK => ?_) AllReadyH.nil
        go_simp
        go_at_call 8
        with_reducible refine (LV.out _ (HBX.out.trans (hHeld.mono HBX.out.size))).mono ?_
        rintro e wD ⟨rfl, hbD⟩
        have HBD := Lib.hid (hHeld.trans (hbD.mono hHeld.size))
        clear hbD
        (try go_wp2_with fail)
        refine hK.out _ _ HBD.out (fun hHeld2 => ?_)
        clear hK K hHeld
        have hHeld := hHeld2
        clear hHeld2
        (try simp only [Act.put, List.getElem_toArray, List.getElem_cons_zero, List.getElem_cons_succ, List.setIfInBounds_toArray, List.set_cons_zero, List.set_cons_succ])
        refine wpAnyH_take (i := 24) (v := ?v21) rfl (by kernel_rfl) (by kernel_rfl) (by kernel_rfl) (fun _ _ _ h => h) (Or.inl ⟨by kernel_rfl, ?hy21⟩) (by assumption) ?rest21
        case hy21 => intro w hSw; (try dsimp only at hSw); go_simp; (first | done | with_reducible rfl)
        (try simp only [Act.put, List.getElem_toArray, List.getElem_cons_zero, List.getElem_cons_succ, List.setIfInBounds_toArray, List.set_cons_zero, List.set_cons_succ])
        refine wpAnyH_take (i := 25) (v := ?v22) rfl (by kernel_rfl) (by kernel_rfl) (by kernel_rfl) (fun _ _ _ h => h) (Or.inl ⟨by kernel_rfl, ?hy22⟩) (by assumption) ?rest22
        case hy22 => intro w hSw; (try dsimp only at hSw); go_simp; (first | done | with_reducible rfl)
        (try simp only [Act.put, List.getElem_toArray, List.getElem_cons_zero, List.getElem_cons_succ, List.setIfInBounds_toArray, List.set_cons_zero, List.set_cons_succ])
        refine wpAnyH_done (by kernel_rfl) ?_ _
        go_wp2_with fail
        go_ret
        exact ⟨rfl, HBX.out.trans (HBD.out.mono HBX.out.size)⟩
      · exact absurd (HKD.out l hl c hc) hn
    · have hex : ∃ l ∈ cs, ∃ c ∈ l, ¬ (1 ≤ c.kd ∧ c.kd ≤ 7) := by
        refine Classical.byContradiction fun hno => hkd fun l hl c hc => ?_
        exact Classical.byContradiction fun hn => hno ⟨l, hl, c, hc, hn⟩
      have PN := Lib.hid (sc_print_none st rm _ cs pp ps.length pk tp ts.length tk x1 (HC.out.below HW1.out) (by have := HG.out.1; omega) (fun l hl => by have := HG.out.2.1 l hl; omega) (by
        obtain ⟨l, hl, c, hc, hn⟩ := hex
        exact ⟨l, hl, c, hc, wdK_none hn⟩))
      have HEX := Lib.hid hex
      clear hex hkd
      go_wp2_with fail
      refine PN.out.mono ?_
      rintro e x2 ⟨rfl, hb2⟩
      have HB2 := Lib.hid (HB1.out.trans (hb2.mono HB1.out.size))
      have HW2 := Lib.hid (HB0.out.trans (HB2.out.mono HB0.out.size))
      clear hb2 m0 m1 m2 m3 m4
      obtain ⟨m0, m1, m2, m3, m4⟩ := HF.out x2 HB2.out
      go_wp2_with fail
      refine (LK.out _).mono ?_
      rintro e x3 ⟨rfl, hb3⟩
      have HB3 := Lib.hid (HB2.out.trans (hb3.mono HB2.out.size))
      have HW3 := Lib.hid (HB0.out.trans (HB3.out.mono HB0.out.size))
      clear hb3 m0 m1 m2 m3 m4
      go_wp2_with fail
      refine (LI.out _ HW3.out).mono ?_
      rintro e x4 ⟨hli, hb4⟩
      rcases hli with ⟨hall, -⟩ | ⟨-, rfl⟩
      · obtain ⟨l, hl, c, hc, hn⟩ := HEX.out
        exact absurd (hall l hl c hc) hn
      · have HW4 := Lib.hid (HW3.out.trans (hb4.mono HW3.out.size))
        clear hb4
        go_wp2_with fail
        refine (LV.out _ HW4.out).mono ?_
        rintro e x5 ⟨rfl, hb5⟩
        have HB5 := Lib.hid (HW4.out.trans (hb5.mono HW4.out.size))
        clear hb5
        go_wp2_with fail
        go_ret
        exact ⟨rfl, HB5.out⟩
theorem walk (W : World) (st rm : Int) (cv : Value) (cs : List (List Cl)) (pp tp : Option Addr) (pk tk : Nat) (ps ts : List Int) (hI : i64r st ∧ i64r rm) (hC : RowCC W cv cs) (hP : RowI W pp ps.length ps) (hQ : RowI W tp ts.length ts)
    (hcl : cs.length ≤ 1048576) (hll : ∀ l ∈ cs, l.length ≤ 1048576) (hbk : ps.length + ts.length + bulkC cs ≤ 1048576) (hm : ∃ m, W.cell? ⟨1, 0, none⟩ = some (.int .i64 m)) (hL : laidMet Tryd.prog Rows.scriptPrintsUptoRow.laid W) :
    Calls Tryd.prog 3 #[.agg #[.int .i64 st, .int .i64 rm, cv, .slice pp ps.length pk, .slice tp ts.length tk]] W fun e W' => e = .returned (.bool true) ∧ Below W.heap.size W W' := by
  have hT : Lib.TabIs Tryd.prog W "internal/strconv.uint64pow10" .u64 Lib.pow10Tab := sw_pow10_head (laidMet.tail (laidMet.tail hL))
  have e3 : EvAt W 3 := sw_ev (laidMet.tail (laidMet.tail (laidMet.tail (laidMet.tail hL)))) (by kernel_rfl) (by kernel_rfl)
  have e2 : EvAt W 2 := sw_ev (laidMet.tail (laidMet.tail (laidMet.tail (laidMet.tail (laidMet.tail hL))))) (by kernel_rfl) (by kernel_rfl)
  have h3 : 3 < W.heap.size := by obtain ⟨ev, h, -⟩ := e3; have := block_lt_of_cell h; simpa using this
  exact main W st rm cv cs pp tp pk tk ps ts hI.1 hI.2 hC hP hQ (by omega) (fun l hl => by have := hll l hl; omega) (by omega) hm (by omega) ⟨e2, e3, h3⟩ hT
end scriptPrints
end Go.Proofs.YtoejflnlkapkiaaDoor
