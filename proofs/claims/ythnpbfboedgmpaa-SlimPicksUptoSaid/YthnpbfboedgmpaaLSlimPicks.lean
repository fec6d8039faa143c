/- SlimPicks: any script with the first of its picks, with picks in rounds, and copied. By program (genlsl.py). -/
import Derived.Test.YthnpbfboedgmpaaSlj
import Derived.Test.YthnpbfboedgmpaaSlv
import Derived.Deep.DeepCutAuto
namespace Go.Proofs.Ythnpbfboedgmpaa
open Go.ChangeShapes Go.WideShapes Go.ChangeAt Go.RowKit
set_option linter.unusedVariables false
set_option linter.unusedSimpArgs false
/-- A script's rows, as they are told. -/
def ScV (lo hi : Nat) (w : World) (cs : List (List Cl)) (ps ts : List Int) (c : Option Addr) (k : Nat) (p : Option Addr) (j : Nat) (t : Option Addr) (l : Nat) : Prop :=
  RKK (fun x => lo ≤ x ∧ x < hi) w (.slice c cs.length k) cs ∧ PK (fun x => lo ≤ x ∧ x < hi) w (.slice p ps.length j) ps ∧ PK (fun x => lo ≤ x ∧ x < hi) w (.slice t ts.length l) ts
theorem ScV.of {lo : Nat} {w : World} {cs : List (List Cl)} {ps ts : List Int} {c p t : Option Addr} {k j l : Nat} (h1 : RKK (fun x => lo ≤ x) w (.slice c cs.length k) cs) (h2 : PK (fun x => lo ≤ x) w (.slice p ps.length j) ps) (h3 : PK (fun x => lo ≤ x) w (.slice t ts.length l) ts) : ScV lo w.heap.size w cs ps ts c k p j t l :=
  ⟨h1.mono (fun _ hx hk => ⟨hk, hx⟩), h2.mono (fun _ hx hk => ⟨hk, hx⟩), h3.mono (fun _ hx hk => ⟨hk, hx⟩)⟩
theorem ScV.below {lo hi : Nat} {w w' : World} {cs : List (List Cl)} {ps ts : List Int} {c p t : Option Addr} {k j l : Nat} (h : ScV lo hi w cs ps ts c k p j t l) (hb : Below w.heap.size w w') : ScV lo hi w' cs ps ts c k p j t l :=
  ⟨h.1.keep (Ex.of_below hb), h.2.1.keep (Ex.of_below hb), h.2.2.keep (Ex.of_below hb)⟩
theorem ScV.set5 {lo hi : Nat} {w : World} {cs : List (List Cl)} {ps ts : List Int} {c p t : Option Addr} {k j l b : Nat} (h : ScV lo hi w cs ps ts c k p j t l) (hb : b < lo ∨ hi ≤ b) (a0 a1 a2 a3 a4 : Value) :
    ScV lo hi (((((w.setCell ⟨b, 0, none⟩ a0).setCell ⟨b, 1, none⟩ a1).setCell ⟨b, 2, none⟩ a2).setCell ⟨b, 3, none⟩ a3).setCell ⟨b, 4, none⟩ a4) cs ps ts c k p j t l :=
  have hn : ¬ (lo ≤ b ∧ b < hi) := by omega
  ⟨h.1.keep (s5_exL hn), h.2.1.keep (s5_exL hn), h.2.2.keep (s5_exL hn)⟩
def Rws (w : World) (cs : List (List Cl)) (ps ts : List Int) (c : Option Addr) (k : Nat) (p t : Option Addr) : Prop := RowCC w (.slice c cs.length k) cs ∧ RowI w p ps.length ps ∧ RowI w t ts.length ts
theorem ScV.rows {lo hi : Nat} {w : World} {cs : List (List Cl)} {ps ts : List Int} {c p t : Option Addr} {k j l : Nat} (h : ScV lo hi w cs ps ts c k p j t l) : Rws w cs ps ts c k p t := ⟨h.1.row, h.2.1.rowI, h.2.2.rowI⟩
theorem Rws.below {w w' : World} {cs : List (List Cl)} {ps ts : List Int} {c p t : Option Addr} {k : Nat} (h : Rws w cs ps ts c k p t) (hb : Below w.heap.size w w') : Rws w' cs ps ts c k p t := ⟨h.1.below hb, h.2.1.below hb, h.2.2.below hb⟩
def Bx5 (w : World) (b : Nat) (x0 x1 x2 x3 x4 : Value) : Prop := w.heap[b]? = some (.cells #[x0, x1, x2, x3, x4] 25 (0, 0))
theorem Bx5.lt {w : World} {b : Nat} {x0 x1 x2 x3 x4 : Value} (h : Bx5 w b x0 x1 x2 x3 x4) : b < w.heap.size := (Array.getElem?_eq_some_iff.1 h).1
theorem Bx5.below {w w' : World} {b : Nat} {x0 x1 x2 x3 x4 : Value} (h : Bx5 w b x0 x1 x2 x3 x4) (hb : Below w.heap.size w w') : Bx5 w' b x0 x1 x2 x3 x4 := (hb.block b h.lt).trans h
theorem Bx5.set5 {w : World} {b b' : Nat} {x0 x1 x2 x3 x4 : Value} (h : Bx5 w b x0 x1 x2 x3 x4) (hn : b ≠ b') (a0 a1 a2 a3 a4 : Value) :
    Bx5 (((((w.setCell ⟨b', 0, none⟩ a0).setCell ⟨b', 1, none⟩ a1).setCell ⟨b', 2, none⟩ a2).setCell ⟨b', 3, none⟩ a3).setCell ⟨b', 4, none⟩ a4) b x0 x1 x2 x3 x4 := by
  unfold Bx5
  rw [heap_setCell_other _ _ _ _ hn, heap_setCell_other _ _ _ _ hn, heap_setCell_other _ _ _ _ hn, heap_setCell_other _ _ _ _ hn, heap_setCell_other _ _ _ _ hn]
  exact h
namespace slimPicks
set_option maxRecDepth 100000 in
set_option maxHeartbeats 32000000 in
theorem main (W : World) (st rm : Int) (cp pp tp : Option Addr) (ck pk tk : Nat) (cs : List (List Cl)) (ps ts : List Int) (n r : Int) (hC : RowCC W (.slice cp cs.length ck) cs) (hP : RowI W pp ps.length ps) (hT : RowI W tp ts.length ts) (hs : Sml cs ps ts) (hpk : ps.length ≤ pk)
    (hn : -9223372036854775808 ≤ n ∧ n ≤ 9223372036854775807) (hr : -9223372036854775808 ≤ r ∧ r ≤ 9223372036854775807) :
    Calls Try.prog 3 #[.agg #[.int .i64 st, .int .i64 rm, .slice cp cs.length ck, .slice pp ps.length pk, .slice tp ts.length tk], .int .i64 n, .int .i64 r] W fun e W' => e = .returned (.bool true) ∧ Below W.heap.size W W' := by
  have LV := Lib.hid (fun w => live46 w)
  obtain ⟨w0, hw0, r0, hB0, hs0⟩ := boxG W #[.int .i64 st, .int .i64 rm, .slice cp cs.length ck, .slice pp ps.length pk, .slice tp ts.length tk] 25
  obtain ⟨m0, m1, m2, m3, m4⟩ := sc_cells5 r0
  have HB0 := Lib.hid hB0
  have HF := Lib.hid (fun (w : World) (h : Below w0.heap.size w0 w) => sc_cells5 ((h.block W.heap.size (by omega)).trans r0))
  have HR0 := Lib.hid (show Rws w0 cs ps ts cp ck pp tp from ⟨hC.below hB0, hP.below hB0, hT.below hB0⟩)
  have HS := Lib.hid hs
  have HPK := Lib.hid hpk
  have HN := Lib.hid (And.intro hn hr)
  clear r0 hB0 hC hP hT hs hpk hn hr
  by_cases hbig : 5000 < ps.length ∨ 100 < cs.length
  · have hcase : (decide ((5000 : Int) < (ps.length : Int)) = true ∧ decide (5000 < ps.length) = true) ∨ (decide ((5000 : Int) < (ps.length : Int)) = false ∧ decide (5000 < ps.length) = false ∧ decide ((100 : Int) < (cs.length : Int)) = true ∧ decide (100 < cs.length) = true) := by
      by_cases h : 5000 < ps.length
      · exact .inl ⟨decide_eq_true (by omega), decide_eq_true h⟩
      · exact .inr ⟨decide_eq_false (by omega), decide_eq_false h, decide_eq_true (by omega), decide_eq_true (by omega)⟩
    clear hbig
    rcases hcase with ⟨d1, d1'⟩ | ⟨d1, d1', d2, d2'⟩
    all_goals
      go_enter Try.func3, Try.ntmps3
      go_wp2_with fail
      refine (LV.out _).mono ?_
      rintro e x1 ⟨rfl, hb⟩
      have HB1 := Lib.hid (HB0.out.trans (hb.mono HB0.out.size))
      clear hb
      go_wp2_with fail
      go_ret
      exact ⟨rfl, HB1.out⟩
  have d1 : decide ((5000 : Int) < (ps.length : Int)) = false := decide_eq_false (by omega)
  have d2 : decide ((100 : Int) < (cs.length : Int)) = false := decide_eq_false (by omega)
  have d1' : decide (5000 < ps.length) = false := decide_eq_false (by omega)
  have d2' : decide (100 < cs.length) = false := decide_eq_false (by omega)
  have HD := Lib.hid (fun (w : World) (h : Below w0.heap.size w0 w) => slim_head st rm cp pp tp ck pk tk cs ps ts n w (HR0.out.below h).1 (HR0.out.below h).2.1 (HR0.out.below h).2.2 HS.out HPK.out HN.out.1)
  have CN := Lib.hid (fun (w : World) (h : Below w0.heap.size w0 w) => slim_clone st rm cp pp tp ck pk tk cs ps ts w (HR0.out.below h).1 (HR0.out.below h).2.1 (HR0.out.below h).2.2 HS.out)
  unfold ScrG at HD CN
  obtain ⟨qs, hqs⟩ : ∃ qs, ps.take (clampN n ps.length) = qs := ⟨_, rfl⟩
  rw [hqs] at HD
  have HQS := Lib.hid hqs
  clear hqs
  have HSM := Lib.hid (show ps.length ≤ 5000 ∧ cs.length ≤ 100 by omega)
  clear hbig hs0
  go_enter Try.func3, Try.ntmps3
  go_upto_region 3 with fail
  clear hw0 m0 m1 m2 m3 m4 d1 d2 d1' d2'
  go_cut [7, 8] (fun s7 s8 wx => ∃ (R T : Nat) (c1 : Option Addr) (k1 : Nat) (p1 : Option Addr) (j1 : Nat) (t1 : Option Addr) (l1 : Nat) (c2 : Option Addr) (k2 : Nat) (p2 : Option Addr) (j2 : Nat) (t2 : Option Addr) (l2 : Nat), s7 = .pointer (some ⟨R, 0, none⟩) ∧ s8 = .pointer (some ⟨T, 0, none⟩) ∧
    Bx5 wx R (.int .i64 st) (.int .i64 rm) (.slice c1 cs.length k1) (.slice p1 qs.length j1) (.slice t1 ts.length l1) ∧ Bx5 wx T (.int .i64 st) (.int .i64 rm) (.slice c2 cs.length k2) (.slice p2 ps.length j2) (.slice t2 ts.length l2) ∧
    Rws wx cs qs ts c1 k1 p1 t1 ∧ Rws wx cs ps ts c2 k2 p2 t2 ∧ Below w0.heap.size w0 wx)
  case first =>
    have Bk : Below w0.heap.size w0 w0.drew := (Below.refl _ _).drew
    refine wp_region_held_drew (S := fun w' => Below w0.heap.size w0 w') (by kernel_rfl) Bk (fun hHeld => ?_)
    generalize w0.drew = u at *
    refine wpAnyH_take (i := 0) (v := ?v41) rfl (by kernel_rfl) (by kernel_rfl) (by kernel_rfl) (fun _ _ _ h => h) (Or.inl ⟨by kernel_rfl, ?hy41⟩) (by assumption) ?rest41
    case hy41 => intro w hSw; (try dsimp only at hSw); obtain ⟨p0, p1, p2, p3, p4⟩ := HF.out w hSw; go_simp; (first | done | with_reducible rfl)
    (try simp only [Act.put, List.getElem_toArray, List.getElem_cons_zero, List.getElem_cons_succ, List.setIfInBounds_toArray, List.set_cons_zero, List.set_cons_succ])
    refine wpAnyH_take (i := 1) (v := ?v42) rfl (by kernel_rfl) (by kernel_rfl) (by kernel_rfl) (fun _ _ _ h => h) (Or.inl ⟨by kernel_rfl, ?hy42⟩) (by assumption) ?rest42
    case hy42 => intro w hSw; (try dsimp only at hSw); go_simp; (first | done | with_reducible rfl)
    (try simp only [Act.put, List.getElem_toArray, List.getElem_cons_zero, List.getElem_cons_succ, List.setIfInBounds_toArray, List.set_cons_zero, List.set_cons_succ])
    refine wpAnyH_take (i := 3) (v := ?v43) rfl (by kernel_rfl) (by kernel_rfl) (by kernel_rfl) (fun _ _ _ h => h) (Or.inl ⟨by kernel_rfl, ?hy43⟩) (by assumption) ?rest43
    case hy43 => intro w hSw; (try dsimp only at hSw); obtain ⟨p0, p1, p2, p3, p4⟩ := HF.out w hSw; go_simp; (first | done | with_reducible rfl)
    (try simp only [Act.put, List.getElem_toArray, List.getElem_cons_zero, List.getElem_cons_succ, List.setIfInBounds_toArray, List.set_cons_zero, List.set_cons_succ])
    refine wpAnyH_ready (rs := [2, 5, 6]) (by kernel_rfl) (by simp) ?_
    refine AllReadyH.cons rfl (fun K hK => ?_) ?_
    · go_simp
      refine (HD.out u Bk).mono ?_
      rintro e u' ⟨c1, k1, p1, j1, t1, l1, rfl, hk, hp, ht, hb⟩
      have hnew := ScV.of (lo := u.heap.size) hk hp ht
      have Bk2 := Bk.trans (hb.mono Bk.size)
      obtain ⟨lo1, hlo1⟩ : ∃ lo, u.heap.size = lo := ⟨_, rfl⟩
      obtain ⟨hi1, hhi1⟩ : ∃ hi, u'.heap.size = hi := ⟨_, rfl⟩
      have hh1 : hi1 ≤ u'.heap.size := by omega
      rw [hlo1, hhi1] at hnew
      have hV1 := hnew
      (try go_wp2_with fail)
      refine hK.out _ _ Bk2 (fun hHeld2 => ?_)
      clear hK K hHeld Bk
      have Bk := Bk2
      have hHeld := hHeld2
      clear hHeld2 Bk2
      clear hk hp ht hb hnew hlo1 hhi1
      generalize u' = u at *
      (try simp only [Act.put, List.getElem_toArray, List.getElem_cons_zero, List.getElem_cons_succ, List.setIfInBounds_toArray, List.set_cons_zero, List.set_cons_succ])
      refine wpAnyH_ready (rs := [4, 5, 6]) (by kernel_rfl) (by simp) ?_
      refine AllReadyH.cons rfl (fun K hK => ?_) ?_
      · go_simp
        refine (CN.out u Bk).mono ?_
        rintro e u' ⟨c2, k2, p2, j2, t2, l2, rfl, hk, hp, ht, hb⟩
        have hnew := ScV.of (lo := u.heap.size) hk hp ht
        have hV1' := hV1.below hb
        have hh1' := Nat.le_trans hh1 hb.size
        have Bk2 := Bk.trans (hb.mono Bk.size)
        obtain ⟨lo2, hlo2⟩ : ∃ lo, u.heap.size = lo := ⟨_, rfl⟩
        obtain ⟨hi2, hhi2⟩ : ∃ hi, u'.heap.size = hi := ⟨_, rfl⟩
        have hh2 : hi2 ≤ u'.heap.size := by omega
        rw [hlo2, hhi2] at hnew
        have hV2 := hnew
        (try go_wp2_with fail)
        refine hK.out _ _ Bk2 (fun hHeld2 => ?_)
        clear hK K hHeld Bk hV1 hh1
        have hV1 := hV1'
        have hh1 := hh1'
        have Bk := Bk2
        have hHeld := hHeld2
        clear hHeld2 Bk2 hV1' hh1'
        clear hk hp ht hb hnew hlo2 hhi2
        generalize u' = u at *
        (try simp only [Act.put, List.getElem_toArray, List.getElem_cons_zero, List.getElem_cons_succ, List.setIfInBounds_toArray, List.set_cons_zero, List.set_cons_succ])
        refine wpAnyH_ready (rs := [5, 6]) (by kernel_rfl) (by simp) ?_
        refine AllReadyH.cons rfl (fun K hK => ?_) ?_
        · obtain ⟨u', hu', hnew, hb, hsz⟩ := boxG u #[.int .i64 0, .int .i64 0, .slice none 0 0, .slice none 0 0, .slice none 0 0] 25
          have hV1' := hV1.below hb
          have hh1' := Nat.le_trans hh1 hb.size
          have hV2' := hV2.below hb
          have hh2' := Nat.le_trans hh2 hb.size
          have Bk2 := Bk.trans (hb.mono Bk.size)
          obtain ⟨R, hR0⟩ : ∃ x, u.heap.size = x := ⟨_, rfl⟩
          have hR1 : R < lo1 ∨ hi1 ≤ R := .inr (by omega)
          have hR2 : R < lo2 ∨ hi2 ≤ R := .inr (by omega)
          have hgeR : w0.heap.size ≤ R := by have := Bk.size; omega
          have hR : Bx5 u' R (.int .i64 0) (.int .i64 0) (.slice none 0 0) (.slice none 0 0) (.slice none 0 0) := by rw [← hR0]; exact hnew
          go_simp
          (try rw [hu'])
          (try rw [hR0])
          refine hK.out _ _ Bk2 (fun hHeld2 => ?_)
          clear hK K hHeld Bk hV1 hh1 hV2 hh2
          have hV1 := hV1'
          have hh1 := hh1'
          have hV2 := hV2'
          have hh2 := hh2'
          have Bk := Bk2
          have hHeld := hHeld2
          clear hHeld2 Bk2 hV1' hh1' hV2' hh2'
          clear hnew hb hsz hu' hR0
          generalize u' = u at *
          (try simp only [Act.put, List.getElem_toArray, List.getElem_cons_zero, List.getElem_cons_succ, List.setIfInBounds_toArray, List.set_cons_zero, List.set_cons_succ])
          refine wpAnyH_ready (rs := [6]) (by kernel_rfl) (by simp) ?_
          refine AllReadyH.cons rfl (fun K hK => ?_) AllReadyH.nil
          · obtain ⟨u', hu', hnew, hb, hsz⟩ := boxG u #[.int .i64 0, .int .i64 0, .slice none 0 0, .slice none 0 0, .slice none 0 0] 25
            have hR' := hR.below hb
            have hV1' := hV1.below hb
            have hh1' := Nat.le_trans hh1 hb.size
            have hV2' := hV2.below hb
            have hh2' := Nat.le_trans hh2 hb.size
            have Bk2 := Bk.trans (hb.mono Bk.size)
            obtain ⟨T, hT0⟩ : ∃ x, u.heap.size = x := ⟨_, rfl⟩
            have hT1 : T < lo1 ∨ hi1 ≤ T := .inr (by omega)
            have hT2 : T < lo2 ∨ hi2 ≤ T := .inr (by omega)
            have hne : R ≠ T := by have := hR.lt; omega
            have hgeT : w0.heap.size ≤ T := by have := Bk.size; omega
            have hT : Bx5 u' T (.int .i64 0) (.int .i64 0) (.slice none 0 0) (.slice none 0 0) (.slice none 0 0) := by rw [← hT0]; exact hnew
            go_simp
            (try rw [hu'])
            (try rw [hT0])
            refine hK.out _ _ Bk2 (fun hHeld2 => ?_)
            clear hK K hHeld Bk hR hV1 hh1 hV2 hh2
            have hR := hR'
            have hV1 := hV1'
            have hh1 := hh1'
            have hV2 := hV2'
            have hh2 := hh2'
            have Bk := Bk2
            have hHeld := hHeld2
            clear hHeld2 Bk2 hR' hV1' hh1' hV2' hh2'
            clear hnew hb hsz hu' hT0
            generalize u' = u at *
            (try simp only [Act.put, List.getElem_toArray, List.getElem_cons_zero, List.getElem_cons_succ, List.setIfInBounds_toArray, List.set_cons_zero, List.set_cons_succ])
            refine wpAnyH_ready (rs := [7]) (by kernel_rfl) (by simp) ?_
            refine AllReadyH.cons rfl (fun K hK => ?_) AllReadyH.nil
            · obtain ⟨m0, m1, m2, m3, m4⟩ := sc_cells5 hR
              obtain ⟨f0, f1, f2, f3, f4⟩ := frz5 hR
              go_simp
              have hX2 : Bx5 _ R (.int .i64 st) (.int .i64 rm) (.slice c1 cs.length k1) (.slice p1 qs.length j1) (.slice t1 ts.length l1) := s5_row (a0 := (.int .i64 st)) (a1 := (.int .i64 rm)) (a2 := (.slice c1 cs.length k1)) (a3 := (.slice p1 qs.length j1)) (a4 := (.slice t1 ts.length l1)) hR
              have hO2 := hT.set5 (b' := R) (Ne.symm hne) (.int .i64 st) (.int .i64 rm) (.slice c1 cs.length k1) (.slice p1 qs.length j1) (.slice t1 ts.length l1)
              have hV12 := hV1.set5 (b := R) hR1 (.int .i64 st) (.int .i64 rm) (.slice c1 cs.length k1) (.slice p1 qs.length j1) (.slice t1 ts.length l1)
              have hV22 := hV2.set5 (b := R) hR2 (.int .i64 st) (.int .i64 rm) (.slice c1 cs.length k1) (.slice p1 qs.length j1) (.slice t1 ts.length l1)
              have Bk2 := s5_below (b := R) (a0 := (.int .i64 st)) (a1 := (.int .i64 rm)) (a2 := (.slice c1 cs.length k1)) (a3 := (.slice p1 qs.length j1)) (a4 := (.slice t1 ts.length l1)) Bk hgeR
              refine hK.out _ _ Bk2 (fun hHeld2 => ?_)
              clear hK K hHeld Bk hR hT hV1 hV2 m0 m1 m2 m3 m4 f0 f1 f2 f3 f4
              have hR := hX2
              have hT := hO2
              have hV1 := hV12
              have hV2 := hV22
              have Bk := Bk2
              have hHeld := hHeld2
              clear hHeld2 Bk2 hX2 hO2 hV12 hV22
              (try simp only [Act.put, List.getElem_toArray, List.getElem_cons_zero, List.getElem_cons_succ, List.setIfInBounds_toArray, List.set_cons_zero, List.set_cons_succ])
              generalize (((((u.setCell ⟨R, 0, none⟩ (.int .i64 st)).setCell ⟨R, 1, none⟩ (.int .i64 rm)).setCell ⟨R, 2, none⟩ (.slice c1 cs.length k1)).setCell ⟨R, 3, none⟩ (.slice p1 qs.length j1)).setCell ⟨R, 4, none⟩ (.slice t1 ts.length l1)) = u at *
              refine wpAnyH_ready (rs := [8]) (by kernel_rfl) (by simp) ?_
              refine AllReadyH.cons rfl (fun K hK => ?_) AllReadyH.nil
              · obtain ⟨m0, m1, m2, m3, m4⟩ := sc_cells5 hT
                obtain ⟨f0, f1, f2, f3, f4⟩ := frz5 hT
                go_simp
                have hX2 : Bx5 _ T (.int .i64 st) (.int .i64 rm) (.slice c2 cs.length k2) (.slice p2 ps.length j2) (.slice t2 ts.length l2) := s5_row (a0 := (.int .i64 st)) (a1 := (.int .i64 rm)) (a2 := (.slice c2 cs.length k2)) (a3 := (.slice p2 ps.length j2)) (a4 := (.slice t2 ts.length l2)) hT
                have hO2 := hR.set5 (b' := T) hne (.int .i64 st) (.int .i64 rm) (.slice c2 cs.length k2) (.slice p2 ps.length j2) (.slice t2 ts.length l2)
                have hV12 := hV1.set5 (b := T) hT1 (.int .i64 st) (.int .i64 rm) (.slice c2 cs.length k2) (.slice p2 ps.length j2) (.slice t2 ts.length l2)
                have hV22 := hV2.set5 (b := T) hT2 (.int .i64 st) (.int .i64 rm) (.slice c2 cs.length k2) (.slice p2 ps.length j2) (.slice t2 ts.length l2)
                have Bk2 := s5_below (b := T) (a0 := (.int .i64 st)) (a1 := (.int .i64 rm)) (a2 := (.slice c2 cs.length k2)) (a3 := (.slice p2 ps.length j2)) (a4 := (.slice t2 ts.length l2)) Bk hgeT
                refine hK.out _ _ Bk2 (fun hHeld2 => ?_)
                clear hK K hHeld Bk hR hT hV1 hV2 m0 m1 m2 m3 m4 f0 f1 f2 f3 f4
                have hT := hX2
                have hR := hO2
                have hV1 := hV12
                have hV2 := hV22
                have Bk := Bk2
                have hHeld := hHeld2
                clear hHeld2 Bk2 hX2 hO2 hV12 hV22
                (try simp only [Act.put, List.getElem_toArray, List.getElem_cons_zero, List.getElem_cons_succ, List.setIfInBounds_toArray, List.set_cons_zero, List.set_cons_succ])
                generalize (((((u.setCell ⟨T, 0, none⟩ (.int .i64 st)).setCell ⟨T, 1, none⟩ (.int .i64 rm)).setCell ⟨T, 2, none⟩ (.slice c2 cs.length k2)).setCell ⟨T, 3, none⟩ (.slice p2 ps.length j2)).setCell ⟨T, 4, none⟩ (.slice t2 ts.length l2)) = u at *
                refine wpAnyH_done (by kernel_rfl) ?_ _
                go_wp2_with fail
                go_meet
                case rel => exact ⟨R, T, c1, k1, p1, j1, t1, l1, c2, k2, p2, j2, t2, l2, rfl, rfl, hR, hT, hV1.rows, hV2.rows, Bk⟩
        refine AllReadyH.cons rfl (fun K hK => ?_) AllReadyH.nil
        · obtain ⟨u', hu', hnew, hb, hsz⟩ := boxG u #[.int .i64 0, .int .i64 0, .slice none 0 0, .slice none 0 0, .slice none 0 0] 25
          have hV1' := hV1.below hb
          have hh1' := Nat.le_trans hh1 hb.size
          have hV2' := hV2.below hb
          have hh2' := Nat.le_trans hh2 hb.size
          have Bk2 := Bk.trans (hb.mono Bk.size)
          obtain ⟨T, hT0⟩ : ∃ x, u.heap.size = x := ⟨_, rfl⟩
          have hT1 : T < lo1 ∨ hi1 ≤ T := .inr (by omega)
          have hT2 : T < lo2 ∨ hi2 ≤ T := .inr (by omega)
          have hgeT : w0.heap.size ≤ T := by have := Bk.size; omega
          have hT : Bx5 u' T (.int .i64 0) (.int .i64 0) (.slice none 0 0) (.slice none 0 0) (.slice none 0 0) := by rw [← hT0]; exact hnew
          go_simp
          (try rw [hu'])
          (try rw [hT0])
          refine hK.out _ _ Bk2 (fun hHeld2 => ?_)
          clear hK K hHeld Bk hV1 hh1 hV2 hh2
          have hV1 := hV1'
          have hh1 := hh1'
          have hV2 := hV2'
          have hh2 := hh2'
          have Bk := Bk2
          have hHeld := hHeld2
          clear hHeld2 Bk2 hV1' hh1' hV2' hh2'
          clear hnew hb hsz hu' hT0
          generalize u' = u at *
          (try simp only [Act.put, List.getElem_toArray, List.getElem_cons_zero, List.getElem_cons_succ, List.setIfInBounds_toArray, List.set_cons_zero, List.set_cons_succ])
          refine wpAnyH_ready (rs := [5]) (by kernel_rfl) (by simp) ?_
          refine AllReadyH.cons rfl (fun K hK => ?_) AllReadyH.nil
          · obtain ⟨u', hu', hnew, hb, hsz⟩ := boxG u #[.int .i64 0, .int .i64 0, .slice none 0 0, .slice none 0 0, .slice none 0 0] 25
            have hT' := hT.below hb
            have hV1' := hV1.below hb
            have hh1' := Nat.le_trans hh1 hb.size
            have hV2' := hV2.below hb
            have hh2' := Nat.le_trans hh2 hb.size
            have Bk2 := Bk.trans (hb.mono Bk.size)
            obtain ⟨R, hR0⟩ : ∃ x, u.heap.size = x := ⟨_, rfl⟩
            have hR1 : R < lo1 ∨ hi1 ≤ R := .inr (by omega)
            have hR2 : R < lo2 ∨ hi2 ≤ R := .inr (by omega)
            have hne : R ≠ T := by have := hT.lt; omega
            have hgeR : w0.heap.size ≤ R := by have := Bk.size; omega
            have hR : Bx5 u' R (.int .i64 0) (.int .i64 0) (.slice none 0 0) (.slice none 0 0) (.slice none 0 0) := by rw [← hR0]; exact hnew
            go_simp
            (try rw [hu'])
            (try rw [hR0])
            refine hK.out _ _ Bk2 (fun hHeld2 => ?_)
            clear hK K hHeld Bk hT hV1 hh1 hV2 hh2
            have hT := hT'
            have hV1 := hV1'
            have hh1 := hh1'
            have hV2 := hV2'
            have hh2 := hh2'
            have Bk := Bk2
            have hHeld := hHeld2
            clear hHeld2 Bk2 hT' hV1' hh1' hV2' hh2'
            clear hnew hb hsz hu' hR0
            generalize u' = u at *
            (try simp only [Act.put, List.getElem_toArray, List.getElem_cons_zero, List.getElem_cons_succ, List.setIfInBounds_toArray, List.set_cons_zero, List.set_cons_succ])
            refine wpAnyH_ready (rs := [7]) (by kernel_rfl) (by simp) ?_
            refine AllReadyH.cons rfl (fun K hK => ?_) AllReadyH.nil
            · obtain ⟨m0, m1, m2, m3, m4⟩ := sc_cells5 hR
              obtain ⟨f0, f1, f2, f3, f4⟩ := frz5 hR
              go_simp
              have hX2 : Bx5 _ R (.int .i64 st) (.int .i64 rm) (.slice c1 cs.length k1) (.slice p1 qs.length j1) (.slice t1 ts.length l1) := s5_row (a0 := (.int .i64 st)) (a1 := (.int .i64 rm)) (a2 := (.slice c1 cs.length k1)) (a3 := (.slice p1 qs.length j1)) (a4 := (.slice t1 ts.length l1)) hR
              have hO2 := hT.set5 (b' := R) (Ne.symm hne) (.int .i64 st) (.int .i64 rm) (.slice c1 cs.length k1) (.slice p1 qs.length j1) (.slice t1 ts.length l1)
              have hV12 := hV1.set5 (b := R) hR1 (.int .i64 st) (.int .i64 rm) (.slice c1 cs.length k1) (.slice p1 qs.length j1) (.slice t1 ts.length l1)
              have hV22 := hV2.set5 (b := R) hR2 (.int .i64 st) (.int .i64 rm) (.slice c1 cs.length k1) (.slice p1 qs.length j1) (.slice t1 ts.length l1)
              have Bk2 := s5_below (b := R) (a0 := (.int .i64 st)) (a1 := (.int .i64 rm)) (a2 := (.slice c1 cs.length k1)) (a3 := (.slice p1 qs.length j1)) (a4 := (.slice t1 ts.length l1)) Bk hgeR
              refine hK.out _ _ Bk2 (fun hHeld2 => ?_)
              clear hK K hHeld Bk hR hT hV1 hV2 m0 m1 m2 m3 m4 f0 f1 f2 f3 f4
              have hR := hX2
              have hT := hO2
              have hV1 := hV12
              have hV2 := hV22
              have Bk := Bk2
              have hHeld := hHeld2
              clear hHeld2 Bk2 hX2 hO2 hV12 hV22
              (try simp only [Act.put, List.getElem_toArray, List.getElem_cons_zero, List.getElem_cons_succ, List.setIfInBounds_toArray, List.set_cons_zero, List.set_cons_succ])
              generalize (((((u.setCell ⟨R, 0, none⟩ (.int .i64 st)).setCell ⟨R, 1, none⟩ (.int .i64 rm)).setCell ⟨R, 2, none⟩ (.slice c1 cs.length k1)).setCell ⟨R, 3, none⟩ (.slice p1 qs.length j1)).setCell ⟨R, 4, none⟩ (.slice t1 ts.length l1)) = u at *
              refine wpAnyH_ready (rs := [8]) (by kernel_rfl) (by simp) ?_
              refine AllReadyH.cons rfl (fun K hK => ?_) AllReadyH.nil
              · obtain ⟨m0, m1, m2, m3, m4⟩ := sc_cells5 hT
                obtain ⟨f0, f1, f2, f3, f4⟩ := frz5 hT
                go_simp
                have hX2 : Bx5 _ T (.int .i64 st) (.int .i64 rm) (.slice c2 cs.length k2) (.slice p2 ps.length j2) (.slice t2 ts.length l2) := s5_row (a0 := (.int .i64 st)) (a1 := (.int .i64 rm)) (a2 := (.slice c2 cs.length k2)) (a3 := (.slice p2 ps.length j2)) (a4 := (.slice t2 ts.length l2)) hT
                have hO2 := hR.set5 (b' := T) hne (.int .i64 st) (.int .i64 rm) (.slice c2 cs.length k2) (.slice p2 ps.length j2) (.slice t2 ts.length l2)
                have hV12 := hV1.set5 (b := T) hT1 (.int .i64 st) (.int .i64 rm) (.slice c2 cs.length k2) (.slice p2 ps.length j2) (.slice t2 ts.length l2)
                have hV22 := hV2.set5 (b := T) hT2 (.int .i64 st) (.int .i64 rm) (.slice c2 cs.length k2) (.slice p2 ps.length j2) (.slice t2 ts.length l2)
                have Bk2 := s5_below (b := T) (a0 := (.int .i64 st)) (a1 := (.int .i64 rm)) (a2 := (.slice c2 cs.length k2)) (a3 := (.slice p2 ps.length j2)) (a4 := (.slice t2 ts.length l2)) Bk hgeT
                refine hK.out _ _ Bk2 (fun hHeld2 => ?_)
                clear hK K hHeld Bk hR hT hV1 hV2 m0 m1 m2 m3 m4 f0 f1 f2 f3 f4
                have hT := hX2
                have hR := hO2
                have hV1 := hV12
                have hV2 := hV22
                have Bk := Bk2
                have hHeld := hHeld2
                clear hHeld2 Bk2 hX2 hO2 hV12 hV22
                (try simp only [Act.put, List.getElem_toArray, List.getElem_cons_zero, List.getElem_cons_succ, List.setIfInBounds_toArray, List.set_cons_zero, List.set_cons_succ])
                generalize (((((u.setCell ⟨T, 0, none⟩ (.int .i64 st)).setCell ⟨T, 1, none⟩ (.int .i64 rm)).setCell ⟨T, 2, none⟩ (.slice c2 cs.length k2)).setCell ⟨T, 3, none⟩ (.slice p2 ps.length j2)).setCell ⟨T, 4, none⟩ (.slice t2 ts.length l2)) = u at *
                refine wpAnyH_done (by kernel_rfl) ?_ _
                go_wp2_with fail
                go_meet
                case rel => exact ⟨R, T, c1, k1, p1, j1, t1, l1, c2, k2, p2, j2, t2, l2, rfl, rfl, hR, hT, hV1.rows, hV2.rows, Bk⟩
      refine AllReadyH.cons rfl (fun K hK => ?_) ?_
      · obtain ⟨u', hu', hnew, hb, hsz⟩ := boxG u #[.int .i64 0, .int .i64 0, .slice none 0 0, .slice none 0 0, .slice none 0 0] 25
        have hV1' := hV1.below hb
        have hh1' := Nat.le_trans hh1 hb.size
        have Bk2 := Bk.trans (hb.mono Bk.size)
        obtain ⟨R, hR0⟩ : ∃ x, u.heap.size = x := ⟨_, rfl⟩
        have hR1 : R < lo1 ∨ hi1 ≤ R := .inr (by omega)
        have hgeR : w0.heap.size ≤ R := by have := Bk.size; omega
        have hR : Bx5 u' R (.int .i64 0) (.int .i64 0) (.slice none 0 0) (.slice none 0 0) (.slice none 0 0) := by rw [← hR0]; exact hnew
        go_simp
        (try rw [hu'])
        (try rw [hR0])
        refine hK.out _ _ Bk2 (fun hHeld2 => ?_)
        clear hK K hHeld Bk hV1 hh1
        have hV1 := hV1'
        have hh1 := hh1'
        have Bk := Bk2
        have hHeld := hHeld2
        clear hHeld2 Bk2 hV1' hh1'
        clear hnew hb hsz hu' hR0
        generalize u' = u at *
        (try simp only [Act.put, List.getElem_toArray, List.getElem_cons_zero, List.getElem_cons_succ, List.setIfInBounds_toArray, List.set_cons_zero, List.set_cons_succ])
        refine wpAnyH_ready (rs := [4, 6]) (by kernel_rfl) (by simp) ?_
        refine AllReadyH.cons rfl (fun K hK => ?_) ?_
        · go_simp
          refine (CN.out u Bk).mono ?_
          rintro e u' ⟨c2, k2, p2, j2, t2, l2, rfl, hk, hp, ht, hb⟩
          have hnew := ScV.of (lo := u.heap.size) hk hp ht
          have hR2 : R < u.heap.size ∨ u'.heap.size ≤ R := .inl hR.lt
          have hR' := hR.below hb
          have hV1' := hV1.below hb
          have hh1' := Nat.le_trans hh1 hb.size
          have Bk2 := Bk.trans (hb.mono Bk.size)
          obtain ⟨lo2, hlo2⟩ : ∃ lo, u.heap.size = lo := ⟨_, rfl⟩
          obtain ⟨hi2, hhi2⟩ : ∃ hi, u'.heap.size = hi := ⟨_, rfl⟩
          have hh2 : hi2 ≤ u'.heap.size := by omega
          rw [hlo2, hhi2] at hnew hR2
          have hV2 := hnew
          (try go_wp2_with fail)
          refine hK.out _ _ Bk2 (fun hHeld2 => ?_)
          clear hK K hHeld Bk hR hV1 hh1
          have hR := hR'
          have hV1 := hV1'
          have hh1 := hh1'
          have Bk := Bk2
          have hHeld := hHeld2
          clear hHeld2 Bk2 hR' hV1' hh1'
          clear hk hp ht hb hnew hlo2 hhi2
          generalize u' = u at *
          (try simp only [Act.put, List.getElem_toArray, List.getElem_cons_zero, List.getElem_cons_succ, List.setIfInBounds_toArray, List.set_cons_zero, List.set_cons_succ])
          refine wpAnyH_ready (rs := [6]) (by kernel_rfl) (by simp) ?_
          refine AllReadyH.cons rfl (fun K hK => ?_) AllReadyH.nil
          · obtain ⟨u', hu', hnew, hb, hsz⟩ := boxG u #[.int .i64 0, .int .i64 0, .slice none 0 0, .slice none 0 0, .slice none 0 0] 25
            have hR' := hR.below hb
            have hV1' := hV1.below hb
            have hh1' := Nat.le_trans hh1 hb.size
            have hV2' := hV2.below hb
            have hh2' := Nat.le_trans hh2 hb.size
            have Bk2 := Bk.trans (hb.mono Bk.size)
            obtain ⟨T, hT0⟩ : ∃ x, u.heap.size = x := ⟨_, rfl⟩
            have hT1 : T < lo1 ∨ hi1 ≤ T := .inr (by omega)
            have hT2 : T < lo2 ∨ hi2 ≤ T := .inr (by omega)
            have hne : R ≠ T := by have := hR.lt; omega
            have hgeT : w0.heap.size ≤ T := by have := Bk.size; omega
            have hT : Bx5 u' T (.int .i64 0) (.int .i64 0) (.slice none 0 0) (.slice none 0 0) (.slice none 0 0) := by rw [← hT0]; exact hnew
            go_simp
            (try rw [hu'])
            (try rw [hT0])
            refine hK.out _ _ Bk2 (fun hHeld2 => ?_)
            clear hK K hHeld Bk hR hV1 hh1 hV2 hh2
            have hR := hR'
            have hV1 := hV1'
            have hh1 := hh1'
            have hV2 := hV2'
            have hh2 := hh2'
            have Bk := Bk2
            have hHeld := hHeld2
            clear hHeld2 Bk2 hR' hV1' hh1' hV2' hh2'
            clear hnew hb hsz hu' hT0
            generalize u' = u at *
            (try simp only [Act.put, List.getElem_toArray, List.getElem_cons_zero, List.getElem_cons_succ, List.setIfInBounds_toArray, List.set_cons_zero, List.set_cons_succ])
            refine wpAnyH_ready (rs := [7]) (by kernel_rfl) (by simp) ?_
            refine AllReadyH.cons rfl (fun K hK => ?_) AllReadyH.nil
            · obtain ⟨m0, m1, m2, m3, m4⟩ := sc_cells5 hR
              obtain ⟨f0, f1, f2, f3, f4⟩ := frz5 hR
              go_simp
              have hX2 : Bx5 _ R (.int .i64 st) (.int .i64 rm) (.slice c1 cs.length k1) (.slice p1 qs.length j1) (.slice t1 ts.length l1) := s5_row (a0 := (.int .i64 st)) (a1 := (.int .i64 rm)) (a2 := (.slice c1 cs.length k1)) (a3 := (.slice p1 qs.length j1)) (a4 := (.slice t1 ts.length l1)) hR
              have hO2 := hT.set5 (b' := R) (Ne.symm hne) (.int .i64 st) (.int .i64 rm) (.slice c1 cs.length k1) (.slice p1 qs.length j1) (.slice t1 ts.length l1)
              have hV12 := hV1.set5 (b := R) hR1 (.int .i64 st) (.int .i64 rm) (.slice c1 cs.length k1) (.slice p1 qs.length j1) (.slice t1 ts.length l1)
              have hV22 := hV2.set5 (b := R) hR2 (.int .i64 st) (.int .i64 rm) (.slice c1 cs.length k1) (.slice p1 qs.length j1) (.slice t1 ts.length l1)
              have Bk2 := s5_below (b := R) (a0 := (.int .i64 st)) (a1 := (.int .i64 rm)) (a2 := (.slice c1 cs.length k1)) (a3 := (.slice p1 qs.length j1)) (a4 := (.slice t1 ts.length l1)) Bk hgeR
              refine hK.out _ _ Bk2 (fun hHeld2 => ?_)
              clear hK K hHeld Bk hR hT hV1 hV2 m0 m1 m2 m3 m4 f0 f1 f2 f3 f4
              have hR := hX2
              have hT := hO2
              have hV1 := hV12
              have hV2 := hV22
              have Bk := Bk2
              have hHeld := hHeld2
              clear hHeld2 Bk2 hX2 hO2 hV12 hV22
              (try simp only [Act.put, List.getElem_toArray, List.getElem_cons_zero, List.getElem_cons_succ, List.setIfInBounds_toArray, List.set_cons_zero, List.set_cons_succ])
              generalize (((((u.setCell ⟨R, 0, none⟩ (.int .i64 st)).setCell ⟨R, 1, none⟩ (.int .i64 rm)).setCell ⟨R, 2, none⟩ (.slice c1 cs.length k1)).setCell ⟨R, 3, none⟩ (.slice p1 qs.length j1)).setCell ⟨R, 4, none⟩ (.slice t1 ts.length l1)) = u at *
              refine wpAnyH_ready (rs := [8]) (by kernel_rfl) (by simp) ?_
              refine AllReadyH.cons rfl (fun K hK => ?_) AllReadyH.nil
              · obtain ⟨m0, m1, m2, m3, m4⟩ := sc_cells5 hT
                obtain ⟨f0, f1, f2, f3, f4⟩ := frz5 hT
                go_simp
                have hX2 : Bx5 _ T (.int .i64 st) (.int .i64 rm) (.slice c2 cs.length k2) (.slice p2 ps.length j2) (.slice t2 ts.length l2) := s5_row (a0 := (.int .i64 st)) (a1 := (.int .i64 rm)) (a2 := (.slice c2 cs.length k2)) (a3 := (.slice p2 ps.length j2)) (a4 := (.slice t2 ts.length l2)) hT
                have hO2 := hR.set5 (b' := T) hne (.int .i64 st) (.int .i64 rm) (.slice c2 cs.length k2) (.slice p2 ps.length j2) (.slice t2 ts.length l2)
                have hV12 := hV1.set5 (b := T) hT1 (.int .i64 st) (.int .i64 rm) (.slice c2 cs.length k2) (.slice p2 ps.length j2) (.slice t2 ts.length l2)
                have hV22 := hV2.set5 (b := T) hT2 (.int .i64 st) (.int .i64 rm) (.slice c2 cs.length k2) (.slice p2 ps.length j2) (.slice t2 ts.length l2)
                have Bk2 := s5_below (b := T) (a0 := (.int .i64 st)) (a1 := (.int .i64 rm)) (a2 := (.slice c2 cs.length k2)) (a3 := (.slice p2 ps.length j2)) (a4 := (.slice t2 ts.length l2)) Bk hgeT
                refine hK.out _ _ Bk2 (fun hHeld2 => ?_)
                clear hK K hHeld Bk hR hT hV1 hV2 m0 m1 m2 m3 m4 f0 f1 f2 f3 f4
                have hT := hX2
                have hR := hO2
                have hV1 := hV12
                have hV2 := hV22
                have Bk := Bk2
                have hHeld := hHeld2
                clear hHeld2 Bk2 hX2 hO2 hV12 hV22
                (try simp only [Act.put, List.getElem_toArray, List.getElem_cons_zero, List.getElem_cons_succ, List.setIfInBounds_toArray, List.set_cons_zero, List.set_cons_succ])
                generalize (((((u.setCell ⟨T, 0, none⟩ (.int .i64 st)).setCell ⟨T, 1, none⟩ (.int .i64 rm)).setCell ⟨T, 2, none⟩ (.slice c2 cs.length k2)).setCell ⟨T, 3, none⟩ (.slice p2 ps.length j2)).setCell ⟨T, 4, none⟩ (.slice t2 ts.length l2)) = u at *
                refine wpAnyH_done (by kernel_rfl) ?_ _
                go_wp2_with fail
                go_meet
                case rel => exact ⟨R, T, c1, k1, p1, j1, t1, l1, c2, k2, p2, j2, t2, l2, rfl, rfl, hR, hT, hV1.rows, hV2.rows, Bk⟩
        refine AllReadyH.cons rfl (fun K hK => ?_) AllReadyH.nil
        · obtain ⟨u', hu', hnew, hb, hsz⟩ := boxG u #[.int .i64 0, .int .i64 0, .slice none 0 0, .slice none 0 0, .slice none 0 0] 25
          have hR' := hR.below hb
          have hV1' := hV1.below hb
          have hh1' := Nat.le_trans hh1 hb.size
          have Bk2 := Bk.trans (hb.mono Bk.size)
          obtain ⟨T, hT0⟩ : ∃ x, u.heap.size = x := ⟨_, rfl⟩
          have hT1 : T < lo1 ∨ hi1 ≤ T := .inr (by omega)
          have hne : R ≠ T := by have := hR.lt; omega
          have hgeT : w0.heap.size ≤ T := by have := Bk.size; omega
          have hT : Bx5 u' T (.int .i64 0) (.int .i64 0) (.slice none 0 0) (.slice none 0 0) (.slice none 0 0) := by rw [← hT0]; exact hnew
          go_simp
          (try rw [hu'])
          (try rw [hT0])
          refine hK.out _ _ Bk2 (fun hHeld2 => ?_)
          clear hK K hHeld Bk hR hV1 hh1
          have hR := hR'
          have hV1 := hV1'
          have hh1 := hh1'
          have Bk := Bk2
          have hHeld := hHeld2
          clear hHeld2 Bk2 hR' hV1' hh1'
          clear hnew hb hsz hu' hT0
          generalize u' = u at *
          (try simp only [Act.put, List.getElem_toArray, List.getElem_cons_zero, List.getElem_cons_succ, List.setIfInBounds_toArray, List.set_cons_zero, List.set_cons_succ])
          refine wpAnyH_ready (rs := [4]) (by kernel_rfl) (by simp) ?_
          refine AllReadyH.cons rfl (fun K hK => ?_) AllReadyH.nil
          · go_simp
            refine (CN.out u Bk).mono ?_
            rintro e u' ⟨c2, k2, p2, j2, t2, l2, rfl, hk, hp, ht, hb⟩
            have hnew := ScV.of (lo := u.heap.size) hk hp ht
            have hR2 : R < u.heap.size ∨ u'.heap.size ≤ R := .inl hR.lt
            have hT2 : T < u.heap.size ∨ u'.heap.size ≤ T := .inl hT.lt
            have hR' := hR.below hb
            have hT' := hT.below hb
            have hV1' := hV1.below hb
            have hh1' := Nat.le_trans hh1 hb.size
            have Bk2 := Bk.trans (hb.mono Bk.size)
            obtain ⟨lo2, hlo2⟩ : ∃ lo, u.heap.size = lo := ⟨_, rfl⟩
            obtain ⟨hi2, hhi2⟩ : ∃ hi, u'.heap.size = hi := ⟨_, rfl⟩
            have hh2 : hi2 ≤ u'.heap.size := by omega
            rw [hlo2, hhi2] at hnew hR2 hT2
            have hV2 := hnew
            (try go_wp2_with fail)
            refine hK.out _ _ Bk2 (fun hHeld2 => ?_)
            clear hK K hHeld Bk hR hT hV1 hh1
            have hR := hR'
            have hT := hT'
            have hV1 := hV1'
            have hh1 := hh1'
            have Bk := Bk2
            have hHeld := hHeld2
            clear hHeld2 Bk2 hR' hT' hV1' hh1'
            clear hk hp ht hb hnew hlo2 hhi2
            generalize u' = u at *
            (try simp only [Act.put, List.getElem_toArray, List.getElem_cons_zero, List.getElem_cons_succ, List.setIfInBounds_toArray, List.set_cons_zero, List.set_cons_succ])
            refine wpAnyH_ready (rs := [7]) (by kernel_rfl) (by simp) ?_
            refine AllReadyH.cons rfl (fun K hK => ?_) AllReadyH.nil
            · obtain ⟨m0, m1, m2, m3, m4⟩ := sc_cells5 hR
              obtain ⟨f0, f1, f2, f3, f4⟩ := frz5 hR
              go_simp
              have hX2 : Bx5 _ R (.int .i64 st) (.int .i64 rm) (.slice c1 cs.length k1) (.slice p1 qs.length j1) (.slice t1 ts.length l1) := s5_row (a0 := (.int .i64 st)) (a1 := (.int .i64 rm)) (a2 := (.slice c1 cs.length k1)) (a3 := (.slice p1 qs.length j1)) (a4 := (.slice t1 ts.length l1)) hR
              have hO2 := hT.set5 (b' := R) (Ne.symm hne) (.int .i64 st) (.int .i64 rm) (.slice c1 cs.length k1) (.slice p1 qs.length j1) (.slice t1 ts.length l1)
              have hV12 := hV1.set5 (b := R) hR1 (.int .i64 st) (.int .i64 rm) (.slice c1 cs.length k1) (.slice p1 qs.length j1) (.slice t1 ts.length l1)
              have hV22 := hV2.set5 (b := R) hR2 (.int .i64 st) (.int .i64 rm) (.slice c1 cs.length k1) (.slice p1 qs.length j1) (.slice t1 ts.length l1)
              have Bk2 := s5_below (b := R) (a0 := (.int .i64 st)) (a1 := (.int .i64 rm)) (a2 := (.slice c1 cs.length k1)) (a3 := (.slice p1 qs.length j1)) (a4 := (.slice t1 ts.length l1)) Bk hgeR
              refine hK.out _ _ Bk2 (fun hHeld2 => ?_)
              clear hK K hHeld Bk hR hT hV1 hV2 m0 m1 m2 m3 m4 f0 f1 f2 f3 f4
              have hR := hX2
              have hT := hO2
              have hV1 := hV12
              have hV2 := hV22
              have Bk := Bk2
              have hHeld := hHeld2
              clear hHeld2 Bk2 hX2 hO2 hV12 hV22
              (try simp only [Act.put, List.getElem_toArray, List.getElem_cons_zero, List.getElem_cons_succ, List.setIfInBounds_toArray, List.set_cons_zero, List.set_cons_succ])
              generalize (((((u.setCell ⟨R, 0, none⟩ (.int .i64 st)).setCell ⟨R, 1, none⟩ (.int .i64 rm)).setCell ⟨R, 2, none⟩ (.slice c1 cs.length k1)).setCell ⟨R, 3, none⟩ (.slice p1 qs.length j1)).setCell ⟨R, 4, none⟩ (.slice t1 ts.length l1)) = u at *
              refine wpAnyH_ready (rs := [8]) (by kernel_rfl) (by simp) ?_
              refine AllReadyH.cons rfl (fun K hK => ?_) AllReadyH.nil
              · obtain ⟨m0, m1, m2, m3, m4⟩ := sc_cells5 hT
                obtain ⟨f0, f1, f2, f3, f4⟩ := frz5 hT
                go_simp
                have hX2 : Bx5 _ T (.int .i64 st) (.int .i64 rm) (.slice c2 cs.length k2) (.slice p2 ps.length j2) (.slice t2 ts.length l2) := s5_row (a0 := (.int .i64 st)) (a1 := (.int .i64 rm)) (a2 := (.slice c2 cs.length k2)) (a3 := (.slice p2 ps.length j2)) (a4 := (.slice t2 ts.length l2)) hT
                have hO2 := hR.set5 (b' := T) hne (.int .i64 st) (.int .i64 rm) (.slice c2 cs.length k2) (.slice p2 ps.length j2) (.slice t2 ts.length l2)
                have hV12 := hV1.set5 (b := T) hT1 (.int .i64 st) (.int .i64 rm) (.slice c2 cs.length k2) (.slice p2 ps.length j2) (.slice t2 ts.length l2)
                have hV22 := hV2.set5 (b := T) hT2 (.int .i64 st) (.int .i64 rm) (.slice c2 cs.length k2) (.slice p2 ps.length j2) (.slice t2 ts.length l2)
                have Bk2 := s5_below (b := T) (a0 := (.int .i64 st)) (a1 := (.int .i64 rm)) (a2 := (.slice c2 cs.length k2)) (a3 := (.slice p2 ps.length j2)) (a4 := (.slice t2 ts.length l2)) Bk hgeT
                refine hK.out _ _ Bk2 (fun hHeld2 => ?_)
                clear hK K hHeld Bk hR hT hV1 hV2 m0 m1 m2 m3 m4 f0 f1 f2 f3 f4
                have hT := hX2
                have hR := hO2
                have hV1 := hV12
                have hV2 := hV22
                have Bk := Bk2
                have hHeld := hHeld2
                clear hHeld2 Bk2 hX2 hO2 hV12 hV22
                (try simp only [Act.put, List.getElem_toArray, List.getElem_cons_zero, List.getElem_cons_succ, List.setIfInBounds_toArray, List.set_cons_zero, List.set_cons_succ])
                generalize (((((u.setCell ⟨T, 0, none⟩ (.int .i64 st)).setCell ⟨T, 1, none⟩ (.int .i64 rm)).setCell ⟨T, 2, none⟩ (.slice c2 cs.length k2)).setCell ⟨T, 3, none⟩ (.slice p2 ps.length j2)).setCell ⟨T, 4, none⟩ (.slice t2 ts.length l2)) = u at *
                refine wpAnyH_done (by kernel_rfl) ?_ _
                go_wp2_with fail
                go_meet
                case rel => exact ⟨R, T, c1, k1, p1, j1, t1, l1, c2, k2, p2, j2, t2, l2, rfl, rfl, hR, hT, hV1.rows, hV2.rows, Bk⟩
      refine AllReadyH.cons rfl (fun K hK => ?_) AllReadyH.nil
      · obtain ⟨u', hu', hnew, hb, hsz⟩ := boxG u #[.int .i64 0, .int .i64 0, .slice none 0 0, .slice none 0 0, .slice none 0 0] 25
        have hV1' := hV1.below hb
        have hh1' := Nat.le_trans hh1 hb.size
        have Bk2 := Bk.trans (hb.mono Bk.size)
        obtain ⟨T, hT0⟩ : ∃ x, u.heap.size = x := ⟨_, rfl⟩
        have hT1 : T < lo1 ∨ hi1 ≤ T := .inr (by omega)
        have hgeT : w0.heap.size ≤ T := by have := Bk.size; omega
        have hT : Bx5 u' T (.int .i64 0) (.int .i64 0) (.slice none 0 0) (.slice none 0 0) (.slice none 0 0) := by rw [← hT0]; exact hnew
        go_simp
        (try rw [hu'])
        (try rw [hT0])
        refine hK.out _ _ Bk2 (fun hHeld2 => ?_)
        clear hK K hHeld Bk hV1 hh1
        have hV1 := hV1'
        have hh1 := hh1'
        have Bk := Bk2
        have hHeld := hHeld2
        clear hHeld2 Bk2 hV1' hh1'
        clear hnew hb hsz hu' hT0
        generalize u' = u at *
        (try simp only [Act.put, List.getElem_toArray, List.getElem_cons_zero, List.getElem_cons_succ, List.setIfInBounds_toArray, List.set_cons_zero, List.set_cons_succ])
        refine wpAnyH_ready (rs := [4, 5]) (by kernel_rfl) (by simp) ?_
        refine AllReadyH.cons rfl (fun K hK => ?_) ?_
        · go_simp
          refine (CN.out u Bk).mono ?_
          rintro e u' ⟨c2, k2, p2, j2, t2, l2, rfl, hk, hp, ht, hb⟩
          have hnew := ScV.of (lo := u.heap.size) hk hp ht
          have hT2 : T < u.heap.size ∨ u'.heap.size ≤ T := .inl hT.lt
          have hT' := hT.below hb
          have hV1' := hV1.below hb
          have hh1' := Nat.le_trans hh1 hb.size
          have Bk2 := Bk.trans (hb.mono Bk.size)
          obtain ⟨lo2, hlo2⟩ : ∃ lo, u.heap.size = lo := ⟨_, rfl⟩
          obtain ⟨hi2, hhi2⟩ : ∃ hi, u'.heap.size = hi := ⟨_, rfl⟩
          have hh2 : hi2 ≤ u'.heap.size := by omega
          rw [hlo2, hhi2] at hnew hT2
          have hV2 := hnew
          (try go_wp2_with fail)
          refine hK.out _ _ Bk2 (fun hHeld2 => ?_)
          clear hK K hHeld Bk hT hV1 hh1
          have hT := hT'
          have hV1 := hV1'
          have hh1 := hh1'
          have Bk := Bk2
          have hHeld := hHeld2
          clear hHeld2 Bk2 hT' hV1' hh1'
          clear hk hp ht hb hnew hlo2 hhi2
          generalize u' = u at *
          (try simp only [Act.put, List.getElem_toArray, List.getElem_cons_zero, List.getElem_cons_succ, List.setIfInBounds_toArray, List.set_cons_zero, List.set_cons_succ])
          refine wpAnyH_ready (rs := [5]) (by kernel_rfl) (by simp) ?_
          refine AllReadyH.cons rfl (fun K hK => ?_) AllReadyH.nil
          · obtain ⟨u', hu', hnew, hb, hsz⟩ := boxG u #[.int .i64 0, .int .i64 0, .slice none 0 0, .slice none 0 0, .slice none 0 0] 25
            have hT' := hT.below hb
            have hV1' := hV1.below hb
            have hh1' := Nat.le_trans hh1 hb.size
            have hV2' := hV2.below hb
            have hh2' := Nat.le_trans hh2 hb.size
            have Bk2 := Bk.trans (hb.mono Bk.size)
            obtain ⟨R, hR0⟩ : ∃ x, u.heap.size = x := ⟨_, rfl⟩
            have hR1 : R < lo1 ∨ hi1 ≤ R := .inr (by omega)
            have hR2 : R < lo2 ∨ hi2 ≤ R := .inr (by omega)
            have hne : R ≠ T := by have := hT.lt; omega
            have hgeR : w0.heap.size ≤ R := by have := Bk.size; omega
            have hR : Bx5 u' R (.int .i64 0) (.int .i64 0) (.slice none 0 0) (.slice none 0 0) (.slice none 0 0) := by rw [← hR0]; exact hnew
            go_simp
            (try rw [hu'])
            (try rw [hR0])
            refine hK.out _ _ Bk2 (fun hHeld2 => ?_)
            clear hK K hHeld Bk hT hV1 hh1 hV2 hh2
            have hT := hT'
            have hV1 := hV1'
            have hh1 := hh1'
            have hV2 := hV2'
            have hh2 := hh2'
            have Bk := Bk2
            have hHeld := hHeld2
            clear hHeld2 Bk2 hT' hV1' hh1' hV2' hh2'
            clear hnew hb hsz hu' hR0
            generalize u' = u at *
            (try simp only [Act.put, List.getElem_toArray, List.getElem_cons_zero, List.getElem_cons_succ, List.setIfInBounds_toArray, List.set_cons_zero, List.set_cons_succ])
            refine wpAnyH_ready (rs := [7]) (by kernel_rfl) (by simp) ?_
            refine AllReadyH.cons rfl (fun K hK => ?_) AllReadyH.nil
            · obtain ⟨m0, m1, m2, m3, m4⟩ := sc_cells5 hR
              obtain ⟨f0, f1, f2, f3, f4⟩ := frz5 hR
              go_simp
              have hX2 : Bx5 _ R (.int .i64 st) (.int .i64 rm) (.slice c1 cs.length k1) (.slice p1 qs.length j1) (.slice t1 ts.length l1) := s5_row (a0 := (.int .i64 st)) (a1 := (.int .i64 rm)) (a2 := (.slice c1 cs.length k1)) (a3 := (.slice p1 qs.length j1)) (a4 := (.slice t1 ts.length l1)) hR
              have hO2 := hT.set5 (b' := R) (Ne.symm hne) (.int .i64 st) (.int .i64 rm) (.slice c1 cs.length k1) (.slice p1 qs.length j1) (.slice t1 ts.length l1)
              have hV12 := hV1.set5 (b := R) hR1 (.int .i64 st) (.int .i64 rm) (.slice c1 cs.length k1) (.slice p1 qs.length j1) (.slice t1 ts.length l1)
              have hV22 := hV2.set5 (b := R) hR2 (.int .i64 st) (.int .i64 rm) (.slice c1 cs.length k1) (.slice p1 qs.length j1) (.slice t1 ts.length l1)
              have Bk2 := s5_below (b := R) (a0 := (.int .i64 st)) (a1 := (.int .i64 rm)) (a2 := (.slice c1 cs.length k1)) (a3 := (.slice p1 qs.length j1)) (a4 := (.slice t1 ts.length l1)) Bk hgeR
              refine hK.out _ _ Bk2 (fun hHeld2 => ?_)
              clear hK K hHeld Bk hR hT hV1 hV2 m0 m1 m2 m3 m4 f0 f1 f2 f3 f4
              have hR := hX2
              have hT := hO2
              have hV1 := hV12
              have hV2 := hV22
              have Bk := Bk2
              have hHeld := hHeld2
              clear hHeld2 Bk2 hX2 hO2 hV12 hV22
              (try simp only [Act.put, List.getElem_toArray, List.getElem_cons_zero, List.getElem_cons_succ, List.setIfInBounds_toArray, List.set_cons_zero, List.set_cons_succ])
              generalize (((((u.setCell ⟨R, 0, none⟩ (.int .i64 st)).setCell ⟨R, 1, none⟩ (.int .i64 rm)).setCell ⟨R, 2, none⟩ (.slice c1 cs.length k1)).setCell ⟨R, 3, none⟩ (.slice p1 qs.length j1)).setCell ⟨R, 4, none⟩ (.slice t1 ts.length l1)) = u at *
              refine wpAnyH_ready (rs := [8]) (by kernel_rfl) (by simp) ?_
              refine AllReadyH.cons rfl (fun K hK => ?_) AllReadyH.nil
              · obtain ⟨m0, m1, m2, m3, m4⟩ := sc_cells5 hT
                obtain ⟨f0, f1, f2, f3, f4⟩ := frz5 hT
                go_simp
                have hX2 : Bx5 _ T (.int .i64 st) (.int .i64 rm) (.slice c2 cs.length k2) (.slice p2 ps.length j2) (.slice t2 ts.length l2) := s5_row (a0 := (.int .i64 st)) (a1 := (.int .i64 rm)) (a2 := (.slice c2 cs.length k2)) (a3 := (.slice p2 ps.length j2)) (a4 := (.slice t2 ts.length l2)) hT
                have hO2 := hR.set5 (b' := T) hne (.int .i64 st) (.int .i64 rm) (.slice c2 cs.length k2) (.slice p2 ps.length j2) (.slice t2 ts.length l2)
                have hV12 := hV1.set5 (b := T) hT1 (.int .i64 st) (.int .i64 rm) (.slice c2 cs.length k2) (.slice p2 ps.length j2) (.slice t2 ts.length l2)
                have hV22 := hV2.set5 (b := T) hT2 (.int .i64 st) (.int .i64 rm) (.slice c2 cs.length k2) (.slice p2 ps.length j2) (.slice t2 ts.length l2)
                have Bk2 := s5_below (b := T) (a0 := (.int .i64 st)) (a1 := (.int .i64 rm)) (a2 := (.slice c2 cs.length k2)) (a3 := (.slice p2 ps.length j2)) (a4 := (.slice t2 ts.length l2)) Bk hgeT
                refine hK.out _ _ Bk2 (fun hHeld2 => ?_)
                clear hK K hHeld Bk hR hT hV1 hV2 m0 m1 m2 m3 m4 f0 f1 f2 f3 f4
                have hT := hX2
                have hR := hO2
                have hV1 := hV12
                have hV2 := hV22
                have Bk := Bk2
                have hHeld := hHeld2
                clear hHeld2 Bk2 hX2 hO2 hV12 hV22
                (try simp only [Act.put, List.getElem_toArray, List.getElem_cons_zero, List.getElem_cons_succ, List.setIfInBounds_toArray, List.set_cons_zero, List.set_cons_succ])
                generalize (((((u.setCell ⟨T, 0, none⟩ (.int .i64 st)).setCell ⟨T, 1, none⟩ (.int .i64 rm)).setCell ⟨T, 2, none⟩ (.slice c2 cs.length k2)).setCell ⟨T, 3, none⟩ (.slice p2 ps.length j2)).setCell ⟨T, 4, none⟩ (.slice t2 ts.length l2)) = u at *
                refine wpAnyH_done (by kernel_rfl) ?_ _
                go_wp2_with fail
                go_meet
                case rel => exact ⟨R, T, c1, k1, p1, j1, t1, l1, c2, k2, p2, j2, t2, l2, rfl, rfl, hR, hT, hV1.rows, hV2.rows, Bk⟩
        refine AllReadyH.cons rfl (fun K hK => ?_) AllReadyH.nil
        · obtain ⟨u', hu', hnew, hb, hsz⟩ := boxG u #[.int .i64 0, .int .i64 0, .slice none 0 0, .slice none 0 0, .slice none 0 0] 25
          have hT' := hT.below hb
          have hV1' := hV1.below hb
          have hh1' := Nat.le_trans hh1 hb.size
          have Bk2 := Bk.trans (hb.mono Bk.size)
          obtain ⟨R, hR0⟩ : ∃ x, u.heap.size = x := ⟨_, rfl⟩
          have hR1 : R < lo1 ∨ hi1 ≤ R := .inr (by omega)
          have hne : R ≠ T := by have := hT.lt; omega
          have hgeR : w0.heap.size ≤ R := by have := Bk.size; omega
          have hR : Bx5 u' R (.int .i64 0) (.int .i64 0) (.slice none 0 0) (.slice none 0 0) (.slice none 0 0) := by rw [← hR0]; exact hnew
          go_simp
          (try rw [hu'])
          (try rw [hR0])
          refine hK.out _ _ Bk2 (fun hHeld2 => ?_)
          clear hK K hHeld Bk hT hV1 hh1
          have hT := hT'
          have hV1 := hV1'
          have hh1 := hh1'
          have Bk := Bk2
          have hHeld := hHeld2
          clear hHeld2 Bk2 hT' hV1' hh1'
          clear hnew hb hsz hu' hR0
          generalize u' = u at *
          (try simp only [Act.put, List.getElem_toArray, List.getElem_cons_zero, List.getElem_cons_succ, List.setIfInBounds_toArray, List.set_cons_zero, List.set_cons_succ])
          refine wpAnyH_ready (rs := [4]) (by kernel_rfl) (by simp) ?_
          refine AllReadyH.cons rfl (fun K hK => ?_) AllReadyH.nil
          · go_simp
            refine (CN.out u Bk).mono ?_
            rintro e u' ⟨c2, k2, p2, j2, t2, l2, rfl, hk, hp, ht, hb⟩
            have hnew := ScV.of (lo := u.heap.size) hk hp ht
            have hR2 : R < u.heap.size ∨ u'.heap.size ≤ R := .inl hR.lt
            have hT2 : T < u.heap.size ∨ u'.heap.size ≤ T := .inl hT.lt
            have hR' := hR.below hb
            have hT' := hT.below hb
            have hV1' := hV1.below hb
            have hh1' := Nat.le_trans hh1 hb.size
            have Bk2 := Bk.trans (hb.mono Bk.size)
            obtain ⟨lo2, hlo2⟩ : ∃ lo, u.heap.size = lo := ⟨_, rfl⟩
            obtain ⟨hi2, hhi2⟩ : ∃ hi, u'.heap.size = hi := ⟨_, rfl⟩
            have hh2 : hi2 ≤ u'.heap.size := by omega
            rw [hlo2, hhi2] at hnew hR2 hT2
            have hV2 := hnew
            (try go_wp2_with fail)
            refine hK.out _ _ Bk2 (fun hHeld2 => ?_)
            clear hK K hHeld Bk hR hT hV1 hh1
            have hR := hR'
            have hT := hT'
            have hV1 := hV1'
            have hh1 := hh1'
            have Bk := Bk2
            have hHeld := hHeld2
            clear hHeld2 Bk2 hR' hT' hV1' hh1'
            clear hk hp ht hb hnew hlo2 hhi2
            generalize u' = u at *
            (try simp only [Act.put, List.getElem_toArray, List.getElem_cons_zero, List.getElem_cons_succ, List.setIfInBounds_toArray, List.set_cons_zero, List.set_cons_succ])
            refine wpAnyH_ready (rs := [7]) (by kernel_rfl) (by simp) ?_
            refine AllReadyH.cons rfl (fun K hK => ?_) AllReadyH.nil
            · obtain ⟨m0, m1, m2, m3, m4⟩ := sc_cells5 hR
              obtain ⟨f0, f1, f2, f3, f4⟩ := frz5 hR
              go_simp
              have hX2 : Bx5 _ R (.int .i64 st) (.int .i64 rm) (.slice c1 cs.length k1) (.slice p1 qs.length j1) (.slice t1 ts.length l1) := s5_row (a0 := (.int .i64 st)) (a1 := (.int .i64 rm)) (a2 := (.slice c1 cs.length k1)) (a3 := (.slice p1 qs.length j1)) (a4 := (.slice t1 ts.length l1)) hR
              have hO2 := hT.set5 (b' := R) (Ne.symm hne) (.int .i64 st) (.int .i64 rm) (.slice c1 cs.length k1) (.slice p1 qs.length j1) (.slice t1 ts.length l1)
              have hV12 := hV1.set5 (b := R) hR1 (.int .i64 st) (.int .i64 rm) (.slice c1 cs.length k1) (.slice p1 qs.length j1) (.slice t1 ts.length l1)
              have hV22 := hV2.set5 (b := R) hR2 (.int .i64 st) (.int .i64 rm) (.slice c1 cs.length k1) (.slice p1 qs.length j1) (.slice t1 ts.length l1)
              have Bk2 := s5_below (b := R) (a0 := (.int .i64 st)) (a1 := (.int .i64 rm)) (a2 := (.slice c1 cs.length k1)) (a3 := (.slice p1 qs.length j1)) (a4 := (.slice t1 ts.length l1)) Bk hgeR
              refine hK.out _ _ Bk2 (fun hHeld2 => ?_)
              clear hK K hHeld Bk hR hT hV1 hV2 m0 m1 m2 m3 m4 f0 f1 f2 f3 f4
              have hR := hX2
              have hT := hO2
              have hV1 := hV12
              have hV2 := hV22
              have Bk := Bk2
              have hHeld := hHeld2
              clear hHeld2 Bk2 hX2 hO2 hV12 hV22
              (try simp only [Act.put, List.getElem_toArray, List.getElem_cons_zero, List.getElem_cons_succ, List.setIfInBounds_toArray, List.set_cons_zero, List.set_cons_succ])
              generalize (((((u.setCell ⟨R, 0, none⟩ (.int .i64 st)).setCell ⟨R, 1, none⟩ (.int .i64 rm)).setCell ⟨R, 2, none⟩ (.slice c1 cs.length k1)).setCell ⟨R, 3, none⟩ (.slice p1 qs.length j1)).setCell ⟨R, 4, none⟩ (.slice t1 ts.length l1)) = u at *
              refine wpAnyH_ready (rs := [8]) (by kernel_rfl) (by simp) ?_
              refine AllReadyH.cons rfl (fun K hK => ?_) AllReadyH.nil
              · obtain ⟨m0, m1, m2, m3, m4⟩ := sc_cells5 hT
                obtain ⟨f0, f1, f2, f3, f4⟩ := frz5 hT
                go_simp
                have hX2 : Bx5 _ T (.int .i64 st) (.int .i64 rm) (.slice c2 cs.length k2) (.slice p2 ps.length j2) (.slice t2 ts.length l2) := s5_row (a0 := (.int .i64 st)) (a1 := (.int .i64 rm)) (a2 := (.slice c2 cs.length k2)) (a3 := (.slice p2 ps.length j2)) (a4 := (.slice t2 ts.length l2)) hT
                have hO2 := hR.set5 (b' := T) hne (.int .i64 st) (.int .i64 rm) (.slice c2 cs.length k2) (.slice p2 ps.length j2) (.slice t2 ts.length l2)
                have hV12 := hV1.set5 (b := T) hT1 (.int .i64 st) (.int .i64 rm) (.slice c2 cs.length k2) (.slice p2 ps.length j2) (.slice t2 ts.length l2)
                have hV22 := hV2.set5 (b := T) hT2 (.int .i64 st) (.int .i64 rm) (.slice c2 cs.length k2) (.slice p2 ps.length j2) (.slice t2 ts.length l2)
                have Bk2 := s5_below (b := T) (a0 := (.int .i64 st)) (a1 := (.int .i64 rm)) (a2 := (.slice c2 cs.length k2)) (a3 := (.slice p2 ps.length j2)) (a4 := (.slice t2 ts.length l2)) Bk hgeT
                refine hK.out _ _ Bk2 (fun hHeld2 => ?_)
                clear hK K hHeld Bk hR hT hV1 hV2 m0 m1 m2 m3 m4 f0 f1 f2 f3 f4
                have hT := hX2
                have hR := hO2
                have hV1 := hV12
                have hV2 := hV22
                have Bk := Bk2
                have hHeld := hHeld2
                clear hHeld2 Bk2 hX2 hO2 hV12 hV22
                (try simp only [Act.put, List.getElem_toArray, List.getElem_cons_zero, List.getElem_cons_succ, List.setIfInBounds_toArray, List.set_cons_zero, List.set_cons_succ])
                generalize (((((u.setCell ⟨T, 0, none⟩ (.int .i64 st)).setCell ⟨T, 1, none⟩ (.int .i64 rm)).setCell ⟨T, 2, none⟩ (.slice c2 cs.length k2)).setCell ⟨T, 3, none⟩ (.slice p2 ps.length j2)).setCell ⟨T, 4, none⟩ (.slice t2 ts.length l2)) = u at *
                refine wpAnyH_done (by kernel_rfl) ?_ _
                go_wp2_with fail
                go_meet
                case rel => exact ⟨R, T, c1, k1, p1, j1, t1, l1, c2, k2, p2, j2, t2, l2, rfl, rfl, hR, hT, hV1.rows, hV2.rows, Bk⟩
    refine AllReadyH.cons rfl (fun K hK => ?_) ?_
    · obtain ⟨u', hu', hnew, hb, hsz⟩ := boxG u #[.int .i64 0, .int .i64 0, .slice none 0 0, .slice none 0 0, .slice none 0 0] 25
      have Bk2 := Bk.trans (hb.mono Bk.size)
      obtain ⟨R, hR0⟩ : ∃ x, u.heap.size = x := ⟨_, rfl⟩
      have hgeR : w0.heap.size ≤ R := by have := Bk.size; omega
      have hR : Bx5 u' R (.int .i64 0) (.int .i64 0) (.slice none 0 0) (.slice none 0 0) (.slice none 0 0) := by rw [← hR0]; exact hnew
      go_simp
      (try rw [hu'])
      (try rw [hR0])
      refine hK.out _ _ Bk2 (fun hHeld2 => ?_)
      clear hK K hHeld Bk
      have Bk := Bk2
      have hHeld := hHeld2
      clear hHeld2 Bk2
      clear hnew hb hsz hu' hR0
      generalize u' = u at *
      (try simp only [Act.put, List.getElem_toArray, List.getElem_cons_zero, List.getElem_cons_succ, List.setIfInBounds_toArray, List.set_cons_zero, List.set_cons_succ])
      refine wpAnyH_ready (rs := [2, 6]) (by kernel_rfl) (by simp) ?_
      refine AllReadyH.cons rfl (fun K hK => ?_) ?_
      · go_simp
        refine (HD.out u Bk).mono ?_
        rintro e u' ⟨c1, k1, p1, j1, t1, l1, rfl, hk, hp, ht, hb⟩
        have hnew := ScV.of (lo := u.heap.size) hk hp ht
        have hR1 : R < u.heap.size ∨ u'.heap.size ≤ R := .inl hR.lt
        have hR' := hR.below hb
        have Bk2 := Bk.trans (hb.mono Bk.size)
        obtain ⟨lo1, hlo1⟩ : ∃ lo, u.heap.size = lo := ⟨_, rfl⟩
        obtain ⟨hi1, hhi1⟩ : ∃ hi, u'.heap.size = hi := ⟨_, rfl⟩
        have hh1 : hi1 ≤ u'.heap.size := by omega
        rw [hlo1, hhi1] at hnew hR1
        have hV1 := hnew
        (try go_wp2_with fail)
        refine hK.out _ _ Bk2 (fun hHeld2 => ?_)
        clear hK K hHeld Bk hR
        have hR := hR'
        have Bk := Bk2
        have hHeld := hHeld2
        clear hHeld2 Bk2 hR'
        clear hk hp ht hb hnew hlo1 hhi1
        generalize u' = u at *
        (try simp only [Act.put, List.getElem_toArray, List.getElem_cons_zero, List.getElem_cons_succ, List.setIfInBounds_toArray, List.set_cons_zero, List.set_cons_succ])
        refine wpAnyH_ready (rs := [4, 6]) (by kernel_rfl) (by simp) ?_
        refine AllReadyH.cons rfl (fun K hK => ?_) ?_
        · go_simp
          refine (CN.out u Bk).mono ?_
          rintro e u' ⟨c2, k2, p2, j2, t2, l2, rfl, hk, hp, ht, hb⟩
          have hnew := ScV.of (lo := u.heap.size) hk hp ht
          have hR2 : R < u.heap.size ∨ u'.heap.size ≤ R := .inl hR.lt
          have hR' := hR.below hb
          have hV1' := hV1.below hb
          have hh1' := Nat.le_trans hh1 hb.size
          have Bk2 := Bk.trans (hb.mono Bk.size)
          obtain ⟨lo2, hlo2⟩ : ∃ lo, u.heap.size = lo := ⟨_, rfl⟩
          obtain ⟨hi2, hhi2⟩ : ∃ hi, u'.heap.size = hi := ⟨_, rfl⟩
          have hh2 : hi2 ≤ u'.heap.size := by omega
          rw [hlo2, hhi2] at hnew hR2
          have hV2 := hnew
          (try go_wp2_with fail)
          refine hK.out _ _ Bk2 (fun hHeld2 => ?_)
          clear hK K hHeld Bk hR hV1 hh1
          have hR := hR'
          have hV1 := hV1'
          have hh1 := hh1'
          have Bk := Bk2
          have hHeld := hHeld2
          clear hHeld2 Bk2 hR' hV1' hh1'
          clear hk hp ht hb hnew hlo2 hhi2
          generalize u' = u at *
          (try simp only [Act.put, List.getElem_toArray, List.getElem_cons_zero, List.getElem_cons_succ, List.setIfInBounds_toArray, List.set_cons_zero, List.set_cons_succ])
          refine wpAnyH_ready (rs := [6]) (by kernel_rfl) (by simp) ?_
          refine AllReadyH.cons rfl (fun K hK => ?_) AllReadyH.nil
          · obtain ⟨u', hu', hnew, hb, hsz⟩ := boxG u #[.int .i64 0, .int .i64 0, .slice none 0 0, .slice none 0 0, .slice none 0 0] 25
            have hR' := hR.below hb
            have hV1' := hV1.below hb
            have hh1' := Nat.le_trans hh1 hb.size
            have hV2' := hV2.below hb
            have hh2' := Nat.le_trans hh2 hb.size
            have Bk2 := Bk.trans (hb.mono Bk.size)
            obtain ⟨T, hT0⟩ : ∃ x, u.heap.size = x := ⟨_, rfl⟩
            have hT1 : T < lo1 ∨ hi1 ≤ T := .inr (by omega)
            have hT2 : T < lo2 ∨ hi2 ≤ T := .inr (by omega)
            have hne : R ≠ T := by have := hR.lt; omega
            have hgeT : w0.heap.size ≤ T := by have := Bk.size; omega
            have hT : Bx5 u' T (.int .i64 0) (.int .i64 0) (.slice none 0 0) (.slice none 0 0) (.slice none 0 0) := by rw [← hT0]; exact hnew
            go_simp
            (try rw [hu'])
            (try rw [hT0])
            refine hK.out _ _ Bk2 (fun hHeld2 => ?_)
            clear hK K hHeld Bk hR hV1 hh1 hV2 hh2
            have hR := hR'
            have hV1 := hV1'
            have hh1 := hh1'
            have hV2 := hV2'
            have hh2 := hh2'
            have Bk := Bk2
            have hHeld := hHeld2
            clear hHeld2 Bk2 hR' hV1' hh1' hV2' hh2'
            clear hnew hb hsz hu' hT0
            generalize u' = u at *
            (try simp only [Act.put, List.getElem_toArray, List.getElem_cons_zero, List.getElem_cons_succ, List.setIfInBounds_toArray, List.set_cons_zero, List.set_cons_succ])
            refine wpAnyH_ready (rs := [7]) (by kernel_rfl) (by simp) ?_
            refine AllReadyH.cons rfl (fun K hK => ?_) AllReadyH.nil
            · obtain ⟨m0, m1, m2, m3, m4⟩ := sc_cells5 hR
              obtain ⟨f0, f1, f2, f3, f4⟩ := frz5 hR
              go_simp
              have hX2 : Bx5 _ R (.int .i64 st) (.int .i64 rm) (.slice c1 cs.length k1) (.slice p1 qs.length j1) (.slice t1 ts.length l1) := s5_row (a0 := (.int .i64 st)) (a1 := (.int .i64 rm)) (a2 := (.slice c1 cs.length k1)) (a3 := (.slice p1 qs.length j1)) (a4 := (.slice t1 ts.length l1)) hR
              have hO2 := hT.set5 (b' := R) (Ne.symm hne) (.int .i64 st) (.int .i64 rm) (.slice c1 cs.length k1) (.slice p1 qs.length j1) (.slice t1 ts.length l1)
              have hV12 := hV1.set5 (b := R) hR1 (.int .i64 st) (.int .i64 rm) (.slice c1 cs.length k1) (.slice p1 qs.length j1) (.slice t1 ts.length l1)
              have hV22 := hV2.set5 (b := R) hR2 (.int .i64 st) (.int .i64 rm) (.slice c1 cs.length k1) (.slice p1 qs.length j1) (.slice t1 ts.length l1)
              have Bk2 := s5_below (b := R) (a0 := (.int .i64 st)) (a1 := (.int .i64 rm)) (a2 := (.slice c1 cs.length k1)) (a3 := (.slice p1 qs.length j1)) (a4 := (.slice t1 ts.length l1)) Bk hgeR
              refine hK.out _ _ Bk2 (fun hHeld2 => ?_)
              clear hK K hHeld Bk hR hT hV1 hV2 m0 m1 m2 m3 m4 f0 f1 f2 f3 f4
              have hR := hX2
              have hT := hO2
              have hV1 := hV12
              have hV2 := hV22
              have Bk := Bk2
              have hHeld := hHeld2
              clear hHeld2 Bk2 hX2 hO2 hV12 hV22
              (try simp only [Act.put, List.getElem_toArray, List.getElem_cons_zero, List.getElem_cons_succ, List.setIfInBounds_toArray, List.set_cons_zero, List.set_cons_succ])
              generalize (((((u.setCell ⟨R, 0, none⟩ (.int .i64 st)).setCell ⟨R, 1, none⟩ (.int .i64 rm)).setCell ⟨R, 2, none⟩ (.slice c1 cs.length k1)).setCell ⟨R, 3, none⟩ (.slice p1 qs.length j1)).setCell ⟨R, 4, none⟩ (.slice t1 ts.length l1)) = u at *
              refine wpAnyH_ready (rs := [8]) (by kernel_rfl) (by simp) ?_
              refine AllReadyH.cons rfl (fun K hK => ?_) AllReadyH.nil
              · obtain ⟨m0, m1, m2, m3, m4⟩ := sc_cells5 hT
                obtain ⟨f0, f1, f2, f3, f4⟩ := frz5 hT
                go_simp
                have hX2 : Bx5 _ T (.int .i64 st) (.int .i64 rm) (.slice c2 cs.length k2) (.slice p2 ps.length j2) (.slice t2 ts.length l2) := s5_row (a0 := (.int .i64 st)) (a1 := (.int .i64 rm)) (a2 := (.slice c2 cs.length k2)) (a3 := (.slice p2 ps.length j2)) (a4 := (.slice t2 ts.length l2)) hT
                have hO2 := hR.set5 (b' := T) hne (.int .i64 st) (.int .i64 rm) (.slice c2 cs.length k2) (.slice p2 ps.length j2) (.slice t2 ts.length l2)
                have hV12 := hV1.set5 (b := T) hT1 (.int .i64 st) (.int .i64 rm) (.slice c2 cs.length k2) (.slice p2 ps.length j2) (.slice t2 ts.length l2)
                have hV22 := hV2.set5 (b := T) hT2 (.int .i64 st) (.int .i64 rm) (.slice c2 cs.length k2) (.slice p2 ps.length j2) (.slice t2 ts.length l2)
                have Bk2 := s5_below (b := T) (a0 := (.int .i64 st)) (a1 := (.int .i64 rm)) (a2 := (.slice c2 cs.length k2)) (a3 := (.slice p2 ps.length j2)) (a4 := (.slice t2 ts.length l2)) Bk hgeT
                refine hK.out _ _ Bk2 (fun hHeld2 => ?_)
                clear hK K hHeld Bk hR hT hV1 hV2 m0 m1 m2 m3 m4 f0 f1 f2 f3 f4
                have hT := hX2
                have hR := hO2
                have hV1 := hV12
                have hV2 := hV22
                have Bk := Bk2
                have hHeld := hHeld2
                clear hHeld2 Bk2 hX2 hO2 hV12 hV22
                (try simp only [Act.put, List.getElem_toArray, List.getElem_cons_zero, List.getElem_cons_succ, List.setIfInBounds_toArray, List.set_cons_zero, List.set_cons_succ])
                generalize (((((u.setCell ⟨T, 0, none⟩ (.int .i64 st)).setCell ⟨T, 1, none⟩ (.int .i64 rm)).setCell ⟨T, 2, none⟩ (.slice c2 cs.length k2)).setCell ⟨T, 3, none⟩ (.slice p2 ps.length j2)).setCell ⟨T, 4, none⟩ (.slice t2 ts.length l2)) = u at *
                refine wpAnyH_done (by kernel_rfl) ?_ _
                go_wp2_with fail
                go_meet
                case rel => exact ⟨R, T, c1, k1, p1, j1, t1, l1, c2, k2, p2, j2, t2, l2, rfl, rfl, hR, hT, hV1.rows, hV2.rows, Bk⟩
        refine AllReadyH.cons rfl (fun K hK => ?_) AllReadyH.nil
        · obtain ⟨u', hu', hnew, hb, hsz⟩ := boxG u #[.int .i64 0, .int .i64 0, .slice none 0 0, .slice none 0 0, .slice none 0 0] 25
          have hR' := hR.below hb
          have hV1' := hV1.below hb
          have hh1' := Nat.le_trans hh1 hb.size
          have Bk2 := Bk.trans (hb.mono Bk.size)
          obtain ⟨T, hT0⟩ : ∃ x, u.heap.size = x := ⟨_, rfl⟩
          have hT1 : T < lo1 ∨ hi1 ≤ T := .inr (by omega)
          have hne : R ≠ T := by have := hR.lt; omega
          have hgeT : w0.heap.size ≤ T := by have := Bk.size; omega
          have hT : Bx5 u' T (.int .i64 0) (.int .i64 0) (.slice none 0 0) (.slice none 0 0) (.slice none 0 0) := by rw [← hT0]; exact hnew
          go_simp
          (try rw [hu'])
          (try rw [hT0])
          refine hK.out _ _ Bk2 (fun hHeld2 => ?_)
          clear hK K hHeld Bk hR hV1 hh1
          have hR := hR'
          have hV1 := hV1'
          have hh1 := hh1'
          have Bk := Bk2
          have hHeld := hHeld2
          clear hHeld2 Bk2 hR' hV1' hh1'
          clear hnew hb hsz hu' hT0
          generalize u' = u at *
          (try simp only [Act.put, List.getElem_toArray, List.getElem_cons_zero, List.getElem_cons_succ, List.setIfInBounds_toArray, List.set_cons_zero, List.set_cons_succ])
          refine wpAnyH_ready (rs := [4]) (by kernel_rfl) (by simp) ?_
          refine AllReadyH.cons rfl (fun K hK => ?_) AllReadyH.nil
          · go_simp
            refine (CN.out u Bk).mono ?_
            rintro e u' ⟨c2, k2, p2, j2, t2, l2, rfl, hk, hp, ht, hb⟩
            have hnew := ScV.of (lo := u.heap.size) hk hp ht
            have hR2 : R < u.heap.size ∨ u'.heap.size ≤ R := .inl hR.lt
            have hT2 : T < u.heap.size ∨ u'.heap.size ≤ T := .inl hT.lt
            have hR' := hR.below hb
            have hT' := hT.below hb
            have hV1' := hV1.below hb
            have hh1' := Nat.le_trans hh1 hb.size
            have Bk2 := Bk.trans (hb.mono Bk.size)
            obtain ⟨lo2, hlo2⟩ : ∃ lo, u.heap.size = lo := ⟨_, rfl⟩
            obtain ⟨hi2, hhi2⟩ : ∃ hi, u'.heap.size = hi := ⟨_, rfl⟩
            have hh2 : hi2 ≤ u'.heap.size := by omega
            rw [hlo2, hhi2] at hnew hR2 hT2
            have hV2 := hnew
            (try go_wp2_with fail)
            refine hK.out _ _ Bk2 (fun hHeld2 => ?_)
            clear hK K hHeld Bk hR hT hV1 hh1
            have hR := hR'
            have hT := hT'
            have hV1 := hV1'
            have hh1 := hh1'
            have Bk := Bk2
            have hHeld := hHeld2
            clear hHeld2 Bk2 hR' hT' hV1' hh1'
            clear hk hp ht hb hnew hlo2 hhi2
            generalize u' = u at *
            (try simp only [Act.put, List.getElem_toArray, List.getElem_cons_zero, List.getElem_cons_succ, List.setIfInBounds_toArray, List.set_cons_zero, List.set_cons_succ])
            refine wpAnyH_ready (rs := [7]) (by kernel_rfl) (by simp) ?_
            refine AllReadyH.cons rfl (fun K hK => ?_) AllReadyH.nil
            · obtain ⟨m0, m1, m2, m3, m4⟩ := sc_cells5 hR
              obtain ⟨f0, f1, f2, f3, f4⟩ := frz5 hR
              go_simp
              have hX2 : Bx5 _ R (.int .i64 st) (.int .i64 rm) (.slice c1 cs.length k1) (.slice p1 qs.length j1) (.slice t1 ts.length l1) := s5_row (a0 := (.int .i64 st)) (a1 := (.int .i64 rm)) (a2 := (.slice c1 cs.length k1)) (a3 := (.slice p1 qs.length j1)) (a4 := (.slice t1 ts.length l1)) hR
              have hO2 := hT.set5 (b' := R) (Ne.symm hne) (.int .i64 st) (.int .i64 rm) (.slice c1 cs.length k1) (.slice p1 qs.length j1) (.slice t1 ts.length l1)
              have hV12 := hV1.set5 (b := R) hR1 (.int .i64 st) (.int .i64 rm) (.slice c1 cs.length k1) (.slice p1 qs.length j1) (.slice t1 ts.length l1)
              have hV22 := hV2.set5 (b := R) hR2 (.int .i64 st) (.int .i64 rm) (.slice c1 cs.length k1) (.slice p1 qs.length j1) (.slice t1 ts.length l1)
              have Bk2 := s5_below (b := R) (a0 := (.int .i64 st)) (a1 := (.int .i64 rm)) (a2 := (.slice c1 cs.length k1)) (a3 := (.slice p1 qs.length j1)) (a4 := (.slice t1 ts.length l1)) Bk hgeR
              refine hK.out _ _ Bk2 (fun hHeld2 => ?_)
              clear hK K hHeld Bk hR hT hV1 hV2 m0 m1 m2 m3 m4 f0 f1 f2 f3 f4
              have hR := hX2
              have hT := hO2
              have hV1 := hV12
              have hV2 := hV22
              have Bk := Bk2
              have hHeld := hHeld2
              clear hHeld2 Bk2 hX2 hO2 hV12 hV22
              (try simp only [Act.put, List.getElem_toArray, List.getElem_cons_zero, List.getElem_cons_succ, List.setIfInBounds_toArray, List.set_cons_zero, List.set_cons_succ])
              generalize (((((u.setCell ⟨R, 0, none⟩ (.int .i64 st)).setCell ⟨R, 1, none⟩ (.int .i64 rm)).setCell ⟨R, 2, none⟩ (.slice c1 cs.length k1)).setCell ⟨R, 3, none⟩ (.slice p1 qs.length j1)).setCell ⟨R, 4, none⟩ (.slice t1 ts.length l1)) = u at *
              refine wpAnyH_ready (rs := [8]) (by kernel_rfl) (by simp) ?_
              refine AllReadyH.cons rfl (fun K hK => ?_) AllReadyH.nil
              · obtain ⟨m0, m1, m2, m3, m4⟩ := sc_cells5 hT
                obtain ⟨f0, f1, f2, f3, f4⟩ := frz5 hT
                go_simp
                have hX2 : Bx5 _ T (.int .i64 st) (.int .i64 rm) (.slice c2 cs.length k2) (.slice p2 ps.length j2) (.slice t2 ts.length l2) := s5_row (a0 := (.int .i64 st)) (a1 := (.int .i64 rm)) (a2 := (.slice c2 cs.length k2)) (a3 := (.slice p2 ps.length j2)) (a4 := (.slice t2 ts.length l2)) hT
                have hO2 := hR.set5 (b' := T) hne (.int .i64 st) (.int .i64 rm) (.slice c2 cs.length k2) (.slice p2 ps.length j2) (.slice t2 ts.length l2)
                have hV12 := hV1.set5 (b := T) hT1 (.int .i64 st) (.int .i64 rm) (.slice c2 cs.length k2) (.slice p2 ps.length j2) (.slice t2 ts.length l2)
                have hV22 := hV2.set5 (b := T) hT2 (.int .i64 st) (.int .i64 rm) (.slice c2 cs.length k2) (.slice p2 ps.length j2) (.slice t2 ts.length l2)
                have Bk2 := s5_below (b := T) (a0 := (.int .i64 st)) (a1 := (.int .i64 rm)) (a2 := (.slice c2 cs.length k2)) (a3 := (.slice p2 ps.length j2)) (a4 := (.slice t2 ts.length l2)) Bk hgeT
                refine hK.out _ _ Bk2 (fun hHeld2 => ?_)
                clear hK K hHeld Bk hR hT hV1 hV2 m0 m1 m2 m3 m4 f0 f1 f2 f3 f4
                have hT := hX2
                have hR := hO2
                have hV1 := hV12
                have hV2 := hV22
                have Bk := Bk2
                have hHeld := hHeld2
                clear hHeld2 Bk2 hX2 hO2 hV12 hV22
                (try simp only [Act.put, List.getElem_toArray, List.getElem_cons_zero, List.getElem_cons_succ, List.setIfInBounds_toArray, List.set_cons_zero, List.set_cons_succ])
                generalize (((((u.setCell ⟨T, 0, none⟩ (.int .i64 st)).setCell ⟨T, 1, none⟩ (.int .i64 rm)).setCell ⟨T, 2, none⟩ (.slice c2 cs.length k2)).setCell ⟨T, 3, none⟩ (.slice p2 ps.length j2)).setCell ⟨T, 4, none⟩ (.slice t2 ts.length l2)) = u at *
                refine wpAnyH_done (by kernel_rfl) ?_ _
                go_wp2_with fail
                go_meet
                case rel => exact ⟨R, T, c1, k1, p1, j1, t1, l1, c2, k2, p2, j2, t2, l2, rfl, rfl, hR, hT, hV1.rows, hV2.rows, Bk⟩
      refine AllReadyH.cons rfl (fun K hK => ?_) AllReadyH.nil
      · obtain ⟨u', hu', hnew, hb, hsz⟩ := boxG u #[.int .i64 0, .int .i64 0, .slice none 0 0, .slice none 0 0, .slice none 0 0] 25
        have hR' := hR.below hb
        have Bk2 := Bk.trans (hb.mono Bk.size)
        obtain ⟨T, hT0⟩ : ∃ x, u.heap.size = x := ⟨_, rfl⟩
        have hne : R ≠ T := by have := hR.lt; omega
        have hgeT : w0.heap.size ≤ T := by have := Bk.size; omega
        have hT : Bx5 u' T (.int .i64 0) (.int .i64 0) (.slice none 0 0) (.slice none 0 0) (.slice none 0 0) := by rw [← hT0]; exact hnew
        go_simp
        (try rw [hu'])
        (try rw [hT0])
        refine hK.out _ _ Bk2 (fun hHeld2 => ?_)
        clear hK K hHeld Bk hR
        have hR := hR'
        have Bk := Bk2
        have hHeld := hHeld2
        clear hHeld2 Bk2 hR'
        clear hnew hb hsz hu' hT0
        generalize u' = u at *
        (try simp only [Act.put, List.getElem_toArray, List.getElem_cons_zero, List.getElem_cons_succ, List.setIfInBounds_toArray, List.set_cons_zero, List.set_cons_succ])
        refine wpAnyH_ready (rs := [2]) (by kernel_rfl) (by simp) ?_
        refine AllReadyH.cons rfl (fun K hK => ?_) AllReadyH.nil
        · go_simp
          refine (HD.out u Bk).mono ?_
          rintro e u' ⟨c1, k1, p1, j1, t1, l1, rfl, hk, hp, ht, hb⟩
          have hnew := ScV.of (lo := u.heap.size) hk hp ht
          have hR1 : R < u.heap.size ∨ u'.heap.size ≤ R := .inl hR.lt
          have hT1 : T < u.heap.size ∨ u'.heap.size ≤ T := .inl hT.lt
          have hR' := hR.below hb
          have hT' := hT.below hb
          have Bk2 := Bk.trans (hb.mono Bk.size)
          obtain ⟨lo1, hlo1⟩ : ∃ lo, u.heap.size = lo := ⟨_, rfl⟩
          obtain ⟨hi1, hhi1⟩ : ∃ hi, u'.heap.size = hi := ⟨_, rfl⟩
          have hh1 : hi1 ≤ u'.heap.size := by omega
          rw [hlo1, hhi1] at hnew hR1 hT1
          have hV1 := hnew
          (try go_wp2_with fail)
          refine hK.out _ _ Bk2 (fun hHeld2 => ?_)
          clear hK K hHeld Bk hR hT
          have hR := hR'
          have hT := hT'
          have Bk := Bk2
          have hHeld := hHeld2
          clear hHeld2 Bk2 hR' hT'
          clear hk hp ht hb hnew hlo1 hhi1
          generalize u' = u at *
          (try simp only [Act.put, List.getElem_toArray, List.getElem_cons_zero, List.getElem_cons_succ, List.setIfInBounds_toArray, List.set_cons_zero, List.set_cons_succ])
          refine wpAnyH_ready (rs := [4]) (by kernel_rfl) (by simp) ?_
          refine AllReadyH.cons rfl (fun K hK => ?_) AllReadyH.nil
          · go_simp
            refine (CN.out u Bk).mono ?_
            rintro e u' ⟨c2, k2, p2, j2, t2, l2, rfl, hk, hp, ht, hb⟩
            have hnew := ScV.of (lo := u.heap.size) hk hp ht
            have hR2 : R < u.heap.size ∨ u'.heap.size ≤ R := .inl hR.lt
            have hT2 : T < u.heap.size ∨ u'.heap.size ≤ T := .inl hT.lt
            have hR' := hR.below hb
            have hT' := hT.below hb
            have hV1' := hV1.below hb
            have hh1' := Nat.le_trans hh1 hb.size
            have Bk2 := Bk.trans (hb.mono Bk.size)
            obtain ⟨lo2, hlo2⟩ : ∃ lo, u.heap.size = lo := ⟨_, rfl⟩
            obtain ⟨hi2, hhi2⟩ : ∃ hi, u'.heap.size = hi := ⟨_, rfl⟩
            have hh2 : hi2 ≤ u'.heap.size := by omega
            rw [hlo2, hhi2] at hnew hR2 hT2
            have hV2 := hnew
            (try go_wp2_with fail)
            refine hK.out _ _ Bk2 (fun hHeld2 => ?_)
            clear hK K hHeld Bk hR hT hV1 hh1
            have hR := hR'
            have hT := hT'
            have hV1 := hV1'
            have hh1 := hh1'
            have Bk := Bk2
            have hHeld := hHeld2
            clear hHeld2 Bk2 hR' hT' hV1' hh1'
            clear hk hp ht hb hnew hlo2 hhi2
            generalize u' = u at *
            (try simp only [Act.put, List.getElem_toArray, List.getElem_cons_zero, List.getElem_cons_succ, List.setIfInBounds_toArray, List.set_cons_zero, List.set_cons_succ])
            refine wpAnyH_ready (rs := [7]) (by kernel_rfl) (by simp) ?_
            refine AllReadyH.cons rfl (fun K hK => ?_) AllReadyH.nil
            · obtain ⟨m0, m1, m2, m3, m4⟩ := sc_cells5 hR
              obtain ⟨f0, f1, f2, f3, f4⟩ := frz5 hR
              go_simp
              have hX2 : Bx5 _ R (.int .i64 st) (.int .i64 rm) (.slice c1 cs.length k1) (.slice p1 qs.length j1) (.slice t1 ts.length l1) := s5_row (a0 := (.int .i64 st)) (a1 := (.int .i64 rm)) (a2 := (.slice c1 cs.length k1)) (a3 := (.slice p1 qs.length j1)) (a4 := (.slice t1 ts.length l1)) hR
              have hO2 := hT.set5 (b' := R) (Ne.symm hne) (.int .i64 st) (.int .i64 rm) (.slice c1 cs.length k1) (.slice p1 qs.length j1) (.slice t1 ts.length l1)
              have hV12 := hV1.set5 (b := R) hR1 (.int .i64 st) (.int .i64 rm) (.slice c1 cs.length k1) (.slice p1 qs.length j1) (.slice t1 ts.length l1)
              have hV22 := hV2.set5 (b := R) hR2 (.int .i64 st) (.int .i64 rm) (.slice c1 cs.length k1) (.slice p1 qs.length j1) (.slice t1 ts.length l1)
              have Bk2 := s5_below (b := R) (a0 := (.int .i64 st)) (a1 := (.int .i64 rm)) (a2 := (.slice c1 cs.length k1)) (a3 := (.slice p1 qs.length j1)) (a4 := (.slice t1 ts.length l1)) Bk hgeR
              refine hK.out _ _ Bk2 (fun hHeld2 => ?_)
              clear hK K hHeld Bk hR hT hV1 hV2 m0 m1 m2 m3 m4 f0 f1 f2 f3 f4
              have hR := hX2
              have hT := hO2
              have hV1 := hV12
              have hV2 := hV22
              have Bk := Bk2
              have hHeld := hHeld2
              clear hHeld2 Bk2 hX2 hO2 hV12 hV22
              (try simp only [Act.put, List.getElem_toArray, List.getElem_cons_zero, List.getElem_cons_succ, List.setIfInBounds_toArray, List.set_cons_zero, List.set_cons_succ])
              generalize (((((u.setCell ⟨R, 0, none⟩ (.int .i64 st)).setCell ⟨R, 1, none⟩ (.int .i64 rm)).setCell ⟨R, 2, none⟩ (.slice c1 cs.length k1)).setCell ⟨R, 3, none⟩ (.slice p1 qs.length j1)).setCell ⟨R, 4, none⟩ (.slice t1 ts.length l1)) = u at *
              refine wpAnyH_ready (rs := [8]) (by kernel_rfl) (by simp) ?_
              refine AllReadyH.cons rfl (fun K hK => ?_) AllReadyH.nil
              · obtain ⟨m0, m1, m2, m3, m4⟩ := sc_cells5 hT
                obtain ⟨f0, f1, f2, f3, f4⟩ := frz5 hT
                go_simp
                have hX2 : Bx5 _ T (.int .i64 st) (.int .i64 rm) (.slice c2 cs.length k2) (.slice p2 ps.length j2) (.slice t2 ts.length l2) := s5_row (a0 := (.int .i64 st)) (a1 := (.int .i64 rm)) (a2 := (.slice c2 cs.length k2)) (a3 := (.slice p2 ps.length j2)) (a4 := (.slice t2 ts.length l2)) hT
                have hO2 := hR.set5 (b' := T) hne (.int .i64 st) (.int .i64 rm) (.slice c2 cs.length k2) (.slice p2 ps.length j2) (.slice t2 ts.length l2)
                have hV12 := hV1.set5 (b := T) hT1 (.int .i64 st) (.int .i64 rm) (.slice c2 cs.length k2) (.slice p2 ps.length j2) (.slice t2 ts.length l2)
                have hV22 := hV2.set5 (b := T) hT2 (.int .i64 st) (.int .i64 rm) (.slice c2 cs.length k2) (.slice p2 ps.length j2) (.slice t2 ts.length l2)
                have Bk2 := s5_below (b := T) (a0 := (.int .i64 st)) (a1 := (.int .i64 rm)) (a2 := (.slice c2 cs.length k2)) (a3 := (.slice p2 ps.length j2)) (a4 := (.slice t2 ts.length l2)) Bk hgeT
                refine hK.out _ _ Bk2 (fun hHeld2 => ?_)
                clear hK K hHeld Bk hR hT hV1 hV2 m0 m1 m2 m3 m4 f0 f1 f2 f3 f4
                have hT := hX2
                have hR := hO2
                have hV1 := hV12
                have hV2 := hV22
                have Bk := Bk2
                have hHeld := hHeld2
                clear hHeld2 Bk2 hX2 hO2 hV12 hV22
                (try simp only [Act.put, List.getElem_toArray, List.getElem_cons_zero, List.getElem_cons_succ, List.setIfInBounds_toArray, List.set_cons_zero, List.set_cons_succ])
                generalize (((((u.setCell ⟨T, 0, none⟩ (.int .i64 st)).setCell ⟨T, 1, none⟩ (.int .i64 rm)).setCell ⟨T, 2, none⟩ (.slice c2 cs.length k2)).setCell ⟨T, 3, none⟩ (.slice p2 ps.length j2)).setCell ⟨T, 4, none⟩ (.slice t2 ts.length l2)) = u at *
                refine wpAnyH_done (by kernel_rfl) ?_ _
                go_wp2_with fail
                go_meet
                case rel => exact ⟨R, T, c1, k1, p1, j1, t1, l1, c2, k2, p2, j2, t2, l2, rfl, rfl, hR, hT, hV1.rows, hV2.rows, Bk⟩
    refine AllReadyH.cons rfl (fun K hK => ?_) AllReadyH.nil
    · obtain ⟨u', hu', hnew, hb, hsz⟩ := boxG u #[.int .i64 0, .int .i64 0, .slice none 0 0, .slice none 0 0, .slice none 0 0] 25
      have Bk2 := Bk.trans (hb.mono Bk.size)
      obtain ⟨T, hT0⟩ : ∃ x, u.heap.size = x := ⟨_, rfl⟩
      have hgeT : w0.heap.size ≤ T := by have := Bk.size; omega
      have hT : Bx5 u' T (.int .i64 0) (.int .i64 0) (.slice none 0 0) (.slice none 0 0) (.slice none 0 0) := by rw [← hT0]; exact hnew
      go_simp
      (try rw [hu'])
      (try rw [hT0])
      refine hK.out _ _ Bk2 (fun hHeld2 => ?_)
      clear hK K hHeld Bk
      have Bk := Bk2
      have hHeld := hHeld2
      clear hHeld2 Bk2
      clear hnew hb hsz hu' hT0
      generalize u' = u at *
      (try simp only [Act.put, List.getElem_toArray, List.getElem_cons_zero, List.getElem_cons_succ, List.setIfInBounds_toArray, List.set_cons_zero, List.set_cons_succ])
      refine wpAnyH_ready (rs := [2, 5]) (by kernel_rfl) (by simp) ?_
      refine AllReadyH.cons rfl (fun K hK => ?_) ?_
      · go_simp
        refine (HD.out u Bk).mono ?_
        rintro e u' ⟨c1, k1, p1, j1, t1, l1, rfl, hk, hp, ht, hb⟩
        have hnew := ScV.of (lo := u.heap.size) hk hp ht
        have hT1 : T < u.heap.size ∨ u'.heap.size ≤ T := .inl hT.lt
        have hT' := hT.below hb
        have Bk2 := Bk.trans (hb.mono Bk.size)
        obtain ⟨lo1, hlo1⟩ : ∃ lo, u.heap.size = lo := ⟨_, rfl⟩
        obtain ⟨hi1, hhi1⟩ : ∃ hi, u'.heap.size = hi := ⟨_, rfl⟩
        have hh1 : hi1 ≤ u'.heap.size := by omega
        rw [hlo1, hhi1] at hnew hT1
        have hV1 := hnew
        (try go_wp2_with fail)
        refine hK.out _ _ Bk2 (fun hHeld2 => ?_)
        clear hK K hHeld Bk hT
        have hT := hT'
        have Bk := Bk2
        have hHeld := hHeld2
        clear hHeld2 Bk2 hT'
        clear hk hp ht hb hnew hlo1 hhi1
        generalize u' = u at *
        (try simp only [Act.put, List.getElem_toArray, List.getElem_cons_zero, List.getElem_cons_succ, List.setIfInBounds_toArray, List.set_cons_zero, List.set_cons_succ])
        refine wpAnyH_ready (rs := [4, 5]) (by kernel_rfl) (by simp) ?_
        refine AllReadyH.cons rfl (fun K hK => ?_) ?_
        · go_simp
          refine (CN.out u Bk).mono ?_
          rintro e u' ⟨c2, k2, p2, j2, t2, l2, rfl, hk, hp, ht, hb⟩
          have hnew := ScV.of (lo := u.heap.size) hk hp ht
          have hT2 : T < u.heap.size ∨ u'.heap.size ≤ T := .inl hT.lt
          have hT' := hT.below hb
          have hV1' := hV1.below hb
          have hh1' := Nat.le_trans hh1 hb.size
          have Bk2 := Bk.trans (hb.mono Bk.size)
          obtain ⟨lo2, hlo2⟩ : ∃ lo, u.heap.size = lo := ⟨_, rfl⟩
          obtain ⟨hi2, hhi2⟩ : ∃ hi, u'.heap.size = hi := ⟨_, rfl⟩
          have hh2 : hi2 ≤ u'.heap.size := by omega
          rw [hlo2, hhi2] at hnew hT2
          have hV2 := hnew
          (try go_wp2_with fail)
          refine hK.out _ _ Bk2 (fun hHeld2 => ?_)
          clear hK K hHeld Bk hT hV1 hh1
          have hT := hT'
          have hV1 := hV1'
          have hh1 := hh1'
          have Bk := Bk2
          have hHeld := hHeld2
          clear hHeld2 Bk2 hT' hV1' hh1'
          clear hk hp ht hb hnew hlo2 hhi2
          generalize u' = u at *
          (try simp only [Act.put, List.getElem_toArray, List.getElem_cons_zero, List.getElem_cons_succ, List.setIfInBounds_toArray, List.set_cons_zero, List.set_cons_succ])
          refine wpAnyH_ready (rs := [5]) (by kernel_rfl) (by simp) ?_
          refine AllReadyH.cons rfl (fun K hK => ?_) AllReadyH.nil
          · obtain ⟨u', hu', hnew, hb, hsz⟩ := boxG u #[.int .i64 0, .int .i64 0, .slice none 0 0, .slice none 0 0, .slice none 0 0] 25
            have hT' := hT.below hb
            have hV1' := hV1.below hb
            have hh1' := Nat.le_trans hh1 hb.size
            have hV2' := hV2.below hb
            have hh2' := Nat.le_trans hh2 hb.size
            have Bk2 := Bk.trans (hb.mono Bk.size)
            obtain ⟨R, hR0⟩ : ∃ x, u.heap.size = x := ⟨_, rfl⟩
            have hR1 : R < lo1 ∨ hi1 ≤ R := .inr (by omega)
            have hR2 : R < lo2 ∨ hi2 ≤ R := .inr (by omega)
            have hne : R ≠ T := by have := hT.lt; omega
            have hgeR : w0.heap.size ≤ R := by have := Bk.size; omega
            have hR : Bx5 u' R (.int .i64 0) (.int .i64 0) (.slice none 0 0) (.slice none 0 0) (.slice none 0 0) := by rw [← hR0]; exact hnew
            go_simp
            (try rw [hu'])
            (try rw [hR0])
            refine hK.out _ _ Bk2 (fun hHeld2 => ?_)
            clear hK K hHeld Bk hT hV1 hh1 hV2 hh2
            have hT := hT'
            have hV1 := hV1'
            have hh1 := hh1'
            have hV2 := hV2'
            have hh2 := hh2'
            have Bk := Bk2
            have hHeld := hHeld2
            clear hHeld2 Bk2 hT' hV1' hh1' hV2' hh2'
            clear hnew hb hsz hu' hR0
            generalize u' = u at *
            (try simp only [Act.put, List.getElem_toArray, List.getElem_cons_zero, List.getElem_cons_succ, List.setIfInBounds_toArray, List.set_cons_zero, List.set_cons_succ])
            refine wpAnyH_ready (rs := [7]) (by kernel_rfl) (by simp) ?_
            refine AllReadyH.cons rfl (fun K hK => ?_) AllReadyH.nil
            · obtain ⟨m0, m1, m2, m3, m4⟩ := sc_cells5 hR
              obtain ⟨f0, f1, f2, f3, f4⟩ := frz5 hR
              go_simp
              have hX2 : Bx5 _ R (.int .i64 st) (.int .i64 rm) (.slice c1 cs.length k1) (.slice p1 qs.length j1) (.slice t1 ts.length l1) := s5_row (a0 := (.int .i64 st)) (a1 := (.int .i64 rm)) (a2 := (.slice c1 cs.length k1)) (a3 := (.slice p1 qs.length j1)) (a4 := (.slice t1 ts.length l1)) hR
              have hO2 := hT.set5 (b' := R) (Ne.symm hne) (.int .i64 st) (.int .i64 rm) (.slice c1 cs.length k1) (.slice p1 qs.length j1) (.slice t1 ts.length l1)
              have hV12 := hV1.set5 (b := R) hR1 (.int .i64 st) (.int .i64 rm) (.slice c1 cs.length k1) (.slice p1 qs.length j1) (.slice t1 ts.length l1)
              have hV22 := hV2.set5 (b := R) hR2 (.int .i64 st) (.int .i64 rm) (.slice c1 cs.length k1) (.slice p1 qs.length j1) (.slice t1 ts.length l1)
              have Bk2 := s5_below (b := R) (a0 := (.int .i64 st)) (a1 := (.int .i64 rm)) (a2 := (.slice c1 cs.length k1)) (a3 := (.slice p1 qs.length j1)) (a4 := (.slice t1 ts.length l1)) Bk hgeR
              refine hK.out _ _ Bk2 (fun hHeld2 => ?_)
              clear hK K hHeld Bk hR hT hV1 hV2 m0 m1 m2 m3 m4 f0 f1 f2 f3 f4
              have hR := hX2
              have hT := hO2
              have hV1 := hV12
              have hV2 := hV22
              have Bk := Bk2
              have hHeld := hHeld2
              clear hHeld2 Bk2 hX2 hO2 hV12 hV22
              (try simp only [Act.put, List.getElem_toArray, List.getElem_cons_zero, List.getElem_cons_succ, List.setIfInBounds_toArray, List.set_cons_zero, List.set_cons_succ])
              generalize (((((u.setCell ⟨R, 0, none⟩ (.int .i64 st)).setCell ⟨R, 1, none⟩ (.int .i64 rm)).setCell ⟨R, 2, none⟩ (.slice c1 cs.length k1)).setCell ⟨R, 3, none⟩ (.slice p1 qs.length j1)).setCell ⟨R, 4, none⟩ (.slice t1 ts.length l1)) = u at *
              refine wpAnyH_ready (rs := [8]) (by kernel_rfl) (by simp) ?_
              refine AllReadyH.cons rfl (fun K hK => ?_) AllReadyH.nil
              · obtain ⟨m0, m1, m2, m3, m4⟩ := sc_cells5 hT
                obtain ⟨f0, f1, f2, f3, f4⟩ := frz5 hT
                go_simp
                have hX2 : Bx5 _ T (.int .i64 st) (.int .i64 rm) (.slice c2 cs.length k2) (.slice p2 ps.length j2) (.slice t2 ts.length l2) := s5_row (a0 := (.int .i64 st)) (a1 := (.int .i64 rm)) (a2 := (.slice c2 cs.length k2)) (a3 := (.slice p2 ps.length j2)) (a4 := (.slice t2 ts.length l2)) hT
                have hO2 := hR.set5 (b' := T) hne (.int .i64 st) (.int .i64 rm) (.slice c2 cs.length k2) (.slice p2 ps.length j2) (.slice t2 ts.length l2)
                have hV12 := hV1.set5 (b := T) hT1 (.int .i64 st) (.int .i64 rm) (.slice c2 cs.length k2) (.slice p2 ps.length j2) (.slice t2 ts.length l2)
                have hV22 := hV2.set5 (b := T) hT2 (.int .i64 st) (.int .i64 rm) (.slice c2 cs.length k2) (.slice p2 ps.length j2) (.slice t2 ts.length l2)
                have Bk2 := s5_below (b := T) (a0 := (.int .i64 st)) (a1 := (.int .i64 rm)) (a2 := (.slice c2 cs.length k2)) (a3 := (.slice p2 ps.length j2)) (a4 := (.slice t2 ts.length l2)) Bk hgeT
                refine hK.out _ _ Bk2 (fun hHeld2 => ?_)
                clear hK K hHeld Bk hR hT hV1 hV2 m0 m1 m2 m3 m4 f0 f1 f2 f3 f4
                have hT := hX2
                have hR := hO2
                have hV1 := hV12
                have hV2 := hV22
                have Bk := Bk2
                have hHeld := hHeld2
                clear hHeld2 Bk2 hX2 hO2 hV12 hV22
                (try simp only [Act.put, List.getElem_toArray, List.getElem_cons_zero, List.getElem_cons_succ, List.setIfInBounds_toArray, List.set_cons_zero, List.set_cons_succ])
                generalize (((((u.setCell ⟨T, 0, none⟩ (.int .i64 st)).setCell ⟨T, 1, none⟩ (.int .i64 rm)).setCell ⟨T, 2, none⟩ (.slice c2 cs.length k2)).setCell ⟨T, 3, none⟩ (.slice p2 ps.length j2)).setCell ⟨T, 4, none⟩ (.slice t2 ts.length l2)) = u at *
                refine wpAnyH_done (by kernel_rfl) ?_ _
                go_wp2_with fail
                go_meet
                case rel => exact ⟨R, T, c1, k1, p1, j1, t1, l1, c2, k2, p2, j2, t2, l2, rfl, rfl, hR, hT, hV1.rows, hV2.rows, Bk⟩
        refine AllReadyH.cons rfl (fun K hK => ?_) AllReadyH.nil
        · obtain ⟨u', hu', hnew, hb, hsz⟩ := boxG u #[.int .i64 0, .int .i64 0, .slice none 0 0, .slice none 0 0, .slice none 0 0] 25
          have hT' := hT.below hb
          have hV1' := hV1.below hb
          have hh1' := Nat.le_trans hh1 hb.size
          have Bk2 := Bk.trans (hb.mono Bk.size)
          obtain ⟨R, hR0⟩ : ∃ x, u.heap.size = x := ⟨_, rfl⟩
          have hR1 : R < lo1 ∨ hi1 ≤ R := .inr (by omega)
          have hne : R ≠ T := by have := hT.lt; omega
          have hgeR : w0.heap.size ≤ R := by have := Bk.size; omega
          have hR : Bx5 u' R (.int .i64 0) (.int .i64 0) (.slice none 0 0) (.slice none 0 0) (.slice none 0 0) := by rw [← hR0]; exact hnew
          go_simp
          (try rw [hu'])
          (try rw [hR0])
          refine hK.out _ _ Bk2 (fun hHeld2 => ?_)
          clear hK K hHeld Bk hT hV1 hh1
          have hT := hT'
          have hV1 := hV1'
          have hh1 := hh1'
          have Bk := Bk2
          have hHeld := hHeld2
          clear hHeld2 Bk2 hT' hV1' hh1'
          clear hnew hb hsz hu' hR0
          generalize u' = u at *
          (try simp only [Act.put, List.getElem_toArray, List.getElem_cons_zero, List.getElem_cons_succ, List.setIfInBounds_toArray, List.set_cons_zero, List.set_cons_succ])
          refine wpAnyH_ready (rs := [4]) (by kernel_rfl) (by simp) ?_
          refine AllReadyH.cons rfl (fun K hK => ?_) AllReadyH.nil
          · go_simp
            refine (CN.out u Bk).mono ?_
            rintro e u' ⟨c2, k2, p2, j2, t2, l2, rfl, hk, hp, ht, hb⟩
            have hnew := ScV.of (lo := u.heap.size) hk hp ht
            have hR2 : R < u.heap.size ∨ u'.heap.size ≤ R := .inl hR.lt
            have hT2 : T < u.heap.size ∨ u'.heap.size ≤ T := .inl hT.lt
            have hR' := hR.below hb
            have hT' := hT.below hb
            have hV1' := hV1.below hb
            have hh1' := Nat.le_trans hh1 hb.size
            have Bk2 := Bk.trans (hb.mono Bk.size)
            obtain ⟨lo2, hlo2⟩ : ∃ lo, u.heap.size = lo := ⟨_, rfl⟩
            obtain ⟨hi2, hhi2⟩ : ∃ hi, u'.heap.size = hi := ⟨_, rfl⟩
            have hh2 : hi2 ≤ u'.heap.size := by omega
            rw [hlo2, hhi2] at hnew hR2 hT2
            have hV2 := hnew
            (try go_wp2_with fail)
            refine hK.out _ _ Bk2 (fun hHeld2 => ?_)
            clear hK K hHeld Bk hR hT hV1 hh1
            have hR := hR'
            have hT := hT'
            have hV1 := hV1'
            have hh1 := hh1'
            have Bk := Bk2
            have hHeld := hHeld2
            clear hHeld2 Bk2 hR' hT' hV1' hh1'
            clear hk hp ht hb hnew hlo2 hhi2
            generalize u' = u at *
            (try simp only [Act.put, List.getElem_toArray, List.getElem_cons_zero, List.getElem_cons_succ, List.setIfInBounds_toArray, List.set_cons_zero, List.set_cons_succ])
            refine wpAnyH_ready (rs := [7]) (by kernel_rfl) (by simp) ?_
            refine AllReadyH.cons rfl (fun K hK => ?_) AllReadyH.nil
            · obtain ⟨m0, m1, m2, m3, m4⟩ := sc_cells5 hR
              obtain ⟨f0, f1, f2, f3, f4⟩ := frz5 hR
              go_simp
              have hX2 : Bx5 _ R (.int .i64 st) (.int .i64 rm) (.slice c1 cs.length k1) (.slice p1 qs.length j1) (.slice t1 ts.length l1) := s5_row (a0 := (.int .i64 st)) (a1 := (.int .i64 rm)) (a2 := (.slice c1 cs.length k1)) (a3 := (.slice p1 qs.length j1)) (a4 := (.slice t1 ts.length l1)) hR
              have hO2 := hT.set5 (b' := R) (Ne.symm hne) (.int .i64 st) (.int .i64 rm) (.slice c1 cs.length k1) (.slice p1 qs.length j1) (.slice t1 ts.length l1)
              have hV12 := hV1.set5 (b := R) hR1 (.int .i64 st) (.int .i64 rm) (.slice c1 cs.length k1) (.slice p1 qs.length j1) (.slice t1 ts.length l1)
              have hV22 := hV2.set5 (b := R) hR2 (.int .i64 st) (.int .i64 rm) (.slice c1 cs.length k1) (.slice p1 qs.length j1) (.slice t1 ts.length l1)
              have Bk2 := s5_below (b := R) (a0 := (.int .i64 st)) (a1 := (.int .i64 rm)) (a2 := (.slice c1 cs.length k1)) (a3 := (.slice p1 qs.length j1)) (a4 := (.slice t1 ts.length l1)) Bk hgeR
              refine hK.out _ _ Bk2 (fun hHeld2 => ?_)
              clear hK K hHeld Bk hR hT hV1 hV2 m0 m1 m2 m3 m4 f0 f1 f2 f3 f4
              have hR := hX2
              have hT := hO2
              have hV1 := hV12
              have hV2 := hV22
              have Bk := Bk2
              have hHeld := hHeld2
              clear hHeld2 Bk2 hX2 hO2 hV12 hV22
              (try simp only [Act.put, List.getElem_toArray, List.getElem_cons_zero, List.getElem_cons_succ, List.setIfInBounds_toArray, List.set_cons_zero, List.set_cons_succ])
              generalize (((((u.setCell ⟨R, 0, none⟩ (.int .i64 st)).setCell ⟨R, 1, none⟩ (.int .i64 rm)).setCell ⟨R, 2, none⟩ (.slice c1 cs.length k1)).setCell ⟨R, 3, none⟩ (.slice p1 qs.length j1)).setCell ⟨R, 4, none⟩ (.slice t1 ts.length l1)) = u at *
              refine wpAnyH_ready (rs := [8]) (by kernel_rfl) (by simp) ?_
              refine AllReadyH.cons rfl (fun K hK => ?_) AllReadyH.nil
              · obtain ⟨m0, m1, m2, m3, m4⟩ := sc_cells5 hT
                obtain ⟨f0, f1, f2, f3, f4⟩ := frz5 hT
                go_simp
                have hX2 : Bx5 _ T (.int .i64 st) (.int .i64 rm) (.slice c2 cs.length k2) (.slice p2 ps.length j2) (.slice t2 ts.length l2) := s5_row (a0 := (.int .i64 st)) (a1 := (.int .i64 rm)) (a2 := (.slice c2 cs.length k2)) (a3 := (.slice p2 ps.length j2)) (a4 := (.slice t2 ts.length l2)) hT
                have hO2 := hR.set5 (b' := T) hne (.int .i64 st) (.int .i64 rm) (.slice c2 cs.length k2) (.slice p2 ps.length j2) (.slice t2 ts.length l2)
                have hV12 := hV1.set5 (b := T) hT1 (.int .i64 st) (.int .i64 rm) (.slice c2 cs.length k2) (.slice p2 ps.length j2) (.slice t2 ts.length l2)
                have hV22 := hV2.set5 (b := T) hT2 (.int .i64 st) (.int .i64 rm) (.slice c2 cs.length k2) (.slice p2 ps.length j2) (.slice t2 ts.length l2)
                have Bk2 := s5_below (b := T) (a0 := (.int .i64 st)) (a1 := (.int .i64 rm)) (a2 := (.slice c2 cs.length k2)) (a3 := (.slice p2 ps.length j2)) (a4 := (.slice t2 ts.length l2)) Bk hgeT
                refine hK.out _ _ Bk2 (fun hHeld2 => ?_)
                clear hK K hHeld Bk hR hT hV1 hV2 m0 m1 m2 m3 m4 f0 f1 f2 f3 f4
                have hT := hX2
                have hR := hO2
                have hV1 := hV12
                have hV2 := hV22
                have Bk := Bk2
                have hHeld := hHeld2
                clear hHeld2 Bk2 hX2 hO2 hV12 hV22
                (try simp only [Act.put, List.getElem_toArray, List.getElem_cons_zero, List.getElem_cons_succ, List.setIfInBounds_toArray, List.set_cons_zero, List.set_cons_succ])
                generalize (((((u.setCell ⟨T, 0, none⟩ (.int .i64 st)).setCell ⟨T, 1, none⟩ (.int .i64 rm)).setCell ⟨T, 2, none⟩ (.slice c2 cs.length k2)).setCell ⟨T, 3, none⟩ (.slice p2 ps.length j2)).setCell ⟨T, 4, none⟩ (.slice t2 ts.length l2)) = u at *
                refine wpAnyH_done (by kernel_rfl) ?_ _
                go_wp2_with fail
                go_meet
                case rel => exact ⟨R, T, c1, k1, p1, j1, t1, l1, c2, k2, p2, j2, t2, l2, rfl, rfl, hR, hT, hV1.rows, hV2.rows, Bk⟩
      refine AllReadyH.cons rfl (fun K hK => ?_) AllReadyH.nil
      · obtain ⟨u', hu', hnew, hb, hsz⟩ := boxG u #[.int .i64 0, .int .i64 0, .slice none 0 0, .slice none 0 0, .slice none 0 0] 25
        have hT' := hT.below hb
        have Bk2 := Bk.trans (hb.mono Bk.size)
        obtain ⟨R, hR0⟩ : ∃ x, u.heap.size = x := ⟨_, rfl⟩
        have hne : R ≠ T := by have := hT.lt; omega
        have hgeR : w0.heap.size ≤ R := by have := Bk.size; omega
        have hR : Bx5 u' R (.int .i64 0) (.int .i64 0) (.slice none 0 0) (.slice none 0 0) (.slice none 0 0) := by rw [← hR0]; exact hnew
        go_simp
        (try rw [hu'])
        (try rw [hR0])
        refine hK.out _ _ Bk2 (fun hHeld2 => ?_)
        clear hK K hHeld Bk hT
        have hT := hT'
        have Bk := Bk2
        have hHeld := hHeld2
        clear hHeld2 Bk2 hT'
        clear hnew hb hsz hu' hR0
        generalize u' = u at *
        (try simp only [Act.put, List.getElem_toArray, List.getElem_cons_zero, List.getElem_cons_succ, List.setIfInBounds_toArray, List.set_cons_zero, List.set_cons_succ])
        refine wpAnyH_ready (rs := [2]) (by kernel_rfl) (by simp) ?_
        refine AllReadyH.cons rfl (fun K hK => ?_) AllReadyH.nil
        · go_simp
          refine (HD.out u Bk).mono ?_
          rintro e u' ⟨c1, k1, p1, j1, t1, l1, rfl, hk, hp, ht, hb⟩
          have hnew := ScV.of (lo := u.heap.size) hk hp ht
          have hR1 : R < u.heap.size ∨ u'.heap.size ≤ R := .inl hR.lt
          have hT1 : T < u.heap.size ∨ u'.heap.size ≤ T := .inl hT.lt
          have hR' := hR.below hb
          have hT' := hT.below hb
          have Bk2 := Bk.trans (hb.mono Bk.size)
          obtain ⟨lo1, hlo1⟩ : ∃ lo, u.heap.size = lo := ⟨_, rfl⟩
          obtain ⟨hi1, hhi1⟩ : ∃ hi, u'.heap.size = hi := ⟨_, rfl⟩
          have hh1 : hi1 ≤ u'.heap.size := by omega
          rw [hlo1, hhi1] at hnew hR1 hT1
          have hV1 := hnew
          (try go_wp2_with fail)
          refine hK.out _ _ Bk2 (fun hHeld2 => ?_)
          clear hK K hHeld Bk hR hT
          have hR := hR'
          have hT := hT'
          have Bk := Bk2
          have hHeld := hHeld2
          clear hHeld2 Bk2 hR' hT'
          clear hk hp ht hb hnew hlo1 hhi1
          generalize u' = u at *
          (try simp only [Act.put, List.getElem_toArray, List.getElem_cons_zero, List.getElem_cons_succ, List.setIfInBounds_toArray, List.set_cons_zero, List.set_cons_succ])
          refine wpAnyH_ready (rs := [4]) (by kernel_rfl) (by simp) ?_
          refine AllReadyH.cons rfl (fun K hK => ?_) AllReadyH.nil
          · go_simp
            refine (CN.out u Bk).mono ?_
            rintro e u' ⟨c2, k2, p2, j2, t2, l2, rfl, hk, hp, ht, hb⟩
            have hnew := ScV.of (lo := u.heap.size) hk hp ht
            have hR2 : R < u.heap.size ∨ u'.heap.size ≤ R := .inl hR.lt
            have hT2 : T < u.heap.size ∨ u'.heap.size ≤ T := .inl hT.lt
            have hR' := hR.below hb
            have hT' := hT.below hb
            have hV1' := hV1.below hb
            have hh1' := Nat.le_trans hh1 hb.size
            have Bk2 := Bk.trans (hb.mono Bk.size)
            obtain ⟨lo2, hlo2⟩ : ∃ lo, u.heap.size = lo := ⟨_, rfl⟩
            obtain ⟨hi2, hhi2⟩ : ∃ hi, u'.heap.size = hi := ⟨_, rfl⟩
            have hh2 : hi2 ≤ u'.heap.size := by omega
            rw [hlo2, hhi2] at hnew hR2 hT2
            have hV2 := hnew
            (try go_wp2_with fail)
            refine hK.out _ _ Bk2 (fun hHeld2 => ?_)
            clear hK K hHeld Bk hR hT hV1 hh1
            have hR := hR'
            have hT := hT'
            have hV1 := hV1'
            have hh1 := hh1'
            have Bk := Bk2
            have hHeld := hHeld2
            clear hHeld2 Bk2 hR' hT' hV1' hh1'
            clear hk hp ht hb hnew hlo2 hhi2
            generalize u' = u at *
            (try simp only [Act.put, List.getElem_toArray, List.getElem_cons_zero, List.getElem_cons_succ, List.setIfInBounds_toArray, List.set_cons_zero, List.set_cons_succ])
            refine wpAnyH_ready (rs := [7]) (by kernel_rfl) (by simp) ?_
            refine AllReadyH.cons rfl (fun K hK => ?_) AllReadyH.nil
            · obtain ⟨m0, m1, m2, m3, m4⟩ := sc_cells5 hR
              obtain ⟨f0, f1, f2, f3, f4⟩ := frz5 hR
              go_simp
              have hX2 : Bx5 _ R (.int .i64 st) (.int .i64 rm) (.slice c1 cs.length k1) (.slice p1 qs.length j1) (.slice t1 ts.length l1) := s5_row (a0 := (.int .i64 st)) (a1 := (.int .i64 rm)) (a2 := (.slice c1 cs.length k1)) (a3 := (.slice p1 qs.length j1)) (a4 := (.slice t1 ts.length l1)) hR
              have hO2 := hT.set5 (b' := R) (Ne.symm hne) (.int .i64 st) (.int .i64 rm) (.slice c1 cs.length k1) (.slice p1 qs.length j1) (.slice t1 ts.length l1)
              have hV12 := hV1.set5 (b := R) hR1 (.int .i64 st) (.int .i64 rm) (.slice c1 cs.length k1) (.slice p1 qs.length j1) (.slice t1 ts.length l1)
              have hV22 := hV2.set5 (b := R) hR2 (.int .i64 st) (.int .i64 rm) (.slice c1 cs.length k1) (.slice p1 qs.length j1) (.slice t1 ts.length l1)
              have Bk2 := s5_below (b := R) (a0 := (.int .i64 st)) (a1 := (.int .i64 rm)) (a2 := (.slice c1 cs.length k1)) (a3 := (.slice p1 qs.length j1)) (a4 := (.slice t1 ts.length l1)) Bk hgeR
              refine hK.out _ _ Bk2 (fun hHeld2 => ?_)
              clear hK K hHeld Bk hR hT hV1 hV2 m0 m1 m2 m3 m4 f0 f1 f2 f3 f4
              have hR := hX2
              have hT := hO2
              have hV1 := hV12
              have hV2 := hV22
              have Bk := Bk2
              have hHeld := hHeld2
              clear hHeld2 Bk2 hX2 hO2 hV12 hV22
              (try simp only [Act.put, List.getElem_toArray, List.getElem_cons_zero, List.getElem_cons_succ, List.setIfInBounds_toArray, List.set_cons_zero, List.set_cons_succ])
              generalize (((((u.setCell ⟨R, 0, none⟩ (.int .i64 st)).setCell ⟨R, 1, none⟩ (.int .i64 rm)).setCell ⟨R, 2, none⟩ (.slice c1 cs.length k1)).setCell ⟨R, 3, none⟩ (.slice p1 qs.length j1)).setCell ⟨R, 4, none⟩ (.slice t1 ts.length l1)) = u at *
              refine wpAnyH_ready (rs := [8]) (by kernel_rfl) (by simp) ?_
              refine AllReadyH.cons rfl (fun K hK => ?_) AllReadyH.nil
              · obtain ⟨m0, m1, m2, m3, m4⟩ := sc_cells5 hT
                obtain ⟨f0, f1, f2, f3, f4⟩ := frz5 hT
                go_simp
                have hX2 : Bx5 _ T (.int .i64 st) (.int .i64 rm) (.slice c2 cs.length k2) (.slice p2 ps.length j2) (.slice t2 ts.length l2) := s5_row (a0 := (.int .i64 st)) (a1 := (.int .i64 rm)) (a2 := (.slice c2 cs.length k2)) (a3 := (.slice p2 ps.length j2)) (a4 := (.slice t2 ts.length l2)) hT
                have hO2 := hR.set5 (b' := T) hne (.int .i64 st) (.int .i64 rm) (.slice c2 cs.length k2) (.slice p2 ps.length j2) (.slice t2 ts.length l2)
                have hV12 := hV1.set5 (b := T) hT1 (.int .i64 st) (.int .i64 rm) (.slice c2 cs.length k2) (.slice p2 ps.length j2) (.slice t2 ts.length l2)
                have hV22 := hV2.set5 (b := T) hT2 (.int .i64 st) (.int .i64 rm) (.slice c2 cs.length k2) (.slice p2 ps.length j2) (.slice t2 ts.length l2)
                have Bk2 := s5_below (b := T) (a0 := (.int .i64 st)) (a1 := (.int .i64 rm)) (a2 := (.slice c2 cs.length k2)) (a3 := (.slice p2 ps.length j2)) (a4 := (.slice t2 ts.length l2)) Bk hgeT
                refine hK.out _ _ Bk2 (fun hHeld2 => ?_)
                clear hK K hHeld Bk hR hT hV1 hV2 m0 m1 m2 m3 m4 f0 f1 f2 f3 f4
                have hT := hX2
                have hR := hO2
                have hV1 := hV12
                have hV2 := hV22
                have Bk := Bk2
                have hHeld := hHeld2
                clear hHeld2 Bk2 hX2 hO2 hV12 hV22
                (try simp only [Act.put, List.getElem_toArray, List.getElem_cons_zero, List.getElem_cons_succ, List.setIfInBounds_toArray, List.set_cons_zero, List.set_cons_succ])
                generalize (((((u.setCell ⟨T, 0, none⟩ (.int .i64 st)).setCell ⟨T, 1, none⟩ (.int .i64 rm)).setCell ⟨T, 2, none⟩ (.slice c2 cs.length k2)).setCell ⟨T, 3, none⟩ (.slice p2 ps.length j2)).setCell ⟨T, 4, none⟩ (.slice t2 ts.length l2)) = u at *
                refine wpAnyH_done (by kernel_rfl) ?_ _
                go_wp2_with fail
                go_meet
                case rel => exact ⟨R, T, c1, k1, p1, j1, t1, l1, c2, k2, p2, j2, t2, l2, rfl, rfl, hR, hT, hV1.rows, hV2.rows, Bk⟩
  case rest =>
    obtain ⟨R, T, c1, k1, p1, j1, t1, l1, c2, k2, p2, j2, t2, l2, rfl, rfl, hR, hT, hW1, hW2, Bz⟩ := hcut
    generalize wc = z at *
    have HBZ := Lib.hid Bz
    have HFR := Lib.hid (fun (w : World) (h : Below z.heap.size z w) => sc_cells5 (hR.below h))
    have HFT := Lib.hid (fun (w : World) (h : Below z.heap.size z w) => sc_cells5 (hT.below h))
    have HF2 := Lib.hid (fun (w : World) (h : Below z.heap.size z w) => HF.out w (Bz.trans (h.mono Bz.size)))
    have HRZ := Lib.hid (HR0.out.below Bz)
    have HW1 := Lib.hid (fun (w : World) (h : Below z.heap.size z w) => hW1.below h)
    have HW2 := Lib.hid (fun (w : World) (h : Below z.heap.size z w) => hW2.below h)
    have HWZ := Lib.hid (fun (w : World) (h : Below z.heap.size z w) => HRZ.out.below h)
    have LK1 := Lib.hid (fun (w : World) => l46_like st rm c1 p1 t1 cs.length k1 qs.length j1 ts.length l1 w)
    have LK0 := Lib.hid (fun (w : World) => l46_like st rm cp pp tp cs.length ck ps.length pk ts.length tk w)
    have LK2 := Lib.hid (fun (w : World) => l46_like st rm c2 p2 t2 cs.length k2 ps.length j2 ts.length l2 w)
    have CL1 := Lib.hid (fun (w : World) (h : Below z.heap.size z w) => r46_clients st rm c1 cp none none t1 tp k1 ck 0 0 0 0 l1 tk cs ts w (hW1.below h).1 (HWZ.out w h).1 HS.out.c HS.out.l (hW1.below h).2.2 (HWZ.out w h).2.2 HS.out.t)
    have CL2 := Lib.hid (fun (w : World) (h : Below z.heap.size z w) => r46_clients st rm c2 cp none none t2 tp k2 ck 0 0 0 0 l2 tk cs ts w (hW2.below h).1 (HWZ.out w h).1 HS.out.c HS.out.l (hW2.below h).2.2 (HWZ.out w h).2.2 HS.out.t)
    have RH := Lib.hid (fun (w : World) (h : Below z.heap.size z w) => r46_head pp pk ps n w (HWZ.out w h).2.1 HS.out.p HN.out.1)
    rw [HQS.out] at RH
    have SM2 := Lib.hid (fun (w : World) (h : Below z.heap.size z w) => c_samei (c := j2) (d := pk) (hW2.below h).2.1 (HWZ.out w h).2.1)
    clear hR hT hW1 hW2 Bz
    have HWW1 := HW1
    have HW1 := Lib.hid (fun (w : World) (h : Below z.heap.size z w) => HWW1.out w h)
    clear HWW1
    go_upto_region 4 with fail
    refine wp_region_held_drew (S := fun w' => Below z.heap.size z w') (by kernel_rfl) ((Below.refl _ _).drew) (fun hHeld => ?_)
    refine wpAnyH_take (i := 0) (v := ?v1) rfl (by kernel_rfl) (by kernel_rfl) (by kernel_rfl) (fun _ _ _ h => h) (Or.inl ⟨by kernel_rfl, ?hy1⟩) (by assumption) ?rest1
    case hy1 => intro w hSw; (try dsimp only at hSw); obtain ⟨p0, p1_, p2_, p3_, p4_⟩ := HFR.out w hSw; go_simp; (first | done | with_reducible rfl)
    (try simp only [Act.put, List.getElem_toArray, List.getElem_cons_zero, List.getElem_cons_succ, List.setIfInBounds_toArray, List.set_cons_zero, List.set_cons_succ])
    refine wpAnyH_take (i := 2) (v := ?v2) rfl (by kernel_rfl) (by kernel_rfl) (by kernel_rfl) (fun _ _ _ h => h) (Or.inl ⟨by kernel_rfl, ?hy2⟩) (by assumption) ?rest2
    case hy2 => intro w hSw; (try dsimp only at hSw); obtain ⟨p0, p1_, p2_, p3_, p4_⟩ := HF2.out w hSw; go_simp; (first | done | with_reducible rfl)
    (try simp only [Act.put, List.getElem_toArray, List.getElem_cons_zero, List.getElem_cons_succ, List.setIfInBounds_toArray, List.set_cons_zero, List.set_cons_succ])
    refine wpAnyH_ready (rs := [1]) (by kernel_rfl) (by simp) ?_
    refine AllReadyH.cons rfl (fun K hK => ?_) AllReadyH.nil
    go_simp
    go_at_call 8
    with_reducible refine (LK1.out _).mono ?_
    rintro e wA ⟨rfl, hbA⟩
    have HBA := Lib.hid (hHeld.trans (hbA.mono hHeld.size))
    clear hbA
    (try go_wp2_with fail)
    refine hK.out _ _ HBA.out (fun hHeld2 => ?_)
    clear hK K hHeld
    have hHeld := hHeld2
    clear hHeld2
    (try simp only [Act.put, List.getElem_toArray, List.getElem_cons_zero, List.getElem_cons_succ, List.setIfInBounds_toArray, List.set_cons_zero, List.set_cons_succ])
    refine wpAnyH_ready (rs := [3]) (by kernel_rfl) (by simp) ?_
    refine AllReadyH.cons rfl (fun K hK => ?_) AllReadyH.nil
    go_simp
    go_at_call 8
    with_reducible refine (LK0.out _).mono ?_
    rintro e wB ⟨rfl, hbB⟩
    have HBB := Lib.hid (hHeld.trans (hbB.mono hHeld.size))
    clear hbB
    (try go_wp2_with fail)
    refine hK.out _ _ HBB.out (fun hHeld2 => ?_)
    clear hK K hHeld
    have hHeld := hHeld2
    clear hHeld2
    (try simp only [Act.put, List.getElem_toArray, List.getElem_cons_zero, List.getElem_cons_succ, List.setIfInBounds_toArray, List.set_cons_zero, List.set_cons_succ])
    refine wpAnyH_ready (rs := [4]) (by kernel_rfl) (by simp) ?_
    refine AllReadyH.cons rfl (fun K hK => ?_) AllReadyH.nil
    go_simp
    go_at_call 7
    with_reducible refine (CL1.out _ hHeld).mono ?_
    rintro e wC ⟨rfl, hbC⟩
    have HBC := Lib.hid (hHeld.trans (hbC.mono hHeld.size))
    clear hbC
    (try go_wp2_with fail)
    refine hK.out _ _ HBC.out (fun hHeld2 => ?_)
    clear hK K hHeld
    have hHeld := hHeld2
    clear hHeld2
    (try simp only [Act.put, List.getElem_toArray, List.getElem_cons_zero, List.getElem_cons_succ, List.setIfInBounds_toArray, List.set_cons_zero, List.set_cons_succ])
    refine wpAnyH_take (i := 5) (v := ?v3) rfl (by kernel_rfl) (by kernel_rfl) (by kernel_rfl) (fun _ _ _ h => h) (Or.inl ⟨by kernel_rfl, ?hy3⟩) (by assumption) ?rest3
    case hy3 => intro w hSw; (try dsimp only at hSw); go_simp; (first | done | with_reducible rfl)
    (try simp only [Act.put, List.getElem_toArray, List.getElem_cons_zero, List.getElem_cons_succ, List.setIfInBounds_toArray, List.set_cons_zero, List.set_cons_succ])
    refine wpAnyH_take (i := 6) (v := ?v4) rfl (by kernel_rfl) (by kernel_rfl) (by kernel_rfl) (fun _ _ _ h => h) (Or.inl ⟨by kernel_rfl, ?hy4⟩) (by assumption) ?rest4
    case hy4 => intro w hSw; (try dsimp only at hSw); go_simp; (first | done | with_reducible rfl)
    (try simp only [Act.put, List.getElem_toArray, List.getElem_cons_zero, List.getElem_cons_succ, List.setIfInBounds_toArray, List.set_cons_zero, List.set_cons_succ])
    refine wpAnyH_take (i := 7) (v := ?v5) rfl (by kernel_rfl) (by kernel_rfl) (by kernel_rfl) (fun _ _ _ h => h) (Or.inl ⟨by kernel_rfl, ?hy5⟩) (by assumption) ?rest5
    case hy5 => intro w hSw; (try dsimp only at hSw); go_simp; (first | done | with_reducible rfl)
    (try simp only [Act.put, List.getElem_toArray, List.getElem_cons_zero, List.getElem_cons_succ, List.setIfInBounds_toArray, List.set_cons_zero, List.set_cons_succ])
    refine wpAnyH_take (i := 8) (v := ?v6) rfl (by kernel_rfl) (by kernel_rfl) (by kernel_rfl) (fun _ _ _ h => h) (Or.inl ⟨by kernel_rfl, ?hy6⟩) (by assumption) ?rest6
    case hy6 => intro w hSw; (try dsimp only at hSw); obtain ⟨p0, p1_, p2_, p3_, p4_⟩ := HFR.out w hSw; go_simp; (first | done | with_reducible rfl)
    (try simp only [Act.put, List.getElem_toArray, List.getElem_cons_zero, List.getElem_cons_succ, List.setIfInBounds_toArray, List.set_cons_zero, List.set_cons_succ])
    refine wpAnyH_take (i := 9) (v := ?v7) rfl (by kernel_rfl) (by kernel_rfl) (by kernel_rfl) (fun _ _ _ h => h) (Or.inl ⟨by kernel_rfl, ?hy7⟩) (by assumption) ?rest7
    case hy7 => intro w hSw; (try dsimp only at hSw); go_simp; (first | done | with_reducible rfl)
    (try simp only [Act.put, List.getElem_toArray, List.getElem_cons_zero, List.getElem_cons_succ, List.setIfInBounds_toArray, List.set_cons_zero, List.set_cons_succ])
    refine wpAnyH_take (i := 10) (v := ?v8) rfl (by kernel_rfl) (by kernel_rfl) (by kernel_rfl) (fun _ _ _ h => h) (Or.inl ⟨by kernel_rfl, ?hy8⟩) (by assumption) ?rest8
    case hy8 => intro w hSw; (try dsimp only at hSw); obtain ⟨p0, p1_, p2_, p3_, p4_⟩ := HF2.out w hSw; go_simp; (first | done | with_reducible rfl)
    (try simp only [Act.put, List.getElem_toArray, List.getElem_cons_zero, List.getElem_cons_succ, List.setIfInBounds_toArray, List.set_cons_zero, List.set_cons_succ])
    refine wpAnyH_take (i := 11) (v := ?v9) rfl (by kernel_rfl) (by kernel_rfl) (by kernel_rfl) (fun _ _ _ h => h) (Or.inl ⟨by kernel_rfl, ?hy9⟩) (by assumption) ?rest9
    case hy9 => intro w hSw; (try dsimp only at hSw); go_simp; (first | done | with_reducible rfl)
    (try simp only [Act.put, List.getElem_toArray, List.getElem_cons_zero, List.getElem_cons_succ, List.setIfInBounds_toArray, List.set_cons_zero, List.set_cons_succ])
    refine wpAnyH_ready (rs := [12]) (by kernel_rfl) (by simp) ?_
    refine AllReadyH.cons rfl (fun K hK => ?_) AllReadyH.nil
    go_simp
    go_at_call 10
    with_reducible refine (RH.out _ hHeld).mono ?_
    rintro e wD ⟨vh, rfl, hpk, hbD⟩
    obtain ⟨ph, kh, rfl⟩ := hpk.val
    have HRI := Lib.hid hpk.rowI
    clear hpk
    have HBD := Lib.hid (hHeld.trans (hbD.mono hHeld.size))
    clear hbD
    (try go_wp2_with fail)
    refine hK.out _ _ HBD.out (fun hHeld2 => ?_)
    clear hK K hHeld
    have hHeld := hHeld2
    clear hHeld2
    (try simp only [Act.put, List.getElem_toArray, List.getElem_cons_zero, List.getElem_cons_succ, List.setIfInBounds_toArray, List.set_cons_zero, List.set_cons_succ])
    have SMA := Lib.hid (c_samei (c := j1) (d := kh) (HW1.out _ hHeld).2.1 HRI.out)
    clear HRI
    refine wpAnyH_ready (rs := [13]) (by kernel_rfl) (by simp) ?_
    refine AllReadyH.cons rfl (fun K hK => ?_) AllReadyH.nil
    go_simp
    go_at_call 9
    with_reducible refine (SMA.out).mono ?_
    rintro e wE ⟨rfl, hbE⟩
    have HBE := Lib.hid (hHeld.trans (hbE.mono hHeld.size))
    clear hbE
    (try go_wp2_with fail)
    refine hK.out _ _ HBE.out (fun hHeld2 => ?_)
    clear hK K hHeld
    have hHeld := hHeld2
    clear hHeld2
    (try simp only [Act.put, List.getElem_toArray, List.getElem_cons_zero, List.getElem_cons_succ, List.setIfInBounds_toArray, List.set_cons_zero, List.set_cons_succ])
    refine wpAnyH_take (i := 14) (v := ?v10) rfl (by kernel_rfl) (by kernel_rfl) (by kernel_rfl) (fun _ _ _ h => h) (Or.inl ⟨by kernel_rfl, ?hy10⟩) (by assumption) ?rest10
    case hy10 => intro w hSw; (try dsimp only at hSw); go_simp; (first | done | with_reducible rfl)
    (try simp only [Act.put, List.getElem_toArray, List.getElem_cons_zero, List.getElem_cons_succ, List.setIfInBounds_toArray, List.set_cons_zero, List.set_cons_succ])
    refine wpAnyH_take (i := 15) (v := ?v11) rfl (by kernel_rfl) (by kernel_rfl) (by kernel_rfl) (fun _ _ _ h => h) (Or.inl ⟨by kernel_rfl, ?hy11⟩) (by assumption) ?rest11
    case hy11 => intro w hSw; (try dsimp only at hSw); go_simp; (first | done | with_reducible rfl)
    (try simp only [Act.put, List.getElem_toArray, List.getElem_cons_zero, List.getElem_cons_succ, List.setIfInBounds_toArray, List.set_cons_zero, List.set_cons_succ])
    refine wpAnyH_take (i := 16) (v := ?v12) rfl (by kernel_rfl) (by kernel_rfl) (by kernel_rfl) (fun _ _ _ h => h) (Or.inl ⟨by kernel_rfl, ?hy12⟩) (by assumption) ?rest12
    case hy12 => intro w hSw; (try dsimp only at hSw); go_simp; (first | done | with_reducible rfl)
    (try simp only [Act.put, List.getElem_toArray, List.getElem_cons_zero, List.getElem_cons_succ, List.setIfInBounds_toArray, List.set_cons_zero, List.set_cons_succ])
    refine wpAnyH_take (i := 17) (v := ?v13) rfl (by kernel_rfl) (by kernel_rfl) (by kernel_rfl) (fun _ _ _ h => h) (Or.inl ⟨by kernel_rfl, ?hy13⟩) (by assumption) ?rest13
    case hy13 => intro w hSw; (try dsimp only at hSw); obtain ⟨p0, p1_, p2_, p3_, p4_⟩ := HFT.out w hSw; go_simp; (first | done | with_reducible rfl)
    (try simp only [Act.put, List.getElem_toArray, List.getElem_cons_zero, List.getElem_cons_succ, List.setIfInBounds_toArray, List.set_cons_zero, List.set_cons_succ])
    refine wpAnyH_take (i := 19) (v := ?v14) rfl (by kernel_rfl) (by kernel_rfl) (by kernel_rfl) (fun _ _ _ h => h) (Or.inl ⟨by kernel_rfl, ?hy14⟩) (by assumption) ?rest14
    case hy14 => intro w hSw; (try dsimp only at hSw); obtain ⟨p0, p1_, p2_, p3_, p4_⟩ := HF2.out w hSw; go_simp; (first | done | with_reducible rfl)
    (try simp only [Act.put, List.getElem_toArray, List.getElem_cons_zero, List.getElem_cons_succ, List.setIfInBounds_toArray, List.set_cons_zero, List.set_cons_succ])
    refine wpAnyH_ready (rs := [18]) (by kernel_rfl) (by simp) ?_
    refine AllReadyH.cons rfl (fun K hK => ?_) AllReadyH.nil
    go_simp
    go_at_call 8
    with_reducible refine (LK2.out _).mono ?_
    rintro e wF ⟨rfl, hbF⟩
    have HBF := Lib.hid (hHeld.trans (hbF.mono hHeld.size))
    clear hbF
    (try go_wp2_with fail)
    refine hK.out _ _ HBF.out (fun hHeld2 => ?_)
    clear hK K hHeld
    have hHeld := hHeld2
    clear hHeld2
    (try simp only [Act.put, List.getElem_toArray, List.getElem_cons_zero, List.getElem_cons_succ, List.setIfInBounds_toArray, List.set_cons_zero, List.set_cons_succ])
    refine wpAnyH_ready (rs := [20]) (by kernel_rfl) (by simp) ?_
    refine AllReadyH.cons rfl (fun K hK => ?_) AllReadyH.nil
    go_simp
    go_at_call 8
    with_reducible refine (LK0.out _).mono ?_
    rintro e wG ⟨rfl, hbG⟩
    have HBG := Lib.hid (hHeld.trans (hbG.mono hHeld.size))
    clear hbG
    (try go_wp2_with fail)
    refine hK.out _ _ HBG.out (fun hHeld2 => ?_)
    clear hK K hHeld
    have hHeld := hHeld2
    clear hHeld2
    (try simp only [Act.put, List.getElem_toArray, List.getElem_cons_zero, List.getElem_cons_succ, List.setIfInBounds_toArray, List.set_cons_zero, List.set_cons_succ])
    refine wpAnyH_ready (rs := [21]) (by kernel_rfl) (by simp) ?_
    refine AllReadyH.cons rfl (fun K hK => ?_) AllReadyH.nil
    go_simp
    go_at_call 7
    with_reducible refine (CL2.out _ hHeld).mono ?_
    rintro e wH ⟨rfl, hbH⟩
    have HBH := Lib.hid (hHeld.trans (hbH.mono hHeld.size))
    clear hbH
    (try go_wp2_with fail)
    refine hK.out _ _ HBH.out (fun hHeld2 => ?_)
    clear hK K hHeld
    have hHeld := hHeld2
    clear hHeld2
    (try simp only [Act.put, List.getElem_toArray, List.getElem_cons_zero, List.getElem_cons_succ, List.setIfInBounds_toArray, List.set_cons_zero, List.set_cons_succ])
    refine wpAnyH_take (i := 22) (v := ?v15) rfl (by kernel_rfl) (by kernel_rfl) (by kernel_rfl) (fun _ _ _ h => h) (Or.inl ⟨by kernel_rfl, ?hy15⟩) (by assumption) ?rest15
    case hy15 => intro w hSw; (try dsimp only at hSw); go_simp; (first | done | with_reducible rfl)
    (try simp only [Act.put, List.getElem_toArray, List.getElem_cons_zero, List.getElem_cons_succ, List.setIfInBounds_toArray, List.set_cons_zero, List.set_cons_succ])
    refine wpAnyH_take (i := 23) (v := ?v16) rfl (by kernel_rfl) (by kernel_rfl) (by kernel_rfl) (fun _ _ _ h => h) (Or.inl ⟨by kernel_rfl, ?hy16⟩) (by assumption) ?rest16
    case hy16 => intro w hSw; (try dsimp only at hSw); go_simp; (first | done | with_reducible rfl)
    (try simp only [Act.put, List.getElem_toArray, List.getElem_cons_zero, List.getElem_cons_succ, List.setIfInBounds_toArray, List.set_cons_zero, List.set_cons_succ])
    refine wpAnyH_take (i := 24) (v := ?v17) rfl (by kernel_rfl) (by kernel_rfl) (by kernel_rfl) (fun _ _ _ h => h) (Or.inl ⟨by kernel_rfl, ?hy17⟩) (by assumption) ?rest17
    case hy17 => intro w hSw; (try dsimp only at hSw); go_simp; (first | done | with_reducible rfl)
    (try simp only [Act.put, List.getElem_toArray, List.getElem_cons_zero, List.getElem_cons_succ, List.setIfInBounds_toArray, List.set_cons_zero, List.set_cons_succ])
    refine wpAnyH_take (i := 25) (v := ?v18) rfl (by kernel_rfl) (by kernel_rfl) (by kernel_rfl) (fun _ _ _ h => h) (Or.inl ⟨by kernel_rfl, ?hy18⟩) (by assumption) ?rest18
    case hy18 => intro w hSw; (try dsimp only at hSw); go_simp; (first | done | with_reducible rfl)
    (try simp only [Act.put, List.getElem_toArray, List.getElem_cons_zero, List.getElem_cons_succ, List.setIfInBounds_toArray, List.set_cons_zero, List.set_cons_succ])
    refine wpAnyH_take (i := 26) (v := ?v19) rfl (by kernel_rfl) (by kernel_rfl) (by kernel_rfl) (fun _ _ _ h => h) (Or.inl ⟨by kernel_rfl, ?hy19⟩) (by assumption) ?rest19
    case hy19 => intro w hSw; (try dsimp only at hSw); obtain ⟨p0, p1_, p2_, p3_, p4_⟩ := HFT.out w hSw; go_simp; (first | done | with_reducible rfl)
    (try simp only [Act.put, List.getElem_toArray, List.getElem_cons_zero, List.getElem_cons_succ, List.setIfInBounds_toArray, List.set_cons_zero, List.set_cons_succ])
    refine wpAnyH_take (i := 27) (v := ?v20) rfl (by kernel_rfl) (by kernel_rfl) (by kernel_rfl) (fun _ _ _ h => h) (Or.inl ⟨by kernel_rfl, ?hy20⟩) (by assumption) ?rest20
    case hy20 => intro w hSw; (try dsimp only at hSw); go_simp; (first | done | with_reducible rfl)
    (try simp only [Act.put, List.getElem_toArray, List.getElem_cons_zero, List.getElem_cons_succ, List.setIfInBounds_toArray, List.set_cons_zero, List.set_cons_succ])
    refine wpAnyH_take (i := 28) (v := ?v21) rfl (by kernel_rfl) (by kernel_rfl) (by kernel_rfl) (fun _ _ _ h => h) (Or.inl ⟨by kernel_rfl, ?hy21⟩) (by assumption) ?rest21
    case hy21 => intro w hSw; (try dsimp only at hSw); obtain ⟨p0, p1_, p2_, p3_, p4_⟩ := HF2.out w hSw; go_simp; (first | done | with_reducible rfl)
    (try simp only [Act.put, List.getElem_toArray, List.getElem_cons_zero, List.getElem_cons_succ, List.setIfInBounds_toArray, List.set_cons_zero, List.set_cons_succ])
    refine wpAnyH_ready (rs := [29]) (by kernel_rfl) (by simp) ?_
    refine AllReadyH.cons rfl (fun K hK => ?_) AllReadyH.nil
    go_simp
    go_at_call 9
    with_reducible refine (SM2.out _ hHeld).mono ?_
    rintro e wI ⟨rfl, hbI⟩
    have HBI := Lib.hid (hHeld.trans (hbI.mono hHeld.size))
    clear hbI
    (try go_wp2_with fail)
    refine hK.out _ _ HBI.out (fun hHeld2 => ?_)
    clear hK K hHeld
    have hHeld := hHeld2
    clear hHeld2
    (try simp only [Act.put, List.getElem_toArray, List.getElem_cons_zero, List.getElem_cons_succ, List.setIfInBounds_toArray, List.set_cons_zero, List.set_cons_succ])
    refine wpAnyH_take (i := 30) (v := ?v22) rfl (by kernel_rfl) (by kernel_rfl) (by kernel_rfl) (fun _ _ _ h => h) (Or.inl ⟨by kernel_rfl, ?hy22⟩) (by assumption) ?rest22
    case hy22 => intro w hSw; (try dsimp only at hSw); go_simp; (first | done | with_reducible rfl)
    (try simp only [Act.put, List.getElem_toArray, List.getElem_cons_zero, List.getElem_cons_succ, List.setIfInBounds_toArray, List.set_cons_zero, List.set_cons_succ])
    refine wpAnyH_take (i := 31) (v := ?v23) rfl (by kernel_rfl) (by kernel_rfl) (by kernel_rfl) (fun _ _ _ h => h) (Or.inl ⟨by kernel_rfl, ?hy23⟩) (by assumption) ?rest23
    case hy23 => intro w hSw; (try dsimp only at hSw); go_simp; (first | done | with_reducible rfl)
    (try simp only [Act.put, List.getElem_toArray, List.getElem_cons_zero, List.getElem_cons_succ, List.setIfInBounds_toArray, List.set_cons_zero, List.set_cons_succ])
    refine wpAnyH_done (by kernel_rfl) ?_ _
    have HBI2 := Lib.hid (HBZ.out.trans (HBI.out.mono HBZ.out.size))
    have HZI := Lib.hid HBI.out
    clear HBA HBB HBC HBD HBE HBF HBG HBH HBI hHeld LK1 LK2 CL1 CL2 RH SM2
    generalize wI = y at *
    have HBY := Lib.hid (HB0.out.trans (HBI2.out.mono HB0.out.size))
    obtain ⟨m0, m1, m2, m3, m4⟩ := HF2.out y HZI.out
    by_cases hrn : r < 0
    · have EV := Lib.hid (slim_even_neg st rm cp pp tp ck pk tk cs ps ts r y hrn)
      have NO := Lib.hid (fun w => l46_none w)
      unfold zeroP at EV NO
      go_wp2_with fail
      refine EV.out.mono ?_
      rintro e x1 ⟨rfl, hb⟩
      obtain ⟨x2, hx2, r2, hb2, hs2⟩ := boxG x1 #[.int .i64 0, .int .i64 0, .slice none 0 0, .slice none 0 0, .slice none 0 0] 25
      have HX2 := Lib.hid hx2
      have HB2 := Lib.hid (HBY.out.trans ((hb.trans (hb2.mono hb.size)).mono HBY.out.size))
      have HC2 := Lib.hid (sc_cells5 r2)
      clear hx2 hb r2 hb2 hs2 m0 m1 m2 m3 m4
      go_upto_region 8 with fail
      rw [HX2.out]
      obtain ⟨m0, m1, m2, m3, m4⟩ := HC2.out
      go_wp2_with fail
      refine (NO.out _).mono ?_
      rintro e x3 ⟨rfl, hb⟩
      have HB3 := Lib.hid (HB2.out.trans (hb.mono HB2.out.size))
      clear hb m0 m1 m2 m3 m4
      go_wp2_with fail
      refine (LV.out _).mono ?_
      rintro e x4 ⟨rfl, hb⟩
      have HB4 := Lib.hid (HB3.out.trans (hb.mono HB3.out.size))
      clear hb
      go_wp2_with fail
      go_ret
      exact ⟨rfl, HB4.out⟩
    by_cases hbg : 0 < cs.length ∧ (4096 : Int).tdiv (cs.length : Int) < r
    · obtain ⟨hn0, hq⟩ := hbg
      have EV := Lib.hid (slim_even_big st rm cp pp tp ck pk tk cs ps ts r y hrn hn0 hq HS.out.c)
      have NO := Lib.hid (fun w => l46_none w)
      have wq := quoW cs.length
      obtain ⟨Q, hQ⟩ : ∃ Q : Int, (4096 : Int).tdiv (cs.length : Int) = Q := ⟨_, rfl⟩
      rw [hQ] at hq wq
      have hni : (0 : Int) < (cs.length : Int) := by omega
      have hn00 : ¬ (cs.length : Int) = 0 := by omega
      unfold zeroP at EV NO
      go_wp2_with fail
      refine EV.out.mono ?_
      rintro e x1 ⟨rfl, hb⟩
      obtain ⟨x2, hx2, r2, hb2, hs2⟩ := boxG x1 #[.int .i64 0, .int .i64 0, .slice none 0 0, .slice none 0 0, .slice none 0 0] 25
      have HX2 := Lib.hid hx2
      have HZ2 := Lib.hid (HZI.out.trans ((hb.trans (hb2.mono hb.size)).mono HZI.out.size))
      have HB2 := Lib.hid (HBY.out.trans ((hb.trans (hb2.mono hb.size)).mono HBY.out.size))
      have HC2 := Lib.hid (sc_cells5 r2)
      clear hx2 hb r2 hb2 hs2 m0 m1 m2 m3 m4
      go_upto_region 9 with fail
      rw [HX2.out]
      obtain ⟨a0, a1, a2, a3, a4⟩ := HF2.out x2 HZ2.out
      obtain ⟨m0, m1, m2, m3, m4⟩ := HC2.out
      go_wp2_with fail
      refine (NO.out _).mono ?_
      rintro e x3 ⟨rfl, hb⟩
      have HB3 := Lib.hid (HB2.out.trans (hb.mono HB2.out.size))
      clear hb m0 m1 m2 m3 m4 a0 a1 a2 a3 a4
      go_wp2_with fail
      refine (LV.out _).mono ?_
      rintro e x4 ⟨rfl, hb⟩
      have HB4 := Lib.hid (HB3.out.trans (hb.mono HB3.out.size))
      clear hb
      go_wp2_with fail
      go_ret
      exact ⟨rfl, HB4.out⟩
    obtain ⟨rn, rfl⟩ : ∃ rn : Nat, r = (rn : Int) := ⟨r.toNat, by omega⟩
    have hqq : cs.length = 0 ∨ (rn : Int) ≤ (4096 : Int).tdiv (cs.length : Int) := by
      by_cases h0 : cs.length = 0
      · exact .inl h0
      · right
        by_cases h1 : (4096 : Int).tdiv (cs.length : Int) < (rn : Int)
        · exact absurd ⟨by omega, h1⟩ hbg
        · omega
    have EV := slim_even st rm cp pp tp ck pk tk cs ps ts rn y (HWZ.out y HZI.out).1 (HWZ.out y HZI.out).2.2 HS.out HN.out.2.2 hqq
    unfold ScrE at EV
    by_cases h0 : cs = []
    · subst h0
      have e : evL ([] : List (List Cl)).length (([] : List (List Cl)).length * rn) = [] := by simp [evL]
      rw [e] at EV
      simp only [List.length_nil] at EV m2
      have EV := Lib.hid EV
      clear hbg hqq e
      simp only [List.length_nil] at HF2 ⊢
      go_wp2_with fail
      refine EV.out.mono ?_
      rintro e x1 ⟨c3, k3, p3, j3, t3, l3, rfl, -, -, -, hb⟩
      obtain ⟨x2, hx2, r2, hb2, hs2⟩ := boxG x1 #[.int .i64 st, .int .i64 rm, .slice c3 0 k3, .slice p3 0 j3, .slice t3 ts.length l3] 25
      have HZ2 := Lib.hid (HZI.out.trans ((hb.trans (hb2.mono hb.size)).mono HZI.out.size))
      have HB2 := Lib.hid (HBY.out.trans ((hb.trans (hb2.mono hb.size)).mono HBY.out.size))
      obtain ⟨b0, b1, b2, b3, b4⟩ := sc_cells5 r2
      obtain ⟨a0, a1, a2, a3, a4⟩ := HF2.out x2 HZ2.out
      clear hb r2 hb2 hs2 m0 m1 m2 m3 m4
      go_wp2_with fail
      refine (LV.out _).mono ?_
      rintro e x4 ⟨rfl, hb⟩
      have HB4 := Lib.hid (HB2.out.trans (hb.mono HB2.out.size))
      clear hb
      go_wp2_with fail
      go_ret
      exact ⟨rfl, HB4.out⟩
    · have hpos := List.length_pos_iff.2 h0
      have hni : (0 : Int) < (cs.length : Int) := by omega
      have hn00 : ¬ (cs.length : Int) = 0 := by omega
      have hn01 : ((cs.length : Int) == 0) = false := by simp; exact h0
      have wq := quoW cs.length
      have hqr : ¬ (4096 : Int).tdiv (cs.length : Int) < (rn : Int) := by omega
      have hN : cs.length * rn ≤ 4096 ∧ rn ≤ 4096 := by
        have e : (4096 : Int).tdiv (cs.length : Int) = ((4096 / cs.length : Nat) : Int) := by rw [show (4096 : Int) = ((4096 : Nat) : Int) from rfl, ← Int.ofNat_tdiv]
        have h2 : rn ≤ 4096 / cs.length := by omega
        have h3 := Nat.mul_le_mul_left cs.length h2
        have h4 := Nat.mul_div_le 4096 cs.length
        have h5 := Nat.div_le_self 4096 cs.length
        omega
      obtain ⟨Q, hQ⟩ : ∃ Q : Int, (4096 : Int).tdiv (cs.length : Int) = Q := ⟨_, rfl⟩
      rw [hQ] at hqr wq
      have RE := Lib.hid (fun (w : World) => r46_even cs.length rn w HS.out.c hN.1 hN.2)
      obtain ⟨vs, hvs⟩ : ∃ vs, evL cs.length (cs.length * rn) = vs := ⟨_, rfl⟩
      rw [hvs] at EV RE
      have EV := Lib.hid EV
      clear hbg hqq hN hvs hpos
      go_wp2_with fail
      refine EV.out.mono ?_
      rintro e x1 ⟨c3, k3, p3, j3, t3, l3, rfl, hk, hp, ht, hb⟩
      obtain ⟨x2, hx2, r2, hb2, hs2⟩ := boxG x1 #[.int .i64 st, .int .i64 rm, .slice c3 cs.length k3, .slice p3 vs.length j3, .slice t3 ts.length l3] 25
      have HXZ := Lib.hid (HZI.out.trans ((hb.trans (hb2.mono hb.size)).mono HZI.out.size))
      have HB2 := Lib.hid (HBY.out.trans ((hb.trans (hb2.mono hb.size)).mono HBY.out.size))
      have HF9 := Lib.hid (fun (w : World) (h : Below x2.heap.size x2 w) => sc_cells5 ((h.block x1.heap.size (by omega)).trans r2))
      have HP3 := Lib.hid (fun (w : World) (h : Below x2.heap.size x2 w) => (hp.rowI.below hb2).below h)
      have LK3 := Lib.hid (fun (w : World) => l46_like st rm c3 p3 t3 cs.length k3 vs.length j3 ts.length l3 w)
      have CL3 := Lib.hid (fun (w : World) (h : Below x2.heap.size x2 w) => r46_clients st rm c3 cp none none t3 tp k3 ck 0 0 0 0 l3 tk cs ts w ((hk.row.below hb2).below h) (HWZ.out w (HXZ.out.trans (h.mono HXZ.out.size))).1 HS.out.c HS.out.l ((ht.rowI.below hb2).below h) (HWZ.out w (HXZ.out.trans (h.mono HXZ.out.size))).2.2 HS.out.t)
      obtain ⟨b0, b1, b2, b3, b4⟩ := sc_cells5 r2
      obtain ⟨a0, a1, a2, a3, a4⟩ := HF2.out x2 HXZ.out
      clear hk hp ht hb r2 hb2 m0 m1 m2 m3 m4
      go_upto_region 13 with fail
      refine wp_region_held_drew (S := fun w' => Below x2.heap.size x2 w') (by kernel_rfl) ((Below.refl _ _).drew) (fun hHeld => ?_)
      refine wpAnyH_take (i := 0) (v := ?v24) rfl (by kernel_rfl) (by kernel_rfl) (by kernel_rfl) (fun _ _ _ h => h) (Or.inl ⟨by kernel_rfl, ?hy24⟩) (by assumption) ?rest24
      case hy24 => intro w hSw; (try dsimp only at hSw); go_simp; (first | done | with_reducible rfl)
      (try simp only [Act.put, List.getElem_toArray, List.getElem_cons_zero, List.getElem_cons_succ, List.setIfInBounds_toArray, List.set_cons_zero, List.set_cons_succ])
      refine wpAnyH_take (i := 1) (v := ?v25) rfl (by kernel_rfl) (by kernel_rfl) (by kernel_rfl) (fun _ _ _ h => h) (Or.inl ⟨by kernel_rfl, ?hy25⟩) (by assumption) ?rest25
      case hy25 => intro w hSw; (try dsimp only at hSw); go_simp; (first | done | with_reducible rfl)
      (try simp only [Act.put, List.getElem_toArray, List.getElem_cons_zero, List.getElem_cons_succ, List.setIfInBounds_toArray, List.set_cons_zero, List.set_cons_succ])
      refine wpAnyH_take (i := 2) (v := ?v26) rfl (by kernel_rfl) (by kernel_rfl) (by kernel_rfl) (fun _ _ _ h => h) (Or.inl ⟨by kernel_rfl, ?hy26⟩) (by assumption) ?rest26
      case hy26 => intro w hSw; (try dsimp only at hSw); go_simp; (first | done | with_reducible rfl)
      (try simp only [Act.put, List.getElem_toArray, List.getElem_cons_zero, List.getElem_cons_succ, List.setIfInBounds_toArray, List.set_cons_zero, List.set_cons_succ])
      refine wpAnyH_take (i := 3) (v := ?v27) rfl (by kernel_rfl) (by kernel_rfl) (by kernel_rfl) (fun _ _ _ h => h) (Or.inl ⟨by kernel_rfl, ?hy27⟩) (by assumption) ?rest27
      case hy27 => intro w hSw; (try dsimp only at hSw); obtain ⟨p0, p1_, p2_, p3_, p4_⟩ := HF9.out w hSw; go_simp; (first | done | with_reducible rfl)
      (try simp only [Act.put, List.getElem_toArray, List.getElem_cons_zero, List.getElem_cons_succ, List.setIfInBounds_toArray, List.set_cons_zero, List.set_cons_succ])
      refine wpAnyH_take (i := 5) (v := ?v28) rfl (by kernel_rfl) (by kernel_rfl) (by kernel_rfl) (fun _ _ _ h => h) (Or.inl ⟨by kernel_rfl, ?hy28⟩) (by assumption) ?rest28
      case hy28 => intro w hSw; (try dsimp only at hSw); obtain ⟨p0, p1_, p2_, p3_, p4_⟩ := HF2.out w (HXZ.out.trans (hSw.mono HXZ.out.size)); go_simp; (first | done | with_reducible rfl)
      (try simp only [Act.put, List.getElem_toArray, List.getElem_cons_zero, List.getElem_cons_succ, List.setIfInBounds_toArray, List.set_cons_zero, List.set_cons_succ])
      refine wpAnyH_ready (rs := [4]) (by kernel_rfl) (by simp) ?_
      refine AllReadyH.cons rfl (fun K hK => ?_) AllReadyH.nil
      go_simp
      go_at_call 8
      with_reducible refine (LK3.out _).mono ?_
      rintro e wJ ⟨rfl, hbJ⟩
      have HBJ := Lib.hid (hHeld.trans (hbJ.mono hHeld.size))
      clear hbJ
      (try go_wp2_with fail)
      refine hK.out _ _ HBJ.out (fun hHeld2 => ?_)
      clear hK K hHeld
      have hHeld := hHeld2
      clear hHeld2
      (try simp only [Act.put, List.getElem_toArray, List.getElem_cons_zero, List.getElem_cons_succ, List.setIfInBounds_toArray, List.set_cons_zero, List.set_cons_succ])
      refine wpAnyH_ready (rs := [6]) (by kernel_rfl) (by simp) ?_
      refine AllReadyH.cons rfl (fun K hK => ?_) AllReadyH.nil
      go_simp
      go_at_call 8
      with_reducible refine (LK0.out _).mono ?_
      rintro e wK ⟨rfl, hbK⟩
      have HBK := Lib.hid (hHeld.trans (hbK.mono hHeld.size))
      clear hbK
      (try go_wp2_with fail)
      refine hK.out _ _ HBK.out (fun hHeld2 => ?_)
      clear hK K hHeld
      have hHeld := hHeld2
      clear hHeld2
      (try simp only [Act.put, List.getElem_toArray, List.getElem_cons_zero, List.getElem_cons_succ, List.setIfInBounds_toArray, List.set_cons_zero, List.set_cons_succ])
      refine wpAnyH_ready (rs := [7]) (by kernel_rfl) (by simp) ?_
      refine AllReadyH.cons rfl (fun K hK => ?_) AllReadyH.nil
      go_simp
      go_at_call 7
      with_reducible refine (CL3.out _ hHeld).mono ?_
      rintro e wL ⟨rfl, hbL⟩
      have HBL := Lib.hid (hHeld.trans (hbL.mono hHeld.size))
      clear hbL
      (try go_wp2_with fail)
      refine hK.out _ _ HBL.out (fun hHeld2 => ?_)
      clear hK K hHeld
      have hHeld := hHeld2
      clear hHeld2
      (try simp only [Act.put, List.getElem_toArray, List.getElem_cons_zero, List.getElem_cons_succ, List.setIfInBounds_toArray, List.set_cons_zero, List.set_cons_succ])
      refine wpAnyH_take (i := 8) (v := ?v29) rfl (by kernel_rfl) (by kernel_rfl) (by kernel_rfl) (fun _ _ _ h => h) (Or.inl ⟨by kernel_rfl, ?hy29⟩) (by assumption) ?rest29
      case hy29 => intro w hSw; (try dsimp only at hSw); go_simp; (first | done | with_reducible rfl)
      (try simp only [Act.put, List.getElem_toArray, List.getElem_cons_zero, List.getElem_cons_succ, List.setIfInBounds_toArray, List.set_cons_zero, List.set_cons_succ])
      refine wpAnyH_take (i := 9) (v := ?v30) rfl (by kernel_rfl) (by kernel_rfl) (by kernel_rfl) (fun _ _ _ h => h) (Or.inl ⟨by kernel_rfl, ?hy30⟩) (by assumption) ?rest30
      case hy30 => intro w hSw; (try dsimp only at hSw); go_simp; (first | done | with_reducible rfl)
      (try simp only [Act.put, List.getElem_toArray, List.getElem_cons_zero, List.getElem_cons_succ, List.setIfInBounds_toArray, List.set_cons_zero, List.set_cons_succ])
      refine wpAnyH_take (i := 10) (v := ?v31) rfl (by kernel_rfl) (by kernel_rfl) (by kernel_rfl) (fun _ _ _ h => h) (Or.inl ⟨by kernel_rfl, ?hy31⟩) (by assumption) ?rest31
      case hy31 => intro w hSw; (try dsimp only at hSw); go_simp; (first | done | with_reducible rfl)
      (try simp only [Act.put, List.getElem_toArray, List.getElem_cons_zero, List.getElem_cons_succ, List.setIfInBounds_toArray, List.set_cons_zero, List.set_cons_succ])
      refine wpAnyH_take (i := 11) (v := ?v32) rfl (by kernel_rfl) (by kernel_rfl) (by kernel_rfl) (fun _ _ _ h => h) (Or.inl ⟨by kernel_rfl, ?hy32⟩) (by assumption) ?rest32
      case hy32 => intro w hSw; (try dsimp only at hSw); obtain ⟨p0, p1_, p2_, p3_, p4_⟩ := HF9.out w hSw; go_simp; (first | done | with_reducible rfl)
      (try simp only [Act.put, List.getElem_toArray, List.getElem_cons_zero, List.getElem_cons_succ, List.setIfInBounds_toArray, List.set_cons_zero, List.set_cons_succ])
      refine wpAnyH_take (i := 12) (v := ?v33) rfl (by kernel_rfl) (by kernel_rfl) (by kernel_rfl) (fun _ _ _ h => h) (Or.inl ⟨by kernel_rfl, ?hy33⟩) (by assumption) ?rest33
      case hy33 => intro w hSw; (try dsimp only at hSw); go_simp; (first | done | with_reducible rfl)
      (try simp only [Act.put, List.getElem_toArray, List.getElem_cons_zero, List.getElem_cons_succ, List.setIfInBounds_toArray, List.set_cons_zero, List.set_cons_succ])
      refine wpAnyH_take (i := 13) (v := ?v34) rfl (by kernel_rfl) (by kernel_rfl) (by kernel_rfl) (fun _ _ _ h => h) (Or.inl ⟨by kernel_rfl, ?hy34⟩) (by assumption) ?rest34
      case hy34 => intro w hSw; (try dsimp only at hSw); obtain ⟨p0, p1_, p2_, p3_, p4_⟩ := HF2.out w (HXZ.out.trans (hSw.mono HXZ.out.size)); go_simp; (first | done | with_reducible rfl)
      (try simp only [Act.put, List.getElem_toArray, List.getElem_cons_zero, List.getElem_cons_succ, List.setIfInBounds_toArray, List.set_cons_zero, List.set_cons_succ])
      refine wpAnyH_take (i := 14) (v := ?v35) rfl (by kernel_rfl) (by kernel_rfl) (by kernel_rfl) (fun _ _ _ h => h) (Or.inl ⟨by kernel_rfl, ?hy35⟩) (by assumption) ?rest35
      case hy35 => intro w hSw; (try dsimp only at hSw); go_simp; (first | done | with_reducible rfl)
      (try simp only [Act.put, List.getElem_toArray, List.getElem_cons_zero, List.getElem_cons_succ, List.setIfInBounds_toArray, List.set_cons_zero, List.set_cons_succ])
      refine wpAnyH_take (i := 15) (v := ?v36) rfl (by kernel_rfl) (by kernel_rfl) (by kernel_rfl) (fun _ _ _ h => h) (Or.inl ⟨by kernel_rfl, ?hy36⟩) (by assumption) ?rest36
      case hy36 => intro w hSw; (try dsimp only at hSw); go_simp; (first | done | with_reducible rfl)
      (try simp only [Act.put, List.getElem_toArray, List.getElem_cons_zero, List.getElem_cons_succ, List.setIfInBounds_toArray, List.set_cons_zero, List.set_cons_succ])
      refine wpAnyH_ready (rs := [16]) (by kernel_rfl) (by simp) ?_
      refine AllReadyH.cons rfl (fun K hK => ?_) AllReadyH.nil
      go_simp
      go_at_call 13
      with_reducible refine (RE.out _).mono ?_
      rintro e wM ⟨vh, rfl, hpk, hbM⟩
      obtain ⟨ph, kh, rfl⟩ := hpk.val
      have HRI := Lib.hid hpk.rowI
      clear hpk
      have HBM := Lib.hid (hHeld.trans (hbM.mono hHeld.size))
      clear hbM
      (try go_wp2_with fail)
      refine hK.out _ _ HBM.out (fun hHeld2 => ?_)
      clear hK K hHeld
      have hHeld := hHeld2
      clear hHeld2
      (try simp only [Act.put, List.getElem_toArray, List.getElem_cons_zero, List.getElem_cons_succ, List.setIfInBounds_toArray, List.set_cons_zero, List.set_cons_succ])
      have SM3 := Lib.hid (c_samei (c := j3) (d := kh) (HP3.out _ hHeld) HRI.out)
      clear HRI
      refine wpAnyH_ready (rs := [17]) (by kernel_rfl) (by simp) ?_
      refine AllReadyH.cons rfl (fun K hK => ?_) AllReadyH.nil
      go_simp
      go_at_call 9
      with_reducible refine (SM3.out).mono ?_
      rintro e wN ⟨rfl, hbN⟩
      have HBN := Lib.hid (hHeld.trans (hbN.mono hHeld.size))
      clear hbN
      (try go_wp2_with fail)
      refine hK.out _ _ HBN.out (fun hHeld2 => ?_)
      clear hK K hHeld
      have hHeld := hHeld2
      clear hHeld2
      (try simp only [Act.put, List.getElem_toArray, List.getElem_cons_zero, List.getElem_cons_succ, List.setIfInBounds_toArray, List.set_cons_zero, List.set_cons_succ])
      refine wpAnyH_take (i := 18) (v := ?v37) rfl (by kernel_rfl) (by kernel_rfl) (by kernel_rfl) (fun _ _ _ h => h) (Or.inl ⟨by kernel_rfl, ?hy37⟩) (by assumption) ?rest37
      case hy37 => intro w hSw; (try dsimp only at hSw); go_simp; (first | done | with_reducible rfl)
      (try simp only [Act.put, List.getElem_toArray, List.getElem_cons_zero, List.getElem_cons_succ, List.setIfInBounds_toArray, List.set_cons_zero, List.set_cons_succ])
      refine wpAnyH_take (i := 19) (v := ?v38) rfl (by kernel_rfl) (by kernel_rfl) (by kernel_rfl) (fun _ _ _ h => h) (Or.inl ⟨by kernel_rfl, ?hy38⟩) (by assumption) ?rest38
      case hy38 => intro w hSw; (try dsimp only at hSw); go_simp; (first | done | with_reducible rfl)
      (try simp only [Act.put, List.getElem_toArray, List.getElem_cons_zero, List.getElem_cons_succ, List.setIfInBounds_toArray, List.set_cons_zero, List.set_cons_succ])
      refine wpAnyH_ready (rs := [20]) (by kernel_rfl) (by simp) ?_
      refine AllReadyH.cons rfl (fun K hK => ?_) AllReadyH.nil
      go_simp
      go_at_call 4
      with_reducible refine (LV.out _).mono ?_
      rintro e wO ⟨rfl, hbO⟩
      have HBO := Lib.hid (hHeld.trans (hbO.mono hHeld.size))
      clear hbO
      (try go_wp2_with fail)
      refine hK.out _ _ HBO.out (fun hHeld2 => ?_)
      clear hK K hHeld
      have hHeld := hHeld2
      clear hHeld2
      (try simp only [Act.put, List.getElem_toArray, List.getElem_cons_zero, List.getElem_cons_succ, List.setIfInBounds_toArray, List.set_cons_zero, List.set_cons_succ])
      refine wpAnyH_take (i := 21) (v := ?v39) rfl (by kernel_rfl) (by kernel_rfl) (by kernel_rfl) (fun _ _ _ h => h) (Or.inl ⟨by kernel_rfl, ?hy39⟩) (by assumption) ?rest39
      case hy39 => intro w hSw; (try dsimp only at hSw); go_simp; (first | done | with_reducible rfl)
      (try simp only [Act.put, List.getElem_toArray, List.getElem_cons_zero, List.getElem_cons_succ, List.setIfInBounds_toArray, List.set_cons_zero, List.set_cons_succ])
      refine wpAnyH_take (i := 22) (v := ?v40) rfl (by kernel_rfl) (by kernel_rfl) (by kernel_rfl) (fun _ _ _ h => h) (Or.inl ⟨by kernel_rfl, ?hy40⟩) (by assumption) ?rest40
      case hy40 => intro w hSw; (try dsimp only at hSw); go_simp; (first | done | with_reducible rfl)
      (try simp only [Act.put, List.getElem_toArray, List.getElem_cons_zero, List.getElem_cons_succ, List.setIfInBounds_toArray, List.set_cons_zero, List.set_cons_succ])
      refine wpAnyH_done (by kernel_rfl) ?_ _
      have HBO2 := Lib.hid (HB2.out.trans (HBO.out.mono HB2.out.size))
      go_wp2_with fail
      go_ret
      exact ⟨rfl, HBO2.out⟩
theorem walk (W : World) (st rm : Int) (cv : Value) (cs : List (List Cl)) (pp tp : Option Addr) (pk tk : Nat) (ps ts : List Int) (_ : i64r st ∧ i64r rm) (hC : RowCC W cv cs) (hP : RowI W pp ps.length ps) (hQ : RowI W tp ts.length ts)
    (hcl : cs.length ≤ 1048576) (hll : ∀ l ∈ cs, l.length ≤ 1048576) (hbk : ps.length + ts.length + bulkC cs ≤ 1048576) (hpk : ps.length ≤ pk) (n : Int) (hn : -9223372036854775808 ≤ n ∧ n ≤ 9223372036854775807) (r : Int) (hr : -9223372036854775808 ≤ r ∧ r ≤ 9223372036854775807) :
    Calls Try.prog 3 #[.agg #[.int .i64 st, .int .i64 rm, cv, .slice pp ps.length pk, .slice tp ts.length tk], .int .i64 n, .int .i64 r] W fun e W' => e = .returned (.bool true) ∧ Below W.heap.size W W' := by
  obtain ⟨cp, ck, rfl, -⟩ := id hC
  refine main W st rm cp pp tp ck pk tk cs ps ts n r hC hP hQ ⟨by omega, fun l hl => by have := hll l hl; omega, fun l hl c hc => ?_, by omega, by omega⟩ hpk hn hr
  obtain ⟨q, hq, rfl⟩ := List.getElem_of_mem hl
  obtain ⟨j, hj, rfl⟩ := List.getElem_of_mem hc
  have h1 := bulkC_get (List.getElem?_eq_getElem hq)
  have h2 := bulkK_get (List.getElem?_eq_getElem hj)
  omega
end slimPicks
end Go.Proofs.Ythnpbfboedgmpaa
