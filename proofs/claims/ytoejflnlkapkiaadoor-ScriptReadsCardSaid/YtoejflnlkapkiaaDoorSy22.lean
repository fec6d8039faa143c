/- Put together by program (merge2.py): Sqs Scp Sqt. -/
import Derived.Test.YtoejflnlkapkiaaDoorSy21
/- Reference 42's Lines. By program (gensqs.py). -/
namespace Go.Proofs.YtoejflnlkapkiaaDoor
open Go.ChangeShapes Go.WideShapes Go.ChangeAt Go.RowKit
set_option linter.unusedVariables false
set_option linter.unusedSimpArgs false
theorem own_three (w : World) (B : Nat) (u v x : Value) (hB : B ≤ w.heap.size) : (w.alloc (.cells #[u, v, x] 9)).ownsRow B 9 1 (.slice (some ⟨w.heap.size, 0, none⟩) 3 3) 3 [u, v, x] :=
  ⟨rfl, .inr ⟨w.heap.size, 3, #[u, v, x], rfl, hB, heap_alloc_new _ _, Nat.le_refl _, by decide, rfl, rfl⟩⟩
/-- The lines so far. -/
def headL (st rm : Int) (ps ts : List Int) : List (List UInt8) := [intsT plW [st, rm], intsT piW ps, intsT tiW ts]
def cliL (l : List Cl) : List (List UInt8) := cliB.data.toList :: l.map clT
def linesL (st rm : Int) (ps ts : List Int) (cs : List (List Cl)) : List (List UInt8) := headL st rm ps ts ++ (cs.map cliL).flatten
theorem linesL_step {st rm : Int} {ps ts : List Int} {cs : List (List Cl)} {q : Nat} {l : List Cl} (h : cs[q]? = some l) : linesL st rm ps ts (cs.take (q + 1)) = linesL st rm ps ts (cs.take q) ++ cliL l := by
  unfold linesL
  rw [List.take_add_one, h]; simp
theorem encS_app (l m : List (List UInt8)) : encS (l ++ m) = encS l ++ encS m := by unfold encS; simp
theorem join_intsT (f : ByteArray) (xs : List Int) : lineB (wsL f xs) = intsT f xs ++ [10] := rfl
theorem txT_lines (st rm : Int) (ps ts : List Int) (cs : List (List Cl)) : txT (linesL st rm ps ts cs) = scT st rm ps ts cs := by
  have h1 : ∀ l : List Cl, txT (cliL l) = cliT l := fun l => by
    unfold txT cliL cliT callsT
    rw [List.map_cons, List.flatten_cons, List.map_map]
    rfl
  have h2 : ∀ cs : List (List Cl), txT ((cs.map cliL).flatten) = (cs.map cliT).flatten := fun cs => by
    induction cs with
    | nil => rfl
    | cons l r ih =>
      have e : txT (cliL l ++ (r.map cliL).flatten) = txT (cliL l) ++ txT ((r.map cliL).flatten) := by unfold txT; simp
      rw [List.map_cons, List.flatten_cons, e, ih, h1, List.map_cons, List.flatten_cons]
  have e : txT (headL st rm ps ts ++ (cs.map cliL).flatten) = txT (headL st rm ps ts) ++ txT ((cs.map cliL).flatten) := by unfold txT; simp
  unfold linesL
  rw [e, h2]
  unfold scT headT headL txT
  simp only [List.map_cons, List.map_nil, List.flatten_cons, List.flatten_nil, List.append_nil]
  rw [join_intsT, join_intsT, join_intsT]
  simp only [List.append_assoc]
  rfl
def LinesOk (st rm : Int) (ps ts : List Int) (cs : List (List Cl)) (W : World) (e : Ending) (w' : World) : Prop :=
  (((∀ l ∈ cs, ∀ c ∈ l, 1 ≤ c.kd ∧ c.kd ≤ 7) ∧ ∃ p n k, e = .returned (.tuple #[.slice p n k, .bool true]) ∧ RowS w' (.slice p n k) (linesL st rm ps ts cs)) ∨
    ((∃ l ∈ cs, ∃ c ∈ l, ¬ (1 ≤ c.kd ∧ c.kd ≤ 7)) ∧ e = .returned (.tuple #[.slice none 0 0, .bool false]))) ∧ Below W.heap.size W w'
set_option maxRecDepth 100000 in
set_option maxHeartbeats 16000000 in
theorem r42_lines (st rm : Int) (cv : Value) (cs : List (List Cl)) (pp tp : Option Addr) (pk tk : Nat) (ps ts : List Int) (W : World) (hst : i64r st) (hrm : i64r rm)
    (hC : RowCC W cv cs) (hcl : cs.length ≤ 1000) (hll : ∀ l ∈ cs, l.length ≤ 1000) (hsz : ∀ l ∈ cs, ∀ c ∈ l, c.s.size ≤ 10000000 ∧ c.xs.length ≤ 1000000) (hP : RowI W pp ps.length ps) (hpn : ps.length ≤ 5000000) (hQ : RowI W tp ts.length ts) (htn : ts.length ≤ 5000000) :
    Calls Tryd.prog 10 #[.agg #[.int .i64 st, .int .i64 rm, cv, .slice pp ps.length pk, .slice tp ts.length tk]] W (LinesOk st rm ps ts cs W) := by
  obtain ⟨cp, cc, rfl, -⟩ := id hC
  obtain ⟨w0, hw0, r0, hB0, hs0⟩ := boxG W #[.int .i64 st, .int .i64 rm, .slice cp cs.length cc, .slice pp ps.length pk, .slice tp ts.length tk] 34
  have HF := Lib.hid (fun (u : World) (hu : Below w0.heap.size w0 u) => sc_cells5 ((hu.block _ (by omega)).trans r0))
  have HC := Lib.hid (fun (u : World) (hu : Below w0.heap.size w0 u) => hC.below (hB0.trans (hu.mono hB0.size)))
  have I0 := Lib.hid (r42_ints plW (some ⟨w0.heap.size, 0, none⟩) 2 2 [st, rm] (w0.alloc (.cells #[.int .i64 st, .int .i64 rm] 3)).drew ((rowI2 w0 st rm hst hrm).below (Below.refl _ _).drew) (by omega) (by decide))
  have IP := Lib.hid (fun (w : World) (h : Below w0.heap.size w0 w) => r42_ints piW pp ps.length pk ps w (hP.below (hB0.trans (h.mono hB0.size))) hpn (by decide))
  have IT := Lib.hid (fun (w : World) (h : Below w0.heap.size w0 w) => r42_ints tiW tp ts.length tk ts w (hQ.below (hB0.trans (h.mono hB0.size))) htn (by decide))
  have HB0 := Lib.hid hB0
  have HCL := Lib.hid hcl
  have HLL := Lib.hid hll
  have HSZ := Lib.hid hsz
  clear r0 hB0 hs0 hC hcl hll hsz hP hpn hQ htn hst hrm
  unfold plW at I0
  unfold piW at IP
  unfold tiW at IT
  go_enter Tryd.func10, Tryd.ntmps10
  go_upto_region 1 with fail
  refine wp_region_held_drew (S := fun w' => Below w0.heap.size w0 w') (by kernel_rfl) ((Below.refl _ _).drew) (fun hHeld => ?_)
  refine wpAnyH_take (i := 0) (v := ?v1) rfl (by kernel_rfl) (by kernel_rfl) (by kernel_rfl) (fun _ _ _ h => h) (Or.inl ⟨by kernel_rfl, ?hy1⟩) (by assumption) ?rest1
  case hy1 => intro w hSw; (try dsimp only at hSw); obtain ⟨p0, p1, p2, p3, p4⟩ := HF.out w hSw; go_simp; (first | done | with_reducible rfl)
  (try simp only [Act.put, List.getElem_toArray, List.getElem_cons_zero, List.getElem_cons_succ, List.setIfInBounds_toArray, List.set_cons_zero, List.set_cons_succ])
  refine wpAnyH_take (i := 1) (v := ?v2) rfl (by kernel_rfl) (by kernel_rfl) (by kernel_rfl) (fun _ _ _ h => h) (Or.inl ⟨by kernel_rfl, ?hy2⟩) (by assumption) ?rest2
  case hy2 => intro w hSw; (try dsimp only at hSw); obtain ⟨p0, p1, p2, p3, p4⟩ := HF.out w hSw; go_simp; (first | done | with_reducible rfl)
  (try simp only [Act.put, List.getElem_toArray, List.getElem_cons_zero, List.getElem_cons_succ, List.setIfInBounds_toArray, List.set_cons_zero, List.set_cons_succ])
  refine wpAnyH_take (i := 2) (v := ?v3) rfl (by kernel_rfl) (by kernel_rfl) (by kernel_rfl) (fun _ _ _ h => h) (Or.inl ⟨by kernel_rfl, ?hy3⟩) (by assumption) ?rest3
  case hy3 => intro w hSw; (try dsimp only at hSw); obtain ⟨p0, p1, p2, p3, p4⟩ := HF.out w hSw; go_simp; (first | done | with_reducible rfl)
  (try simp only [Act.put, List.getElem_toArray, List.getElem_cons_zero, List.getElem_cons_succ, List.setIfInBounds_toArray, List.set_cons_zero, List.set_cons_succ])
  refine wpAnyH_take (i := 3) (v := ?v4) rfl (by kernel_rfl) (by kernel_rfl) (by kernel_rfl) (fun _ _ _ h => h) (Or.inl ⟨by kernel_rfl, ?hy4⟩) (by assumption) ?rest4
  case hy4 => intro w hSw; (try dsimp only at hSw); obtain ⟨p0, p1, p2, p3, p4⟩ := HF.out w hSw; go_simp; (first | done | with_reducible rfl)
  (try simp only [Act.put, List.getElem_toArray, List.getElem_cons_zero, List.getElem_cons_succ, List.setIfInBounds_toArray, List.set_cons_zero, List.set_cons_succ])
  refine wpAnyH_take (i := 6) (v := ?v5) rfl (by kernel_rfl) (by kernel_rfl) (by kernel_rfl) (fun _ _ _ h => h) (Or.inl ⟨by kernel_rfl, ?hy5⟩) (by assumption) ?rest5
  case hy5 => intro w hSw; (try dsimp only at hSw); obtain ⟨p0, p1, p2, p3, p4⟩ := HF.out w hSw; go_simp; (first | done | with_reducible rfl)
  (try simp only [Act.put, List.getElem_toArray, List.getElem_cons_zero, List.getElem_cons_succ, List.setIfInBounds_toArray, List.set_cons_zero, List.set_cons_succ])
  refine wpAnyH_take (i := 7) (v := ?v6) rfl (by kernel_rfl) (by kernel_rfl) (by kernel_rfl) (fun _ _ _ h => h) (Or.inl ⟨by kernel_rfl, ?hy6⟩) (by assumption) ?rest6
  case hy6 => intro w hSw; (try dsimp only at hSw); obtain ⟨p0, p1, p2, p3, p4⟩ := HF.out w hSw; go_simp; (first | done | with_reducible rfl)
  (try simp only [Act.put, List.getElem_toArray, List.getElem_cons_zero, List.getElem_cons_succ, List.setIfInBounds_toArray, List.set_cons_zero, List.set_cons_succ])
  refine wpAnyH_take (i := 9) (v := ?v7) rfl (by kernel_rfl) (by kernel_rfl) (by kernel_rfl) (fun _ _ _ h => h) (Or.inl ⟨by kernel_rfl, ?hy7⟩) (by assumption) ?rest7
  case hy7 => intro w hSw; (try dsimp only at hSw); obtain ⟨p0, p1, p2, p3, p4⟩ := HF.out w hSw; go_simp; (first | done | with_reducible rfl)
  (try simp only [Act.put, List.getElem_toArray, List.getElem_cons_zero, List.getElem_cons_succ, List.setIfInBounds_toArray, List.set_cons_zero, List.set_cons_succ])
  refine wpAnyH_take (i := 10) (v := ?v8) rfl (by kernel_rfl) (by kernel_rfl) (by kernel_rfl) (fun _ _ _ h => h) (Or.inl ⟨by kernel_rfl, ?hy8⟩) (by assumption) ?rest8
  case hy8 => intro w hSw; (try dsimp only at hSw); obtain ⟨p0, p1, p2, p3, p4⟩ := HF.out w hSw; go_simp; (first | done | with_reducible rfl)
  (try simp only [Act.put, List.getElem_toArray, List.getElem_cons_zero, List.getElem_cons_succ, List.setIfInBounds_toArray, List.set_cons_zero, List.set_cons_succ])
  refine wpAnyH_ready (rs := [4]) (by kernel_rfl) (by simp) ?_
  refine AllReadyH.cons rfl (fun K hK => ?_) AllReadyH.nil
  go_simp
  refine hK.out _ _ (hHeld.alloc hHeld.size _) (fun hHeld2 => ?_)
  clear hK K hHeld
  have hHeld := hHeld2
  clear hHeld2
  (try simp only [Act.put, List.getElem_toArray, List.getElem_cons_zero, List.getElem_cons_succ, List.setIfInBounds_toArray, List.set_cons_zero, List.set_cons_succ])
  refine wpAnyH_ready (rs := [5]) (by kernel_rfl) (by simp) ?_
  refine AllReadyH.cons rfl (fun K hK => ?_) AllReadyH.nil
  go_simp
  go_at_call 25
  with_reducible refine (I0.out).mono ?_
  rintro e wA ⟨sA, hsA, rfl, hbA⟩
  have HBA := Lib.hid (hHeld.trans (hbA.mono hHeld.size))
  have HSA := Lib.hid hsA
  clear hbA hsA
  (try go_wp2_with fail)
  refine hK.out _ _ HBA.out (fun hHeld2 => ?_)
  clear hK K hHeld
  have hHeld := hHeld2
  clear hHeld2
  (try simp only [Act.put, List.getElem_toArray, List.getElem_cons_zero, List.getElem_cons_succ, List.setIfInBounds_toArray, List.set_cons_zero, List.set_cons_succ])
  refine wpAnyH_ready (rs := [8]) (by kernel_rfl) (by simp) ?_
  refine AllReadyH.cons rfl (fun K hK => ?_) AllReadyH.nil
  go_simp
  go_at_call 25
  with_reducible refine (IP.out _ HBA.out).mono ?_
  rintro e wB ⟨sB, hsB, rfl, hbB⟩
  have HBB := Lib.hid (hHeld.trans (hbB.mono hHeld.size))
  have HSB := Lib.hid hsB
  clear hbB hsB
  (try go_wp2_with fail)
  refine hK.out _ _ HBB.out (fun hHeld2 => ?_)
  clear hK K hHeld
  have hHeld := hHeld2
  clear hHeld2
  (try simp only [Act.put, List.getElem_toArray, List.getElem_cons_zero, List.getElem_cons_succ, List.setIfInBounds_toArray, List.set_cons_zero, List.set_cons_succ])
  refine wpAnyH_ready (rs := [11]) (by kernel_rfl) (by simp) ?_
  refine AllReadyH.cons rfl (fun K hK => ?_) AllReadyH.nil
  go_simp
  go_at_call 25
  with_reducible refine (IT.out _ HBB.out).mono ?_
  rintro e wC ⟨sC, hsC, rfl, hbC⟩
  have HBC := Lib.hid (hHeld.trans (hbC.mono hHeld.size))
  have HSC := Lib.hid hsC
  clear hbC hsC
  (try go_wp2_with fail)
  refine hK.out _ _ HBC.out (fun hHeld2 => ?_)
  clear hK K hHeld
  have hHeld := hHeld2
  clear hHeld2
  (try simp only [Act.put, List.getElem_toArray, List.getElem_cons_zero, List.getElem_cons_succ, List.setIfInBounds_toArray, List.set_cons_zero, List.set_cons_succ])
  refine wpAnyH_ready (rs := [12]) (by kernel_rfl) (by simp) ?_
  refine AllReadyH.cons rfl (fun K hK => ?_) AllReadyH.nil
  go_simp
  refine hK.out _ _ (HBC.out.alloc HBC.out.size _) (fun hHeld2 => ?_)
  clear hK K hHeld
  have hHeld := hHeld2
  clear hHeld2
  (try simp only [Act.put, List.getElem_toArray, List.getElem_cons_zero, List.getElem_cons_succ, List.setIfInBounds_toArray, List.set_cons_zero, List.set_cons_succ])
  refine wpAnyH_take (i := 13) (v := ?v9) rfl (by kernel_rfl) (by kernel_rfl) (by kernel_rfl) (fun _ _ _ h => h) (Or.inl ⟨by kernel_rfl, ?hy9⟩) (by assumption) ?rest9
  case hy9 => intro w hSw; (try dsimp only at hSw); obtain ⟨p0, p1, p2, p3, p4⟩ := HF.out w hSw; go_simp; (first | done | with_reducible rfl)
  (try simp only [Act.put, List.getElem_toArray, List.getElem_cons_zero, List.getElem_cons_succ, List.setIfInBounds_toArray, List.set_cons_zero, List.set_cons_succ])
  refine wpAnyH_done (by kernel_rfl) ?_ _
  have hA := ba_ext2 (a := sA) (b := ⟨(intsT plW [st, rm]).toArray⟩) HSA.out
  have hB := ba_ext2 (a := sB) (b := ⟨(intsT piW ps).toArray⟩) HSB.out
  have hC := ba_ext2 (a := sC) (b := ⟨(intsT tiW ts).toArray⟩) HSC.out
  have HO0 := Lib.hid (show (wC.alloc (.cells #[.string sA, .string sB, .string sC] 9)).ownsRow w0.heap.size 9 1 (.slice (some ⟨wC.heap.size, 0, none⟩) 3 3) (linesL st rm ps ts (cs.take 0)).length (encS (linesL st rm ps ts (cs.take 0))) from by
    rw [hA, hB, hC]
    exact own_three wC _ _ _ _ HBC.out.size)
  obtain ⟨wL, hwL⟩ : ∃ wL, wC.alloc (.cells #[.string sA, .string sB, .string sC] 9) = wL := ⟨_, rfl⟩
  have HBL := Lib.hid (show Below w0.heap.size w0 wL by rw [← hwL]; exact HBC.out.alloc HBC.out.size _)
  rw [hwL] at HO0 ⊢
  clear hwL hA hB hC hHeld HBA HBB HBC HSA HSB HSC I0 IP IT
  have HLN0 := Lib.hid (show (linesL st rm ps ts (cs.take 0)).length ≤ 3 + 0 * 1001 from by simp [linesL, headL])
  obtain ⟨L0, hL0⟩ : ∃ L0, linesL st rm ps ts (cs.take 0) = L0 := ⟨_, rfl⟩
  have HL0 := Lib.hid (show L0 = linesL st rm ps ts (cs.take 0) from hL0.symm)
  rw [hL0] at HO0 HLN0
  clear hL0
  go_wp2_with fail
  go_loopw [4, 5, 6, 7] (fun v i _ _ wr => ∃ (q : Nat) (L : List (List UInt8)), i = .int .i64 q ∧ Hid (q ≤ cs.length) ∧ Hid (L = linesL st rm ps ts (cs.take q)) ∧ Hid (L.length ≤ 3 + q * 1001) ∧ Hid (wr.ownsRow w0.heap.size 9 1 v L.length (encS L)) ∧ Hid (∀ l ∈ cs.take q, ∀ c ∈ l, 1 ≤ c.kd ∧ c.kd ≤ 7) ∧ Hid (Below w0.heap.size w0 wr)) (fun _ i _ _ _ => cs.length - (intOf i).toNat)
  case atStart => exact ⟨0, L0, rfl, Lib.hid (Nat.zero_le _), HL0, HLN0, HO0, Lib.hid (fun l hl => by simp at hl), HBL⟩
  case round =>
    obtain ⟨q, L, rfl, HQ, HL, HLN, HO, HKD, HB⟩ := hrel
    obtain ⟨x1, rfl⟩ : ∃ w, w = wr := ⟨_, rfl⟩
    obtain ⟨m0, m1, m2, m3, m4⟩ := HF.out x1 HB.out
    have HBW := Lib.hid (HB0.out.trans (HB.out.mono HB0.out.size))
    by_cases hq : q < cs.length
    · obtain ⟨l, hl⟩ : ∃ l, cs[q]? = some l := ⟨_, List.getElem?_eq_getElem hq⟩
      have HCQ := Lib.hid hl
      have HLT := Lib.hid hq
      have hq0 : (0 : Int) ≤ (q : Int) := by omega
      have hqi : (q : Int) < (cs.length : Int) := by omega
      have HLEN := Lib.hid (HLL.out l (List.mem_of_getElem? hl))
      have WQ := Lib.hid (show wrap64 ((q : Int) + 1) = ((q + 1 : Nat) : Int) by have := HCL.out; simp only [wrap64]; omega)
      obtain ⟨p', c', hv, hrr⟩ := HC.out w0 (Below.refl _ _)
      simp only [Value.slice.injEq] at hv
      obtain ⟨rfl, -, -⟩ := hv
      rcases hrr with hrr | ⟨gb, go, rfl, hgb, hrr⟩
      · rw [hrr] at hq; simp at hq
      obtain ⟨u, hu, hul⟩ := hrr q l hl
      have HU := Lib.hid (fun (w : World) (h : Below w0.heap.size w0 w) => (h.cell (p := ⟨gb, go + q, none⟩) hgb).trans hu)
      have HRC := Lib.hid (fun (w : World) (h : Below w0.heap.size w0 w) => hul.below h)
      obtain ⟨lp, lc, rfl, -⟩ := hul
      have hsz1 := HB.out.size
      have hkn : L.length < 10000000 := by have h1 := HLN.out; have h2 := HCL.out; omega
      clear hl hq hrr hu
      go_upto_region 5 with fail
      go_wp2_with (at_builtin; refine append_gL (T := 31) (E := 9) (sz := 1) (bys := 16) (B := w0.heap.size) (n := L.length) (xs := encS L) (news := [.string ⟨#[99, 108, 105, 101, 110, 116]⟩]) Tryd.underlying31 info_str (by decide) (by decide) rfl _ _ rfl rfl HO.out rfl hsz1 hkn rfl (by intro u hu; simp at hu; subst hu; rfl) ?_; intro v4 z4 hO4 hb4; have HO4 := Lib.hid hO4; have HB4 := Lib.hid hb4; clear hO4 hb4)
      have HBZ := Lib.hid (HB.out.trans (HB4.out.mono (Nat.le_refl _)))
      obtain ⟨L1, hL1⟩ : ∃ L1, L ++ [cliB.data.toList] = L1 := ⟨_, rfl⟩
      have HO5 := Lib.hid (show z4.ownsRow w0.heap.size 9 1 v4 L1.length (encS L1) from by
        rw [← hL1, encS_app, List.length_append]; exact HO4.out)
      have HL1 := Lib.hid (show L1 = linesL st rm ps ts (cs.take q) ++ cliB.data.toList :: (l.take 0).map clT from by rw [← hL1, HL.out]; rfl)
      have HLN1 := Lib.hid (show L1.length ≤ 3 + q * 1001 + 1 + 0 by rw [← hL1, List.length_append]; have := HLN.out; simp only [List.length_cons, List.length_nil]; omega)
      clear hL1 HO4 m0 m1 m2 m3 m4 hsz1 hkn
      go_loopw [4, 6, 7] (fun v j _ wr => ∃ (k : Nat) (L2 : List (List UInt8)), j = .int .i64 k ∧ Hid (k ≤ l.length) ∧ Hid (L2 = linesL st rm ps ts (cs.take q) ++ cliB.data.toList :: (l.take k).map clT) ∧ Hid (L2.length ≤ 3 + q * 1001 + 1 + k) ∧ Hid (wr.ownsRow w0.heap.size 9 1 v L2.length (encS L2)) ∧ Hid (∀ c ∈ l.take k, 1 ≤ c.kd ∧ c.kd ≤ 7) ∧ Hid (Below w0.heap.size w0 wr)) (fun _ j _ _ => l.length - (intOf j).toNat)
      case atStart => exact ⟨0, L1, rfl, Lib.hid (Nat.zero_le _), HL1, HLN1, HO5, Lib.hid (fun c hc => by simp at hc), HBZ⟩
      case round =>
        obtain ⟨k, L2, rfl, HKK, HL2, HLN2, HO2, HKD2, HB2⟩ := hrel
        obtain ⟨x2, rfl⟩ : ∃ w, w = wr := ⟨_, rfl⟩
        obtain ⟨m0, m1, m2, m3, m4⟩ := HF.out x2 HB2.out
        have hun := HU.out x2 HB2.out
        by_cases hk : k < l.length
        · obtain ⟨c, hc⟩ : ∃ c, l[k]? = some c := ⟨_, List.getElem?_eq_getElem hk⟩
          have hk0 : (0 : Int) ≤ (k : Int) := by omega
          have hki : (k : Int) < (l.length : Int) := by omega
          have HKL := Lib.hid hk
          have HCK := Lib.hid hc
          have WK := Lib.hid (show wrap64 ((k : Int) + 1) = ((k + 1 : Nat) : Int) by have := HLEN.out; simp only [wrap64]; omega)
          have HSC := Lib.hid (HSZ.out l (List.mem_of_getElem? HCQ.out) c (List.mem_of_getElem? hc))
          obtain ⟨p2, c2, hv2, hr2⟩ := HRC.out x2 HB2.out
          simp only [Value.slice.injEq] at hv2
          obtain ⟨rfl, -, -⟩ := hv2
          rcases hr2 with hr2 | ⟨g2, o2, rfl, hg2, hr2⟩
          · rw [hr2] at hk; simp at hk
          obtain ⟨hok, i0, i1, i2, i3, i4, i5, xv, i6, hxv⟩ := hr2 k c hc
          have HOK := Lib.hid hok
          have HXV := Lib.hid hxv
          obtain ⟨xp, xk, rfl, -⟩ := hxv
          obtain ⟨x3, hx3, r3, hb3, hs3⟩ := boxG x2 #[.int .i64 c.kd, .int .i64 c.n, .int .i64 c.dir, .string c.s, .int .i64 c.who, .int .i64 c.at', .slice xp c.xs.length xk] 49
          have HB3 := Lib.hid (HB2.out.trans (hb3.mono HB2.out.size))
          have HO3 := Lib.hid (own_below HO2.out hb3)
          have HX3 := Lib.hid (HXV.out.below hb3)
          obtain ⟨n0, n1, n2, n3, n4, n5, n6⟩ := cells7 r3
          clear hok hr2 hc hk r3 hb3
          by_cases hkd : 1 ≤ c.kd ∧ c.kd ≤ 7
          · have e1 : decide (c.kd < 1) = false := decide_eq_false (by omega)
            have e2 : decide (c.kd > 7) = false := decide_eq_false (by omega)
            have e2' : decide (7 < c.kd) = false := decide_eq_false (by omega)
            have CC := r42_call c (.slice xp c.xs.length xk) x3 HX3.out HOK.out hkd.1 hkd.2 HSC.out.1 HSC.out.2
            unfold Cl.val at CC
            have CC := Lib.hid CC
            have HKC := Lib.hid hkd
            clear hkd
            go_wp2_with fail
            refine CC.out.mono ?_
            rintro e x4 ⟨⟨sc, hsc, rfl⟩, hb4⟩
            have HB4' := Lib.hid (HB3.out.trans (hb4.mono HB3.out.size))
            have HO4 := Lib.hid (own_below HO3.out hb4)
            have HSCT := Lib.hid hsc
            have hsz4 := HB4'.out.size
            have hkn : L2.length < 10000000 := by have h1 := HLN2.out; have h2 := HCL.out; have h3 := HLT.out; have h4 := HLEN.out; have h5 := HKL.out; omega
            clear hb4 hsc
            go_wp2_with (at_builtin; refine append_gL (T := 31) (E := 9) (sz := 1) (bys := 16) (B := w0.heap.size) (n := L2.length) (xs := encS L2) (news := [.string sc]) Tryd.underlying31 info_str (by decide) (by decide) rfl _ _ rfl rfl HO4.out rfl hsz4 hkn rfl (by intro u hu; simp at hu; subst hu; rfl) ?_; intro v5 z5 hO5 hb5; have HO6 := Lib.hid hO5; have HB6 := Lib.hid hb5; clear hO5 hb5)
            have HO7 := Lib.hid (show z5.ownsRow w0.heap.size 9 1 v5 (L2 ++ [clT c]).length (encS (L2 ++ [clT c])) from by
              have hs := ba_ext2 (a := sc) (b := ⟨(clT c).toArray⟩) HSCT.out
              rw [encS_app, List.length_append]
              have h := HO6.out
              rw [hs] at h
              exact h)
            go_roundw
            case rel => exact ⟨k + 1, L2 ++ [clT c], by first | rw [WK.out] | simp, Lib.hid HKL.out, Lib.hid (by rw [HL2.out, List.take_add_one, HCK.out]; simp), Lib.hid (by rw [List.length_append]; have := HLN2.out; simp only [List.length_cons, List.length_nil]; omega), HO7, Lib.hid (by
              intro c' hc'
              rw [List.take_add_one, HCK.out] at hc'
              rcases List.mem_append.1 hc' with h | h
              · exact HKD2.out c' h
              · simp at h; subst h; exact HKC.out), Lib.hid (HB4'.out.trans (HB6.out.mono (Nat.le_refl _)))⟩
            case measure => first | exact sc_meas' l.length k HKL.out | (rw [WK.out]; exact sc_meas l.length k HKL.out)
          · have HNK := Lib.hid hkd
            have hcase : decide (c.kd < 1) = true ∨ (decide (c.kd < 1) = false ∧ decide (c.kd > 7) = true ∧ decide (7 < c.kd) = true) := by
              by_cases h : c.kd < 1
              · exact .inl (decide_eq_true h)
              · exact .inr ⟨decide_eq_false h, decide_eq_true (by omega), decide_eq_true (by omega)⟩
            have HFB := Lib.hid (HB0.out.trans (HB3.out.mono HB0.out.size))
            clear hkd
            rcases hcase with e1 | ⟨e1, e2, e2'⟩
            all_goals
              go_wp2_with fail
              go_ret2
              exact ⟨.inr ⟨⟨l, List.mem_of_getElem? HCQ.out, c, List.mem_of_getElem? HCK.out, HNK.out⟩, rfl⟩, HFB.out⟩
        · have h9 : k = l.length := by have := HKK.out; omega
          subst h9
          have hki : ¬ (l.length : Int) < (l.length : Int) := by omega
          go_wp2_with fail
          go_roundw
          case rel => exact ⟨q + 1, L2, by first | rw [WQ.out] | simp, Lib.hid HLT.out, Lib.hid (by rw [HL2.out, linesL_step HCQ.out, List.take_length]; rfl), Lib.hid (by have h1 := HLN2.out; have h2 := HLEN.out; omega), HO2, Lib.hid (by
            intro l' hl'
            rw [List.take_add_one, HCQ.out] at hl'
            rcases List.mem_append.1 hl' with h | h
            · exact HKD.out l' h
            · simp at h; subst h
              have h2 := HKD2.out
              rw [List.take_length] at h2
              exact h2), HB2⟩
          case measure => first | exact sc_meas' cs.length q HLT.out | (rw [WQ.out]; exact sc_meas cs.length q HLT.out)
    · have h9 : q = cs.length := by have := HQ.out; omega
      subst h9
      have hqi : ¬ (cs.length : Int) < (cs.length : Int) := by omega
      have HLF := Lib.hid (show L = linesL st rm ps ts cs by have h := HL.out; rwa [List.take_length] at h)
      have HKF := Lib.hid (show ∀ l ∈ cs, ∀ c ∈ l, 1 ≤ c.kd ∧ c.kd ≤ 7 by have h := HKD.out; rwa [List.take_length] at h)
      have HRS := Lib.hid (rowS_own HO.out)
      obtain ⟨p, k, rfl, -⟩ := rowS_own HO.out
      go_wp2_with fail
      go_ret2
      exact ⟨.inl ⟨HKF.out, p, L.length, k, rfl, by rw [← HLF.out]; exact HRS.out⟩, HBW.out⟩
end Go.Proofs.YtoejflnlkapkiaaDoor
/- A call comes in. -/
namespace Go.Proofs.YtoejflnlkapkiaaDoor
open Go.ChangeShapes Go.WideShapes Go.ChangeAt Go.RowKit
set_option linter.unusedVariables false
set_option linter.unusedSimpArgs false
section
variable {H : Type} {enc : TypeId × Value → H} {w : World} {sp : Nat → Bool} {held : Bool}
theorem wf_i64r {z : Int} (h : (Lit.int .i64 z).wf = true) : i64r z := by
  simpa [Lit.wf, IntKind.min, IntKind.max, IntKind.signed, IntKind.bits, i64r] using h
theorem sc_one_int {base fuel : Nat} {t : TypeId} {c : Value} {x : DataW H × List MemPlace} (ht : Tryd.prog.underlying t = some (.int .i64)) (h : DataW.trod enc Tryd.prog w base sp held fuel t [c] = some x) : ∃ n, c = .int .i64 n ∧ i64r n := by
  obtain ⟨a, ha, -, wa⟩ := DataW.trod_int ht h
  simp only [List.cons.injEq, and_true] at ha
  exact ⟨a, ha, wf_i64r wa⟩
theorem sc_one_str {base fuel : Nat} {t : TypeId} {c : Value} {x : DataW H × List MemPlace} (ht : Tryd.prog.underlying t = some .string) (h : DataW.trod enc Tryd.prog w base sp held fuel t [c] = some x) : ∃ s, c = .string s := by
  obtain ⟨a, ha, -, _⟩ := DataW.trod_string ht h
  simp only [List.cons.injEq, and_true] at ha
  exact ⟨a, ha⟩
theorem sc_two_int {base fuel : Nat} {t : TypeId} {c d : Value} {x : DataW H × List MemPlace} {f0 f1 : Field} (ht : Tryd.prog.underlying t = some (.struct #[f0, f1])) (h0 : f0.type = 3) (h1 : f1.type = 3) (o0 : f0.offset = 0) (o1 : f1.offset = 1) (hCi : Tryd.prog.cellsOf 3 = 1)
    (h : DataW.trod enc Tryd.prog w base sp held fuel t [c, d] = some x) : ∃ n m, c = .int .i64 n ∧ i64r n ∧ d = .int .i64 m ∧ i64r m := by
  obtain ⟨xs, m, rfl, rfl, hlen, hxs, hel⟩ := DataW.trod_struct ht h
  obtain ⟨x0, x1, rfl⟩ : ∃ x0 x1, xs = [x0, x1] := by
    have h3 : xs.length = 2 := hxs
    match xs, h3 with
    | [a, b], _ => exact ⟨a, b, rfl⟩
  have e0 := hel 0 f0 rfl
  have e1 := hel 1 f1 rfl
  rw [o0, h0, hCi] at e0
  rw [o1, h1, hCi] at e1
  simp only [List.drop_zero, List.take_succ_cons, List.take_zero, List.getElem?_cons_zero, List.drop_succ_cons, List.getElem?_cons_succ] at e0 e1
  obtain ⟨a, rfl, wa⟩ := sc_one_int Tryd.underlying3 e0
  obtain ⟨b, rfl, wb⟩ := sc_one_int Tryd.underlying3 e1
  exact ⟨a, b, rfl, wa, rfl, wb⟩
theorem sc_one_row {base fuel : Nat} {t e : TypeId} {c : Value} {x : DataW H × List MemPlace} (ht : Tryd.prog.underlying t = some (.slice e)) (he : Tryd.prog.underlying e = some (.int .u64)) (hC : Tryd.prog.cellsOf e = 1) (h : DataW.trod enc Tryd.prog w base sp held fuel t [c] = some x) : ∃ p n k, c = .slice p n k ∧ IsRow .u64 w p n k := by
  have hc : ∃ p n k, c = .slice p n k := by
    rcases DataW.trod_slice ht h with ⟨hc, _⟩ | ⟨a, len, cap, _, _, _, _, hc, _⟩
    · simp at hc; exact ⟨_, _, _, hc⟩
    · simp at hc; exact ⟨_, _, _, hc⟩
  obtain ⟨p, n, k, rfl⟩ := hc
  obtain ⟨yd, yp⟩ := x
  exact ⟨p, n, k, rfl, isRow_of (d := yd) (p := yp) ht he hC ⟨_, h⟩⟩
set_option maxRecDepth 100000 in
set_option maxHeartbeats 4000000 in
theorem trod_call (base fuel : Nat) (cs : List Value) (x : DataW H × List MemPlace) (h : DataW.trod enc Tryd.prog w base sp held fuel 49 cs = some x) :
    ∃ (kd n dir : Int) (s : ByteArray) (who ar : Int) (p : Option Addr) (m k : Nat), cs = [.int .i64 kd, .int .i64 n, .int .i64 dir, .string s, .int .i64 who, .int .i64 ar, .slice p m k] ∧ (i64r kd ∧ i64r n ∧ i64r dir ∧ i64r who ∧ i64r ar) ∧ IsRow .u64 w p m k := by
  have C2 : Tryd.prog.cellsOf 46 = 2 := by kernel_rfl
  have C3 : Tryd.prog.cellsOf 49 = 7 := by kernel_rfl
  have C5 : Tryd.prog.cellsOf 3 = 1 := by kernel_rfl
  have C6 : Tryd.prog.cellsOf 44 = 2 := by kernel_rfl
  have C7 : Tryd.prog.cellsOf 9 = 1 := by kernel_rfl
  have C8 : Tryd.prog.cellsOf 47 = 1 := by kernel_rfl
  obtain ⟨ys, m', rfl, hx1, hlen', hys, hel'⟩ := DataW.trod_struct Tryd.underlying49 h
  rw [C3] at hlen'
  obtain ⟨c0, c1, c2, c3, c4, c5, c6, rfl⟩ : ∃ c0 c1 c2 c3 c4 c5 c6, cs = [c0, c1, c2, c3, c4, c5, c6] := by
    match cs, hlen' with
    | [c0, c1, c2, c3, c4, c5, c6], _ => exact ⟨_, _, _, _, _, _, _, rfl⟩
  obtain ⟨y0, y1, y2, y3, y4, rfl⟩ : ∃ x0 x1 x2 x3 x4, ys = [x0, x1, x2, x3, x4] := by
    have h3 : ys.length = 5 := hys
    match ys, h3 with
    | [a, b, c, d, e], _ => exact ⟨a, b, c, d, e, rfl⟩
  have d0 := hel' 0 _ rfl
  have d1 := hel' 1 _ rfl
  have d2 := hel' 2 _ rfl
  have d3 := hel' 3 _ rfl
  have d4 := hel' 4 _ rfl
  simp only [C2, C5, C6, C7, C8, List.drop_zero, List.take_succ_cons, List.take_zero, List.getElem?_cons_zero, List.drop_succ_cons, List.getElem?_cons_succ] at d0 d1 d2 d3 d4
  obtain ⟨n2, rfl, w2⟩ := sc_one_int Tryd.underlying3 d0
  obtain ⟨n3, n4, rfl, w3, rfl, w4⟩ := sc_two_int Tryd.underlying44 rfl rfl rfl rfl C5 d1
  obtain ⟨s5, rfl⟩ := sc_one_str Tryd.underlying9 d2
  obtain ⟨n6, n7, rfl, w6, rfl, w7⟩ := sc_two_int Tryd.underlying46 rfl rfl rfl rfl C5 d3
  obtain ⟨p8, l8, k8, rfl, hrow⟩ := sc_one_row Tryd.underlying47 Tryd.underlying78 (by kernel_rfl) d4
  exact ⟨n2, n3, n4, s5, n6, n7, p8, l8, k8, rfl, ⟨w2, w3, w4, w6, w7⟩, hrow⟩
set_option maxRecDepth 100000 in
theorem open_call {base b0 : Nat} {r : Reach} {v : Value} {d : DataW H} {p : List MemPlace} (hv : Value.okWide Tryd.prog w r b0 49 v) (h : DataW.Trod enc Tryd.prog w base sp held 49 v d p) :
    ∃ (kd n dir : Int) (s : ByteArray) (who ar : Int) (p : Option Addr) (m k : Nat), v = .agg #[.int .i64 kd, .int .i64 n, .int .i64 dir, .string s, .int .i64 who, .int .i64 ar, .slice p m k] ∧ (i64r kd ∧ i64r n ∧ i64r dir ∧ i64r who ∧ i64r ar) ∧ IsRow .u64 w p m k := by
  obtain ⟨cs, rfl, hsz⟩ := okWide_struct Tryd.underlying49 hv
  obtain ⟨fuel, hf⟩ := h
  obtain ⟨kd, n, dir, s, who, ar, p, m, k, e, g⟩ := trod_call base fuel _ _ hf
  simp only [Value.cells] at e
  refine ⟨kd, n, dir, s, who, ar, p, m, k, ?_, g⟩
  congr 1
  exact Array.ext' (by simpa using e)
end
end Go.Proofs.YtoejflnlkapkiaaDoor
/- ScriptPrints: how long a script's text is. -/
namespace Go.Proofs.YtoejflnlkapkiaaDoor
open Go.ChangeShapes Go.WideShapes Go.ChangeAt Go.RowKit
set_option linter.unusedVariables false
set_option linter.unusedSimpArgs false
def szW (ws : List ByteArray) : Nat := (ws.map fun w => w.data.toList.length + 1).sum
theorem join_szL : ∀ l : List (List UInt8), (Lib.join l [32]).length ≤ (l.map fun w => w.length + 1).sum
  | [] => Nat.zero_le _
  | w :: r => by
    have h : ∀ r : List (List UInt8), (Lib.joinTail [32] r).length = (r.map fun w => w.length + 1).sum := fun r => by
      induction r with
      | nil => rfl
      | cons x r ih =>
        have e : Lib.joinTail [32] (x :: r) = 32 :: (x ++ Lib.joinTail [32] r) := by simp [Lib.joinTail]
        rw [e, List.length_cons, List.length_append, ih, List.map_cons, List.sum_cons]; omega
    rw [Lib.join_cons, List.length_append, h, List.map_cons, List.sum_cons]; omega
theorem lineB_sz (ws : List ByteArray) : (lineB ws).length ≤ szW ws + 1 := by
  unfold lineB szW
  rw [List.length_append]
  have := join_szL (ws.map (·.data.toList))
  rw [List.map_map] at this
  simp only [List.length_cons, List.length_nil]
  exact Nat.succ_le_succ this
theorem szW_app (a b : List ByteArray) : szW (a ++ b) = szW a + szW b := by unfold szW; rw [List.map_append, List.sum_append]
theorem szW_L {f : ByteArray} {xs : List Int} (h : ∀ x ∈ xs, i64r x) : szW (wsL f xs) ≤ f.data.toList.length + 1 + 22 * xs.length := by
  have h2 : ∀ xs : List Int, (∀ x ∈ xs, i64r x) → szW (xs.map itS) ≤ 22 * xs.length := fun xs => by
    induction xs with
    | nil => intro _; exact Nat.le_refl _
    | cons x r ih =>
      intro h
      have h1 := itoa_len (h x (List.mem_cons_self ..))
      have h2 := ih (fun y hy => h y (List.mem_cons_of_mem _ hy))
      have e : szW ((x :: r).map itS) = (Lib.itoa x).length + 1 + szW (r.map itS) := rfl
      rw [e, List.length_cons]; omega
  have e : szW (wsL f xs) = f.data.toList.length + 1 + szW (xs.map itS) := rfl
  rw [e]
  have := h2 xs h
  omega
theorem szW_U : ∀ {xs : List Int}, (∀ x ∈ xs, 0 ≤ x ∧ x < 18446744073709551616) → szW (xs.map udS) ≤ 22 * xs.length
  | [], _ => Nat.le_refl _
  | x :: r, h => by
    have hx := h x (List.mem_cons_self ..)
    have h1 := dec_len20 (n := x.toNat) (by omega)
    have h2 := szW_U (xs := r) (fun y hy => h y (List.mem_cons_of_mem _ hy))
    have e : szW ((x :: r).map udS) = (Lib.decDigits x.toNat).length + 1 + szW (r.map udS) := rfl
    rw [e, List.length_cons]; omega
theorem hexB_len (s : ByteArray) : (hexB s).length = 2 * s.size := by rw [← hexT_all, hexT_len s _ (Nat.le_refl _)]
theorem wdK_len : ∀ k : Fin 8, (wdK (k.1 : Int)).data.toList.length ≤ 7 := by decide +kernel
theorem wsC_sz {c : Cl} (h : GoodL c) : szW (wsC c) ≤ 60 + 22 * (c.s.size + c.xs.length) := by
  have hk : (wdK c.kd).data.toList.length ≤ 7 := by
    obtain ⟨j, hj⟩ : ∃ j : Nat, c.kd = (j : Int) := ⟨c.kd.toNat, by have := h.lo; omega⟩
    rw [hj]
    exact wdK_len ⟨j, by have := h.hi; omega⟩
  have hn := szW_L (f := wdK c.kd) (two_i64 h.ok.n h.ok.dir)
  have hw := szW_L (f := wdK c.kd) (two_i64 h.ok.who h.ok.at')
  have hu := szW_U h.xs
  simp only [List.length_cons, List.length_nil] at hn hw
  have e1 : szW [wdK c.kd] = (wdK c.kd).data.toList.length + 1 := rfl
  unfold wsC
  split
  · omega
  · split
    · split
      · omega
      · have e2 : szW [wdK c.kd, ⟨(hexB c.s).toArray⟩] = (wdK c.kd).data.toList.length + 1 + ((hexB c.s).length + 1) := rfl
        rw [e2, hexB_len]; omega
    · split
      · rw [szW_app]; omega
      · split
        · omega
        · omega
theorem callsT_sz : ∀ {l : List Cl}, (∀ c ∈ l, GoodL c) → (callsT l).length ≤ 83 * bulkK l
  | [], _ => Nat.zero_le _
  | c :: l, h => by
    have h1 := wsC_sz (h c (List.mem_cons_self ..))
    have h2 := lineB_sz (wsC c)
    have h3 := callsT_sz (l := l) (fun x hx => h x (List.mem_cons_of_mem _ hx))
    have e : callsT (c :: l) = lineB (wsC c) ++ callsT l := rfl
    have e2 : bulkK (c :: l) = (1 + c.s.size + c.xs.length) + bulkK l := rfl
    rw [e, e2, List.length_append]; omega
theorem clisT_sz : ∀ {cs : List (List Cl)}, (∀ l ∈ cs, ∀ c ∈ l, GoodL c) → ((cs.map cliT).flatten).length ≤ 8 * cs.length + 83 * bulkC cs
  | [], _ => Nat.zero_le _
  | l :: cs, h => by
    have h1 := callsT_sz (h l (List.mem_cons_self ..))
    have h3 := clisT_sz (cs := cs) (fun x hx => h x (List.mem_cons_of_mem _ hx))
    have e : cliT l = lineB [cliB] ++ callsT l := rfl
    have e0 : (lineB [cliB]).length = 7 := by decide
    have e2 : bulkC (l :: cs) = bulkK l + bulkC cs := rfl
    rw [List.map_cons, List.flatten_cons, e2, List.length_append, e, List.length_append, e0, List.length_cons]; omega
theorem scT_sz {st rm : Int} {ps ts : List Int} {cs : List (List Cl)} (hst : i64r st) (hrm : i64r rm) (hps : ∀ x ∈ ps, i64r x) (hts : ∀ x ∈ ts, i64r x) (hg : ∀ l ∈ cs, ∀ c ∈ l, GoodL c) :
    (scT st rm ps ts cs).length ≤ 100 + 22 * (ps.length + ts.length) + 8 * cs.length + 83 * bulkC cs := by
  have h1 := lineB_sz (wsL ⟨#[112, 108, 97, 121]⟩ [st, rm])
  have h2 := lineB_sz (wsL ⟨#[112, 105, 99, 107, 115]⟩ ps)
  have h3 := lineB_sz (wsL ⟨#[116, 105, 99, 107, 115]⟩ ts)
  have g1 := szW_L (f := ⟨#[112, 108, 97, 121]⟩) (two_i64 hst hrm)
  have g2 := szW_L (f := ⟨#[112, 105, 99, 107, 115]⟩) hps
  have g3 := szW_L (f := ⟨#[116, 105, 99, 107, 115]⟩) hts
  have g4 := clisT_sz hg
  simp only [List.length_cons, List.length_nil] at g1 g2 g3
  unfold scT headT
  rw [List.length_append, List.length_append, List.length_append]
  omega
theorem wdK_none {k : Int} (h : ¬ (1 ≤ k ∧ k ≤ 7)) : (wdK k).data.toList = [] := by
  have hw : wdK k = ⟨#[]⟩ := by unfold wdK; rw [if_neg (by omega), if_neg (by omega), if_neg (by omega), if_neg (by omega), if_neg (by omega), if_neg (by omega), if_neg (by omega)]
  rw [hw]
/-- Calls in memory have numbers of 64 bits. -/
theorem RowCC.good {w : World} {v : Value} {cs : List (List Cl)} (h : RowCC w v cs) : ∀ l ∈ cs, ∀ c ∈ l, c.ok ∧ ∀ x ∈ c.xs, 0 ≤ x ∧ x < 18446744073709551616 := fun l hl c hc => by
  obtain ⟨p, k, -, h⟩ := h
  rcases h with h | ⟨b, o, -, -, h⟩
  · rw [h] at hl; cases hl
  obtain ⟨q, hq, rfl⟩ := List.getElem_of_mem hl
  obtain ⟨u, -, p2, k2, -, h2⟩ := h q _ (List.getElem?_eq_getElem hq)
  rcases h2 with h2 | ⟨b2, o2, -, -, h2⟩
  · rw [h2] at hc; cases hc
  obtain ⟨j, hj, rfl⟩ := List.getElem_of_mem hc
  obtain ⟨hok, -, -, -, -, -, -, xv, -, xp, xk, -, hr⟩ := h2 j _ (List.getElem?_eq_getElem hj)
  refine ⟨hok, fun x hx => ?_⟩
  have := hr.wf x hx
  simp [Lit.wf, IntKind.min, IntKind.max, IntKind.signed, IntKind.bits] at this
  omega
theorem RowI.good {w : World} {a : Option Addr} {n : Nat} {xs : List Int} (h : RowI w a n xs) : ∀ x ∈ xs, i64r x := fun x hx => wf_i64r (h.wf x hx)
end Go.Proofs.YtoejflnlkapkiaaDoor
