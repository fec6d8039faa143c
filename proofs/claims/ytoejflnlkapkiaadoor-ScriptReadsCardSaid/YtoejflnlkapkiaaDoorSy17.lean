/- Put together by program (merge2.py): Sqd. -/
import Derived.WalkMore
import Derived.Test.YtoejflnlkapkiaaDoorSy13
import Derived.Test.YtoejflnlkapkiaaDoorSy16
/- script.call. -/
namespace Go.Proofs.YtoejflnlkapkiaaDoor
open Go.ChangeShapes Go.WideShapes Go.ChangeAt Go.RowKit
set_option linter.unusedVariables false
set_option linter.unusedSimpArgs false
theorem txt_hex (r : List (List UInt8)) : txtN r = (hexN r).map (fun l => ⟨4, 0, 0, ⟨l.toArray⟩, 0, 0, []⟩) := by
  match r with
  | [] => rfl
  | [x] => rfl
  | _ :: _ :: _ => rfl
/-- A result's box, and a call's. -/
def BxC (W : World) (c : Cl) (xv : Value) (w : World) : Prop :=
  w.heap[W.heap.size]? = some (.cells #[.int .i64 0, .int .i64 0, .int .i64 0, .string ⟨#[]⟩, .int .i64 0, .int .i64 0, .slice none 0 0] 49 (0, 0)) ∧
  w.heap[W.heap.size + 1]? = some (.cells #[.int .i64 c.kd, .int .i64 c.n, .int .i64 c.dir, .string c.s, .int .i64 c.who, .int .i64 c.at', xv] 49 (0, 0)) ∧ W.heap.size + 2 ≤ w.heap.size ∧ Below W.heap.size W w
theorem BxC.next {W w w' : World} {c : Cl} {xv : Value} (h : BxC W c xv w) (hb : Below (W.heap.size + 2) w w') : BxC W c xv w' :=
  ⟨(hb.block _ (by omega)).trans h.1, (hb.block _ (by omega)).trans h.2.1, Nat.le_trans h.2.2.1 hb.size, h.2.2.2.trans (hb.mono (by omega))⟩
theorem BxC.below {W w w' : World} {c : Cl} {xv : Value} (h : BxC W c xv w) (hb : Below w.heap.size w w') : BxC W c xv w' := h.next (hb.mono h.2.2.1)
theorem CallR.badC {o : Option Cl} {W w : World} {c : Cl} {xv : Value} (ho : o = none) (h : BxC W c xv w) (d : Cl) (p : Option Addr) (n k : Nat) : CallR o W (.returned (.tuple #[d.val (.slice p n k), .bool false])) (s7 w W.heap.size (.int .i64 d.kd) (.int .i64 d.n) (.int .i64 d.dir) (.string d.s) (.int .i64 d.who) (.int .i64 d.at') (.slice p n k)) :=
  ⟨.inr ⟨ho, d, p, n, k, rfl⟩, s7_below h.2.2.2 (Nat.le_refl _)⟩
theorem RowS.tail {w : World} {b o c : Nat} {a : List UInt8} {r : List (List UInt8)} (hc : r.length + 1 ≤ c) (hb : b < w.heap.size) (hx : ∀ (j : Nat) x, (a :: r)[j]? = some x → w.cell? ⟨b, o + j, none⟩ = some (.string ⟨x.toArray⟩)) : RowS w (.slice (some ⟨b, o + 1, none⟩) r.length (c - 1)) r :=
  ⟨_, _, rfl, by omega, .inr ⟨b, o + 1, rfl, hb, fun j x hj => by
    have h := hx (j + 1) x (by simpa using hj)
    have e : o + 1 + j = o + (j + 1) := by omega
    rw [e]; exact h⟩⟩
theorem BxC.drew {W w : World} {c : Cl} {xv : Value} (h : BxC W c xv w) : BxC W c xv w.drew := h.below (Below.refl _ _).drew
theorem BxC.base {W w : World} {b o : Nat} {u : Value} {c : Cl} {xv : Value} (h : BxC W c xv w) : (w.setCell ⟨W.heap.size + 1, o, none⟩ u).heap[W.heap.size]? = some (.cells #[.int .i64 0, .int .i64 0, .int .i64 0, .string ⟨#[]⟩, .int .i64 0, .int .i64 0, .slice none 0 0] 49 (0, 0)) := by
  rw [heap_setCell_other _ _ _ _ (by show W.heap.size ≠ W.heap.size + 1; omega)]
  exact h.1
theorem BxC.kd {W w : World} {c : Cl} {xv : Value} (h : BxC W c xv w) (k : Int) : BxC W { c with kd := k } xv (w.setCell ⟨W.heap.size + 1, 0, none⟩ (.int .i64 k)) :=
  ⟨h.base (b := 0), row_setC (o := 0) h.2.1 _, by simpa using h.2.2.1, h.2.2.2.setCell (p := ⟨W.heap.size + 1, 0, none⟩) (by show _ ≤ W.heap.size + 1; omega) _⟩
theorem BxC.n1 {W w : World} {c : Cl} {xv : Value} (h : BxC W c xv w) (k : Int) : BxC W { c with n := k } xv (w.setCell ⟨W.heap.size + 1, 1, none⟩ (.int .i64 k)) :=
  ⟨h.base (b := 0), row_setC (o := 1) h.2.1 _, by simpa using h.2.2.1, h.2.2.2.setCell (p := ⟨W.heap.size + 1, 1, none⟩) (by show _ ≤ W.heap.size + 1; omega) _⟩
theorem BxC.d2 {W w : World} {c : Cl} {xv : Value} (h : BxC W c xv w) (k : Int) : BxC W { c with dir := k } xv (w.setCell ⟨W.heap.size + 1, 2, none⟩ (.int .i64 k)) :=
  ⟨h.base (b := 0), row_setC (o := 2) h.2.1 _, by simpa using h.2.2.1, h.2.2.2.setCell (p := ⟨W.heap.size + 1, 2, none⟩) (by show _ ≤ W.heap.size + 1; omega) _⟩
theorem BxC.s3 {W w : World} {c : Cl} {xv : Value} (h : BxC W c xv w) (t : ByteArray) : BxC W { c with s := t } xv (w.setCell ⟨W.heap.size + 1, 3, none⟩ (.string t)) :=
  ⟨h.base (b := 0), row_setC (o := 3) h.2.1 _, by simpa using h.2.2.1, h.2.2.2.setCell (p := ⟨W.heap.size + 1, 3, none⟩) (by show _ ≤ W.heap.size + 1; omega) _⟩
theorem CallR.goodC {o : Option Cl} {W w : World} {c d : Cl} {xv : Value} (ho : o = some d) (hd : d.xs = []) (h : BxC W c xv w) : CallR o W (.returned (.tuple #[d.val (.slice none 0 0), .bool true])) (s7 w W.heap.size (.int .i64 d.kd) (.int .i64 d.n) (.int .i64 d.dir) (.string d.s) (.int .i64 d.who) (.int .i64 d.at') (.slice none 0 0)) :=
  ⟨.inl ⟨d, _, ho, rfl, by rw [hd]; exact Owns.nil _ _ _ _⟩, s7_below h.2.2.2 (Nat.le_refl _)⟩
theorem CallR.bool {o : Option Cl} {W w : World} {c d : Cl} {xv : Value} {b : Bool} (ho : o = if b then some d else none) (hd : d.xs = []) (h : BxC W c xv w) : CallR o W (.returned (.tuple #[d.val (.slice none 0 0), .bool b])) (s7 w W.heap.size (.int .i64 d.kd) (.int .i64 d.n) (.int .i64 d.dir) (.string d.s) (.int .i64 d.who) (.int .i64 d.at') (.slice none 0 0)) := by
  cases b with
  | true => exact CallR.goodC ho hd h
  | false => exact CallR.badC ho h d none 0 0
theorem callN_hit {f : List UInt8} {r : List (List UInt8)} {q : Int} (h1 : 1 ≤ q) (h7 : q ≤ 7) (h : (wdK q).data.toList = f) : callN (f :: r) = kindN q r := by
  obtain ⟨k, rfl⟩ : ∃ k : Nat, q = (k : Int) := ⟨q.toNat, by omega⟩
  show kindN (kdW f) r = _
  rw [kdW_hit (by omega) (by omega) h]
theorem callN_none {f : List UInt8} {r : List (List UInt8)} (h : ∀ j : Nat, 1 ≤ j → j < 8 → (wdK (j : Int)).data.toList ≠ f) : callN (f :: r) = none := by
  show kindN (kdW f) r = _
  rw [kdW_none h]
  rfl
set_option maxRecDepth 100000 in
set_option maxHeartbeats 16000000 in
theorem sc_call (v : Value) (f : List UInt8) (r : List (List UInt8)) (W : World) (h : RowS W v (f :: r)) (hn : r.length ≤ 900000) (hl : ∀ x ∈ r, x.length ≤ 1000000) (hE : Evs W) (hT : Lib.TabIs Tryd.prog W "internal/strconv.uint64pow10" .u64 Lib.pow10Tab) :
    Calls Tryd.prog 48 #[v] W (CallR (callN (f :: r)) W) := by
  obtain ⟨p, c, rfl, hc, hx⟩ := h
  rcases hx with hx | ⟨gb, go, rfl, hgb, hcell⟩
  · cases hx
  have hf := hcell 0 f rfl
  rw [Nat.add_zero] at hf
  obtain ⟨w0, hw0, r0, hB0, hs0⟩ := boxG W #[.int .i64 0, .int .i64 0, .int .i64 0, .string ⟨#[]⟩, .int .i64 0, .int .i64 0, .slice none 0 0] 49
  obtain ⟨w1, hw1, r1, hB1, hs1⟩ := boxG w0 #[.int .i64 0, .int .i64 0, .int .i64 0, .string ⟨#[]⟩, .int .i64 0, .int .i64 0, .slice none 0 0] 49
  rw [hs0] at r1
  have BX := Lib.hid (show BxC W zeroCl (.slice none 0 0) w1.drew from BxC.drew ⟨(hB1.block _ (by omega)).trans r0, r1, by omega, hB0.trans (hB1.mono hB0.size)⟩)
  have HW1 := Lib.hid hw1
  obtain ⟨s, hs⟩ : ∃ s : ByteArray, ⟨f.toArray⟩ = s := ⟨_, rfl⟩
  rw [hs] at hf
  have HSF := Lib.hid (show s.data.toList = f by rw [← hs])
  have HF := Lib.hid (fun (w : World) (h : Below W.heap.size W w) => (h.cell (p := ⟨gb, go, none⟩) hgb).trans hf)
  have HN := Lib.hid hn
  have HL := Lib.hid hl
  have HE0 := Lib.hid hE
  have HT0 := Lib.hid hT
  have hlen : (f :: r).length = r.length + 1 := rfl
  rw [hlen] at hc ⊢
  have HC := Lib.hid hc
  have h1n : (1 : Int) ≤ ((r.length + 1 : Nat) : Int) := by omega
  have hcase : (∃ u, RowS W u r ∧ u = (.slice (some ⟨gb, go, none⟩) 0 0) ∧ c = 1 ∧ r.length = 0) ∨ (∃ u, RowS W u r ∧ u = (.slice (some ⟨gb, go + 1, none⟩) r.length (c - 1)) ∧ ¬ c = 1) := by
    by_cases hc1 : c = 1
    · have hr0 : r.length = 0 := by omega
      have hr : r = [] := List.length_eq_zero_iff.1 hr0
      exact .inl ⟨_, ⟨_, _, by rw [hr0], by rw [hr0]; exact Nat.le_refl _, .inl hr⟩, rfl, hc1, hr0⟩
    · exact .inr ⟨_, RowS.tail hc hgb hcell, rfl, hc1⟩
  clear hcell hn hl hE hT r0 r1 hf hB0 hB1 hs1 hlen hs hw1 hgb
  rcases hcase with ⟨u, hu, rfl, rfl, hr0⟩ | ⟨u, hu, rfl, hc1⟩
  · have HRS := Lib.hid hu
    clear hu
    go_enter Tryd.func48, Tryd.ntmps48
    go_wp2_with fail
    go_step3
    go_wp2_with fail
    go_region
    rw [HW1.out]
    obtain ⟨wa, hwa⟩ : ∃ wa, w1.drew = wa := ⟨_, rfl⟩
    rw [hwa] at BX ⊢
    clear hwa HW1
    go_wp2_with fail
    go_step3
    go_wp2_with fail
    have H18 : Hid ((1 : Int) ≤ 1 ∧ (1 : Int) ≤ 8) := Lib.hid ⟨by decide, by decide⟩
    have H10 : Hid (∀ j : Nat, 1 ≤ j → (j : Int) < 1 → (wdK (j : Int)).data.toList ≠ f) := Lib.hid (fun j h1 h2 => by exfalso; omega)
    go_loopw [6] (fun j wr => ∃ q : Int, j = .int .i64 q ∧ Hid (1 ≤ q ∧ q ≤ 8) ∧ Hid (∀ j : Nat, 1 ≤ j → (j : Int) < q → (wdK (j : Int)).data.toList ≠ f) ∧ Hid (BxC W zeroCl (.slice none 0 0) wr)) (fun j _ => (8 - intOf j).toNat)
    case atStart => exact ⟨1, rfl, H18, H10, BX⟩
    case round =>
      obtain ⟨q, rfl, HQ, HNF, HB⟩ := hrel
      obtain ⟨x1, rfl⟩ : ∃ w, w = wr := ⟨_, rfl⟩
      have hcf := HF.out x1 HB.out.2.2.2
      have hcd := HF.out x1.drew HB.out.drew.2.2.2
      by_cases hq7 : q ≤ 7
      · have HWD := sc_word q x1.drew
        have HQ7 := Lib.hid hq7
        obtain ⟨K, hK⟩ : ∃ K, wdK q = K := ⟨_, rfl⟩
        rw [hK] at HWD
        have HWD := Lib.hid HWD
        by_cases heq : K.data.toList = f
        · have HHIT := Lib.hid (callN_hit (f := f) (r := r) HQ.out.1 hq7 (by rw [hK]; exact heq))
          have hq1 : (K.toList == s.toList) = true := by
            rw [Lib.toList_data, Lib.toList_data, HSF.out]; simp [heq]
          clear heq hK
          have hq : q = 1 ∨ q = 2 ∨ q = 3 ∨ q = 4 ∨ q = 5 ∨ q = 6 ∨ q = 7 := by have := HQ.out; omega
          clear hq7
          rcases hq with rfl | rfl | rfl | rfl | rfl | rfl | rfl
          · go_upto_region 5 with fail
            refine wp_region_held_drew (S := fun w' => w' = x1.drew) (by kernel_rfl) rfl (fun hHeld => ?_)
            refine wpAnyH_take (i := 0) (v := ?v6) rfl (by kernel_rfl) (by kernel_rfl) (by kernel_rfl) (fun _ _ _ h => h) (Or.inl ⟨by kernel_rfl, ?hy6⟩) (by assumption) ?rest6
            case hy6 => intro w hSw; (try dsimp only at hSw); subst hSw; go_simp; (first | done | with_reducible rfl)
            (try simp only [Act.put, List.getElem_toArray, List.getElem_cons_zero, List.getElem_cons_succ, List.setIfInBounds_toArray, List.set_cons_zero, List.set_cons_succ])
            refine wpAnyH_take (i := 2) (v := ?v7) rfl (by kernel_rfl) (by kernel_rfl) (by kernel_rfl) (fun _ _ _ h => h) (Or.inl ⟨by kernel_rfl, ?hy7⟩) (by assumption) ?rest7
            case hy7 => intro w hSw; (try dsimp only at hSw); subst hSw; go_simp; (first | done | with_reducible rfl)
            (try simp only [Act.put, List.getElem_toArray, List.getElem_cons_zero, List.getElem_cons_succ, List.setIfInBounds_toArray, List.set_cons_zero, List.set_cons_succ])
            refine wpAnyH_take (i := 3) (v := ?v8) rfl (by kernel_rfl) (by kernel_rfl) (by kernel_rfl) (fun _ _ _ h => h) (Or.inl ⟨by kernel_rfl, ?hy8⟩) (by assumption) ?rest8
            case hy8 => intro w hSw; (try dsimp only at hSw); subst hSw; go_simp; (first | done | with_reducible rfl)
            (try simp only [Act.put, List.getElem_toArray, List.getElem_cons_zero, List.getElem_cons_succ, List.setIfInBounds_toArray, List.set_cons_zero, List.set_cons_succ])
            refine wpAnyH_take (i := 4) (v := ?v9) rfl (by kernel_rfl) (by kernel_rfl) (by kernel_rfl) (fun _ _ _ h => h) (Or.inl ⟨by kernel_rfl, ?hy9⟩) (by assumption) ?rest9
            case hy9 => intro w hSw; (try dsimp only at hSw); subst hSw; go_simp; (first | done | with_reducible rfl)
            (try simp only [Act.put, List.getElem_toArray, List.getElem_cons_zero, List.getElem_cons_succ, List.setIfInBounds_toArray, List.set_cons_zero, List.set_cons_succ])
            refine wpAnyH_ready (rs := [1]) (by kernel_rfl) (by simp) ?_
            refine AllReadyH.cons rfl (fun K hK => ?_) AllReadyH.nil
            go_simp
            go_at_call 19
            with_reducible refine HWD.out.mono ?_
            rintro e x2 ⟨rfl, rfl⟩
            (try go_wp2_with fail)
            refine hK.out _ _ rfl (fun hHeld2 => ?_)
            clear hK K hHeld
            have hHeld := hHeld2
            clear hHeld2
            (try simp only [Act.put, List.getElem_toArray, List.getElem_cons_zero, List.getElem_cons_succ, List.setIfInBounds_toArray, List.set_cons_zero, List.set_cons_succ])
            refine wpAnyH_take (i := 5) (v := ?v10) rfl (by kernel_rfl) (by kernel_rfl) (by kernel_rfl) (fun _ _ _ h => h) (Or.inl ⟨by kernel_rfl, ?hy10⟩) (by assumption) ?rest10
            case hy10 => intro w hSw; (try dsimp only at hSw); subst hSw; go_simp; (first | done | with_reducible rfl)
            (try simp only [Act.put, List.getElem_toArray, List.getElem_cons_zero, List.getElem_cons_succ, List.setIfInBounds_toArray, List.set_cons_zero, List.set_cons_succ])
            refine wpAnyH_done (by kernel_rfl) ?_ _
            obtain ⟨xd, hxd⟩ : ∃ xd, x1.drew = xd := ⟨_, rfl⟩
            have BXd := Lib.hid (show BxC W zeroCl (.slice none 0 0) xd by rw [← hxd]; exact HB.out.drew)
            rw [hxd]
            clear hxd hcf hcd HWD hq1 HNF HB HQ HQ7 HF
            obtain ⟨m0, m1, m2, m3, m4, m5, m6⟩ := cells7 BXd.out.2.1
            obtain ⟨f0, f1, f2, f3, f4, f5, f6⟩ := frz7 BXd.out.2.1
            go_upto_region 7 with fail
            obtain ⟨xk, hxk⟩ : ∃ xk, xd.setCell ⟨W.heap.size + 1, 0, none⟩ (.int .i64 1) = xk := ⟨_, rfl⟩
            have BXk := Lib.hid (show BxC W (oldCl 1) (.slice none 0 0) xk by rw [← hxk]; exact BXd.out.kd 1)
            rw [hxk]
            clear hxk m0 m1 m2 m3 m4 m5 m6 f0 f1 f2 f3 f4 f5 f6 BXd
            obtain ⟨m0, m1, m2, m3, m4, m5, m6⟩ := cells7 BXk.out.2.1
            obtain ⟨f0, f1, f2, f3, f4, f5, f6⟩ := frz7 BXk.out.2.1
            obtain ⟨n0, n1, n2, n3, n4, n5, n6⟩ := cells7 BXk.out.1
            obtain ⟨g0, g1, g2, g3, g4, g5, g6⟩ := frz7 BXk.out.1
            simp only [oldCl] at m0 m1 m2 m3 m4 m5 m6
            have IC := Lib.hid (sc_ints _ r xk (HRS.out.below BXk.out.2.2.2) (by have := HN.out; omega) (fun z hz => Nat.le_trans (HL.out z hz) (by omega)) (HE0.out.below BXk.out.2.2.2) (pow10_bel HT0.out BXk.out.2.2.2))
            go_wp2_with fail
            refine IC.out.mono ?_
            rintro e x3 ⟨hi, hb3⟩
            have BX3 := Lib.hid (BXk.out.below hb3)
            clear hb3 m0 m1 m2 m3 m4 m5 m6 f0 f1 f2 f3 f4 f5 f6 n0 n1 n2 n3 n4 n5 n6 g0 g1 g2 g3 g4 g5 g6
            obtain ⟨m0, m1, m2, m3, m4, m5, m6⟩ := cells7 BX3.out.2.1
            obtain ⟨f0, f1, f2, f3, f4, f5, f6⟩ := frz7 BX3.out.2.1
            obtain ⟨n0, n1, n2, n3, n4, n5, n6⟩ := cells7 BX3.out.1
            obtain ⟨g0, g1, g2, g3, g4, g5, g6⟩ := frz7 BX3.out.1
            simp only [oldCl] at m0 m1 m2 m3 m4 m5 m6
            rcases hi with ⟨vs, u, hv, rfl, ho⟩ | ⟨hv, rfl⟩
            · obtain ⟨qa, qc, rfl, hrd, -, -⟩ := ho.shape
              by_cases h2 : vs.length = 2
              · obtain ⟨a, b, rfl⟩ : ∃ a b, vs = [a, b] := by
                  match vs, h2 with
                  | [a, b], _ => exact ⟨a, b, rfl⟩
                have HNO := Lib.hid (show callN (f :: r) = some ⟨1, a, b, ⟨#[]⟩, 0, 0, []⟩ by
                  rw [HHIT.out]
                  unfold kindN keyN
                  rw [if_pos (by decide), hv])
                rcases hrd with hrd | ⟨bq, oq, rfl, hbq, hcq⟩
                · cases hrd
                have z0 := hcq 0 (by simp)
                have z1 := hcq 1 (by simp)
                simp only [List.getD_cons_zero, List.getD_cons_succ, Nat.add_zero] at z0 z1
                clear ho hv hcq hbq h2
                go_wp2_with fail
                go_still_tail 8, (by kernel_rfl)
                change wpList _ _ _ _ _ x3.drew
                obtain ⟨wd, hwd⟩ : ∃ wd, x3.drew = wd := ⟨_, rfl⟩
                have BXe := Lib.hid (show BxC W (oldCl 1) (.slice none 0 0) wd by rw [← hwd]; exact BX3.out.drew)
                have z0d : wd.cell? ⟨bq, oq, none⟩ = some (.int .i64 a) := by rw [← hwd]; exact z0
                have z1d : wd.cell? ⟨bq, oq + 1, none⟩ = some (.int .i64 b) := by rw [← hwd]; exact z1
                rw [hwd]
                clear hwd m0 m1 m2 m3 m4 m5 m6 f0 f1 f2 f3 f4 f5 f6 n0 n1 n2 n3 n4 n5 n6 g0 g1 g2 g3 g4 g5 g6 z0 z1
                obtain ⟨f0, f1, f2, f3, f4, f5, f6⟩ := frz7 BXe.out.2.1
                obtain ⟨m0, m1, m2, m3, m4, m5, m6⟩ := cells7 BXe.out.2.1
                go_upto_region 15 with fail
                obtain ⟨w3, hw3⟩ : ∃ w3, ((wd.setCell ⟨W.heap.size + 1, 1, none⟩ (.int .i64 a)).setCell ⟨W.heap.size + 1, 2, none⟩ (.int .i64 b)) = w3 := ⟨_, rfl⟩
                have BXf := Lib.hid (show BxC W ⟨1, a, b, ⟨#[]⟩, 0, 0, []⟩ (.slice none 0 0) w3 by rw [← hw3]; exact (BXe.out.n1 a).d2 b)
                rw [hw3]
                clear hw3 m0 m1 m2 m3 m4 m5 m6 f0 f1 f2 f3 f4 f5 f6 z0d z1d
                obtain ⟨m0, m1, m2, m3, m4, m5, m6⟩ := cells7 BXf.out.2.1
                obtain ⟨n0, n1, n2, n3, n4, n5, n6⟩ := cells7 BXf.out.1
                obtain ⟨g0, g1, g2, g3, g4, g5, g6⟩ := frz7 BXf.out.1
                simp only at m0 m1 m2 m3 m4 m5 m6
                go_wp2_with fail
                (try rw [Exit.noGoto_ret])
                refine call_ret2 (c := ⟨1, a, b, ⟨#[]⟩, 0, 0, []⟩) rfl _ _ W.heap.size (.slice none 0 0) true rfl rfl rfl (s7_row BXf.out.1) ?_
                exact CallR.goodC HNO.out rfl BXf.out
              · have HNO := Lib.hid (show callN (f :: r) = none by
                  rw [HHIT.out]
                  unfold kindN keyN
                  rw [if_pos (by decide), hv]
                  match vs, h2 with
                  | [], _ => rfl
                  | [_], _ => rfl
                  | [_, _], h => exact absurd rfl h
                  | _ :: _ :: _ :: _, _ => rfl)
                have hd : ((((vs.length : Nat) : Int)) != 2) = true := by simp; omega
                clear ho hv h2 hrd
                go_wp2_with fail
                (try rw [Exit.noGoto_ret])
                refine call_ret2 (c := zeroCl) rfl _ _ W.heap.size (.slice none 0 0) false rfl rfl rfl (s7_row BX3.out.1) ?_
                exact CallR.badC HNO.out BX3.out zeroCl none 0 0
            · have HNO := Lib.hid (show callN (f :: r) = none by
                rw [HHIT.out]
                unfold kindN keyN
                rw [if_pos (by decide), hv])
              clear hv
              go_wp2_with fail
              (try rw [Exit.noGoto_ret])
              refine call_ret2 (c := zeroCl) rfl _ _ W.heap.size (.slice none 0 0) false rfl rfl rfl (s7_row BX3.out.1) ?_
              exact CallR.badC HNO.out BX3.out zeroCl none 0 0
          · go_upto_region 5 with fail
            refine wp_region_held_drew (S := fun w' => w' = x1.drew) (by kernel_rfl) rfl (fun hHeld => ?_)
            refine wpAnyH_take (i := 0) (v := ?v11) rfl (by kernel_rfl) (by kernel_rfl) (by kernel_rfl) (fun _ _ _ h => h) (Or.inl ⟨by kernel_rfl, ?hy11⟩) (by assumption) ?rest11
            case hy11 => intro w hSw; (try dsimp only at hSw); subst hSw; go_simp; (first | done | with_reducible rfl)
            (try simp only [Act.put, List.getElem_toArray, List.getElem_cons_zero, List.getElem_cons_succ, List.setIfInBounds_toArray, List.set_cons_zero, List.set_cons_succ])
            refine wpAnyH_take (i := 2) (v := ?v12) rfl (by kernel_rfl) (by kernel_rfl) (by kernel_rfl) (fun _ _ _ h => h) (Or.inl ⟨by kernel_rfl, ?hy12⟩) (by assumption) ?rest12
            case hy12 => intro w hSw; (try dsimp only at hSw); subst hSw; go_simp; (first | done | with_reducible rfl)
            (try simp only [Act.put, List.getElem_toArray, List.getElem_cons_zero, List.getElem_cons_succ, List.setIfInBounds_toArray, List.set_cons_zero, List.set_cons_succ])
            refine wpAnyH_take (i := 3) (v := ?v13) rfl (by kernel_rfl) (by kernel_rfl) (by kernel_rfl) (fun _ _ _ h => h) (Or.inl ⟨by kernel_rfl, ?hy13⟩) (by assumption) ?rest13
            case hy13 => intro w hSw; (try dsimp only at hSw); subst hSw; go_simp; (first | done | with_reducible rfl)
            (try simp only [Act.put, List.getElem_toArray, List.getElem_cons_zero, List.getElem_cons_succ, List.setIfInBounds_toArray, List.set_cons_zero, List.set_cons_succ])
            refine wpAnyH_take (i := 4) (v := ?v14) rfl (by kernel_rfl) (by kernel_rfl) (by kernel_rfl) (fun _ _ _ h => h) (Or.inl ⟨by kernel_rfl, ?hy14⟩) (by assumption) ?rest14
            case hy14 => intro w hSw; (try dsimp only at hSw); subst hSw; go_simp; (first | done | with_reducible rfl)
            (try simp only [Act.put, List.getElem_toArray, List.getElem_cons_zero, List.getElem_cons_succ, List.setIfInBounds_toArray, List.set_cons_zero, List.set_cons_succ])
            refine wpAnyH_ready (rs := [1]) (by kernel_rfl) (by simp) ?_
            refine AllReadyH.cons rfl (fun K hK => ?_) AllReadyH.nil
            go_simp
            go_at_call 19
            with_reducible refine HWD.out.mono ?_
            rintro e x2 ⟨rfl, rfl⟩
            (try go_wp2_with fail)
            refine hK.out _ _ rfl (fun hHeld2 => ?_)
            clear hK K hHeld
            have hHeld := hHeld2
            clear hHeld2
            (try simp only [Act.put, List.getElem_toArray, List.getElem_cons_zero, List.getElem_cons_succ, List.setIfInBounds_toArray, List.set_cons_zero, List.set_cons_succ])
            refine wpAnyH_take (i := 5) (v := ?v15) rfl (by kernel_rfl) (by kernel_rfl) (by kernel_rfl) (fun _ _ _ h => h) (Or.inl ⟨by kernel_rfl, ?hy15⟩) (by assumption) ?rest15
            case hy15 => intro w hSw; (try dsimp only at hSw); subst hSw; go_simp; (first | done | with_reducible rfl)
            (try simp only [Act.put, List.getElem_toArray, List.getElem_cons_zero, List.getElem_cons_succ, List.setIfInBounds_toArray, List.set_cons_zero, List.set_cons_succ])
            refine wpAnyH_done (by kernel_rfl) ?_ _
            obtain ⟨xd, hxd⟩ : ∃ xd, x1.drew = xd := ⟨_, rfl⟩
            have BXd := Lib.hid (show BxC W zeroCl (.slice none 0 0) xd by rw [← hxd]; exact HB.out.drew)
            rw [hxd]
            clear hxd hcf hcd HWD hq1 HNF HB HQ HQ7 HF
            obtain ⟨m0, m1, m2, m3, m4, m5, m6⟩ := cells7 BXd.out.2.1
            obtain ⟨f0, f1, f2, f3, f4, f5, f6⟩ := frz7 BXd.out.2.1
            go_upto_region 7 with fail
            obtain ⟨xk, hxk⟩ : ∃ xk, xd.setCell ⟨W.heap.size + 1, 0, none⟩ (.int .i64 2) = xk := ⟨_, rfl⟩
            have BXk := Lib.hid (show BxC W (oldCl 2) (.slice none 0 0) xk by rw [← hxk]; exact BXd.out.kd 2)
            rw [hxk]
            clear hxk m0 m1 m2 m3 m4 m5 m6 f0 f1 f2 f3 f4 f5 f6 BXd
            obtain ⟨m0, m1, m2, m3, m4, m5, m6⟩ := cells7 BXk.out.2.1
            obtain ⟨f0, f1, f2, f3, f4, f5, f6⟩ := frz7 BXk.out.2.1
            obtain ⟨n0, n1, n2, n3, n4, n5, n6⟩ := cells7 BXk.out.1
            obtain ⟨g0, g1, g2, g3, g4, g5, g6⟩ := frz7 BXk.out.1
            simp only [oldCl] at m0 m1 m2 m3 m4 m5 m6
            have IC := Lib.hid (sc_ints _ r xk (HRS.out.below BXk.out.2.2.2) (by have := HN.out; omega) (fun z hz => Nat.le_trans (HL.out z hz) (by omega)) (HE0.out.below BXk.out.2.2.2) (pow10_bel HT0.out BXk.out.2.2.2))
            go_wp2_with fail
            refine IC.out.mono ?_
            rintro e x3 ⟨hi, hb3⟩
            have BX3 := Lib.hid (BXk.out.below hb3)
            clear hb3 m0 m1 m2 m3 m4 m5 m6 f0 f1 f2 f3 f4 f5 f6 n0 n1 n2 n3 n4 n5 n6 g0 g1 g2 g3 g4 g5 g6
            obtain ⟨m0, m1, m2, m3, m4, m5, m6⟩ := cells7 BX3.out.2.1
            obtain ⟨f0, f1, f2, f3, f4, f5, f6⟩ := frz7 BX3.out.2.1
            obtain ⟨n0, n1, n2, n3, n4, n5, n6⟩ := cells7 BX3.out.1
            obtain ⟨g0, g1, g2, g3, g4, g5, g6⟩ := frz7 BX3.out.1
            simp only [oldCl] at m0 m1 m2 m3 m4 m5 m6
            rcases hi with ⟨vs, u, hv, rfl, ho⟩ | ⟨hv, rfl⟩
            · obtain ⟨qa, qc, rfl, hrd, -, -⟩ := ho.shape
              by_cases h2 : vs.length = 2
              · obtain ⟨a, b, rfl⟩ : ∃ a b, vs = [a, b] := by
                  match vs, h2 with
                  | [a, b], _ => exact ⟨a, b, rfl⟩
                have HNO := Lib.hid (show callN (f :: r) = some ⟨2, a, b, ⟨#[]⟩, 0, 0, []⟩ by
                  rw [HHIT.out]
                  unfold kindN keyN
                  rw [if_pos (by decide), hv])
                rcases hrd with hrd | ⟨bq, oq, rfl, hbq, hcq⟩
                · cases hrd
                have z0 := hcq 0 (by simp)
                have z1 := hcq 1 (by simp)
                simp only [List.getD_cons_zero, List.getD_cons_succ, Nat.add_zero] at z0 z1
                clear ho hv hcq hbq h2
                go_wp2_with fail
                go_still_tail 8, (by kernel_rfl)
                change wpList _ _ _ _ _ x3.drew
                obtain ⟨wd, hwd⟩ : ∃ wd, x3.drew = wd := ⟨_, rfl⟩
                have BXe := Lib.hid (show BxC W (oldCl 2) (.slice none 0 0) wd by rw [← hwd]; exact BX3.out.drew)
                have z0d : wd.cell? ⟨bq, oq, none⟩ = some (.int .i64 a) := by rw [← hwd]; exact z0
                have z1d : wd.cell? ⟨bq, oq + 1, none⟩ = some (.int .i64 b) := by rw [← hwd]; exact z1
                rw [hwd]
                clear hwd m0 m1 m2 m3 m4 m5 m6 f0 f1 f2 f3 f4 f5 f6 n0 n1 n2 n3 n4 n5 n6 g0 g1 g2 g3 g4 g5 g6 z0 z1
                obtain ⟨f0, f1, f2, f3, f4, f5, f6⟩ := frz7 BXe.out.2.1
                obtain ⟨m0, m1, m2, m3, m4, m5, m6⟩ := cells7 BXe.out.2.1
                go_upto_region 15 with fail
                obtain ⟨w3, hw3⟩ : ∃ w3, ((wd.setCell ⟨W.heap.size + 1, 1, none⟩ (.int .i64 a)).setCell ⟨W.heap.size + 1, 2, none⟩ (.int .i64 b)) = w3 := ⟨_, rfl⟩
                have BXf := Lib.hid (show BxC W ⟨2, a, b, ⟨#[]⟩, 0, 0, []⟩ (.slice none 0 0) w3 by rw [← hw3]; exact (BXe.out.n1 a).d2 b)
                rw [hw3]
                clear hw3 m0 m1 m2 m3 m4 m5 m6 f0 f1 f2 f3 f4 f5 f6 z0d z1d
                obtain ⟨m0, m1, m2, m3, m4, m5, m6⟩ := cells7 BXf.out.2.1
                obtain ⟨n0, n1, n2, n3, n4, n5, n6⟩ := cells7 BXf.out.1
                obtain ⟨g0, g1, g2, g3, g4, g5, g6⟩ := frz7 BXf.out.1
                simp only at m0 m1 m2 m3 m4 m5 m6
                go_wp2_with fail
                (try rw [Exit.noGoto_ret])
                refine call_ret2 (c := ⟨2, a, b, ⟨#[]⟩, 0, 0, []⟩) rfl _ _ W.heap.size (.slice none 0 0) true rfl rfl rfl (s7_row BXf.out.1) ?_
                exact CallR.goodC HNO.out rfl BXf.out
              · have HNO := Lib.hid (show callN (f :: r) = none by
                  rw [HHIT.out]
                  unfold kindN keyN
                  rw [if_pos (by decide), hv]
                  match vs, h2 with
                  | [], _ => rfl
                  | [_], _ => rfl
                  | [_, _], h => exact absurd rfl h
                  | _ :: _ :: _ :: _, _ => rfl)
                have hd : ((((vs.length : Nat) : Int)) != 2) = true := by simp; omega
                clear ho hv h2 hrd
                go_wp2_with fail
                (try rw [Exit.noGoto_ret])
                refine call_ret2 (c := zeroCl) rfl _ _ W.heap.size (.slice none 0 0) false rfl rfl rfl (s7_row BX3.out.1) ?_
                exact CallR.badC HNO.out BX3.out zeroCl none 0 0
            · have HNO := Lib.hid (show callN (f :: r) = none by
                rw [HHIT.out]
                unfold kindN keyN
                rw [if_pos (by decide), hv])
              clear hv
              go_wp2_with fail
              (try rw [Exit.noGoto_ret])
              refine call_ret2 (c := zeroCl) rfl _ _ W.heap.size (.slice none 0 0) false rfl rfl rfl (s7_row BX3.out.1) ?_
              exact CallR.badC HNO.out BX3.out zeroCl none 0 0
          · go_upto_region 5 with fail
            refine wp_region_held_drew (S := fun w' => w' = x1.drew) (by kernel_rfl) rfl (fun hHeld => ?_)
            refine wpAnyH_take (i := 0) (v := ?v16) rfl (by kernel_rfl) (by kernel_rfl) (by kernel_rfl) (fun _ _ _ h => h) (Or.inl ⟨by kernel_rfl, ?hy16⟩) (by assumption) ?rest16
            case hy16 => intro w hSw; (try dsimp only at hSw); subst hSw; go_simp; (first | done | with_reducible rfl)
            (try simp only [Act.put, List.getElem_toArray, List.getElem_cons_zero, List.getElem_cons_succ, List.setIfInBounds_toArray, List.set_cons_zero, List.set_cons_succ])
            refine wpAnyH_take (i := 2) (v := ?v17) rfl (by kernel_rfl) (by kernel_rfl) (by kernel_rfl) (fun _ _ _ h => h) (Or.inl ⟨by kernel_rfl, ?hy17⟩) (by assumption) ?rest17
            case hy17 => intro w hSw; (try dsimp only at hSw); subst hSw; go_simp; (first | done | with_reducible rfl)
            (try simp only [Act.put, List.getElem_toArray, List.getElem_cons_zero, List.getElem_cons_succ, List.setIfInBounds_toArray, List.set_cons_zero, List.set_cons_succ])
            refine wpAnyH_take (i := 3) (v := ?v18) rfl (by kernel_rfl) (by kernel_rfl) (by kernel_rfl) (fun _ _ _ h => h) (Or.inl ⟨by kernel_rfl, ?hy18⟩) (by assumption) ?rest18
            case hy18 => intro w hSw; (try dsimp only at hSw); subst hSw; go_simp; (first | done | with_reducible rfl)
            (try simp only [Act.put, List.getElem_toArray, List.getElem_cons_zero, List.getElem_cons_succ, List.setIfInBounds_toArray, List.set_cons_zero, List.set_cons_succ])
            refine wpAnyH_take (i := 4) (v := ?v19) rfl (by kernel_rfl) (by kernel_rfl) (by kernel_rfl) (fun _ _ _ h => h) (Or.inl ⟨by kernel_rfl, ?hy19⟩) (by assumption) ?rest19
            case hy19 => intro w hSw; (try dsimp only at hSw); subst hSw; go_simp; (first | done | with_reducible rfl)
            (try simp only [Act.put, List.getElem_toArray, List.getElem_cons_zero, List.getElem_cons_succ, List.setIfInBounds_toArray, List.set_cons_zero, List.set_cons_succ])
            refine wpAnyH_ready (rs := [1]) (by kernel_rfl) (by simp) ?_
            refine AllReadyH.cons rfl (fun K hK => ?_) AllReadyH.nil
            go_simp
            go_at_call 19
            with_reducible refine HWD.out.mono ?_
            rintro e x2 ⟨rfl, rfl⟩
            (try go_wp2_with fail)
            refine hK.out _ _ rfl (fun hHeld2 => ?_)
            clear hK K hHeld
            have hHeld := hHeld2
            clear hHeld2
            (try simp only [Act.put, List.getElem_toArray, List.getElem_cons_zero, List.getElem_cons_succ, List.setIfInBounds_toArray, List.set_cons_zero, List.set_cons_succ])
            refine wpAnyH_take (i := 5) (v := ?v20) rfl (by kernel_rfl) (by kernel_rfl) (by kernel_rfl) (fun _ _ _ h => h) (Or.inl ⟨by kernel_rfl, ?hy20⟩) (by assumption) ?rest20
            case hy20 => intro w hSw; (try dsimp only at hSw); subst hSw; go_simp; (first | done | with_reducible rfl)
            (try simp only [Act.put, List.getElem_toArray, List.getElem_cons_zero, List.getElem_cons_succ, List.setIfInBounds_toArray, List.set_cons_zero, List.set_cons_succ])
            refine wpAnyH_done (by kernel_rfl) ?_ _
            obtain ⟨xd, hxd⟩ : ∃ xd, x1.drew = xd := ⟨_, rfl⟩
            have BXd := Lib.hid (show BxC W zeroCl (.slice none 0 0) xd by rw [← hxd]; exact HB.out.drew)
            rw [hxd]
            clear hxd hcf hcd HWD hq1 HNF HB HQ HQ7 HF
            obtain ⟨m0, m1, m2, m3, m4, m5, m6⟩ := cells7 BXd.out.2.1
            obtain ⟨f0, f1, f2, f3, f4, f5, f6⟩ := frz7 BXd.out.2.1
            go_upto_region 7 with fail
            obtain ⟨xk, hxk⟩ : ∃ xk, xd.setCell ⟨W.heap.size + 1, 0, none⟩ (.int .i64 3) = xk := ⟨_, rfl⟩
            have BXk := Lib.hid (show BxC W (oldCl 3) (.slice none 0 0) xk by rw [← hxk]; exact BXd.out.kd 3)
            rw [hxk]
            clear hxk m0 m1 m2 m3 m4 m5 m6 f0 f1 f2 f3 f4 f5 f6 BXd
            obtain ⟨m0, m1, m2, m3, m4, m5, m6⟩ := cells7 BXk.out.2.1
            obtain ⟨f0, f1, f2, f3, f4, f5, f6⟩ := frz7 BXk.out.2.1
            obtain ⟨n0, n1, n2, n3, n4, n5, n6⟩ := cells7 BXk.out.1
            obtain ⟨g0, g1, g2, g3, g4, g5, g6⟩ := frz7 BXk.out.1
            simp only [oldCl] at m0 m1 m2 m3 m4 m5 m6
            have IC := Lib.hid (sc_ints _ r xk (HRS.out.below BXk.out.2.2.2) (by have := HN.out; omega) (fun z hz => Nat.le_trans (HL.out z hz) (by omega)) (HE0.out.below BXk.out.2.2.2) (pow10_bel HT0.out BXk.out.2.2.2))
            go_wp2_with fail
            refine IC.out.mono ?_
            rintro e x3 ⟨hi, hb3⟩
            have BX3 := Lib.hid (BXk.out.below hb3)
            clear hb3 m0 m1 m2 m3 m4 m5 m6 f0 f1 f2 f3 f4 f5 f6 n0 n1 n2 n3 n4 n5 n6 g0 g1 g2 g3 g4 g5 g6
            obtain ⟨m0, m1, m2, m3, m4, m5, m6⟩ := cells7 BX3.out.2.1
            obtain ⟨f0, f1, f2, f3, f4, f5, f6⟩ := frz7 BX3.out.2.1
            obtain ⟨n0, n1, n2, n3, n4, n5, n6⟩ := cells7 BX3.out.1
            obtain ⟨g0, g1, g2, g3, g4, g5, g6⟩ := frz7 BX3.out.1
            simp only [oldCl] at m0 m1 m2 m3 m4 m5 m6
            rcases hi with ⟨vs, u, hv, rfl, ho⟩ | ⟨hv, rfl⟩
            · obtain ⟨qa, qc, rfl, hrd, -, -⟩ := ho.shape
              by_cases h2 : vs.length = 2
              · obtain ⟨a, b, rfl⟩ : ∃ a b, vs = [a, b] := by
                  match vs, h2 with
                  | [a, b], _ => exact ⟨a, b, rfl⟩
                have HNO := Lib.hid (show callN (f :: r) = some ⟨3, a, b, ⟨#[]⟩, 0, 0, []⟩ by
                  rw [HHIT.out]
                  unfold kindN keyN
                  rw [if_pos (by decide), hv])
                rcases hrd with hrd | ⟨bq, oq, rfl, hbq, hcq⟩
                · cases hrd
                have z0 := hcq 0 (by simp)
                have z1 := hcq 1 (by simp)
                simp only [List.getD_cons_zero, List.getD_cons_succ, Nat.add_zero] at z0 z1
                clear ho hv hcq hbq h2
                go_wp2_with fail
                go_still_tail 8, (by kernel_rfl)
                change wpList _ _ _ _ _ x3.drew
                obtain ⟨wd, hwd⟩ : ∃ wd, x3.drew = wd := ⟨_, rfl⟩
                have BXe := Lib.hid (show BxC W (oldCl 3) (.slice none 0 0) wd by rw [← hwd]; exact BX3.out.drew)
                have z0d : wd.cell? ⟨bq, oq, none⟩ = some (.int .i64 a) := by rw [← hwd]; exact z0
                have z1d : wd.cell? ⟨bq, oq + 1, none⟩ = some (.int .i64 b) := by rw [← hwd]; exact z1
                rw [hwd]
                clear hwd m0 m1 m2 m3 m4 m5 m6 f0 f1 f2 f3 f4 f5 f6 n0 n1 n2 n3 n4 n5 n6 g0 g1 g2 g3 g4 g5 g6 z0 z1
                obtain ⟨f0, f1, f2, f3, f4, f5, f6⟩ := frz7 BXe.out.2.1
                obtain ⟨m0, m1, m2, m3, m4, m5, m6⟩ := cells7 BXe.out.2.1
                go_upto_region 15 with fail
                obtain ⟨w3, hw3⟩ : ∃ w3, ((wd.setCell ⟨W.heap.size + 1, 1, none⟩ (.int .i64 a)).setCell ⟨W.heap.size + 1, 2, none⟩ (.int .i64 b)) = w3 := ⟨_, rfl⟩
                have BXf := Lib.hid (show BxC W ⟨3, a, b, ⟨#[]⟩, 0, 0, []⟩ (.slice none 0 0) w3 by rw [← hw3]; exact (BXe.out.n1 a).d2 b)
                rw [hw3]
                clear hw3 m0 m1 m2 m3 m4 m5 m6 f0 f1 f2 f3 f4 f5 f6 z0d z1d
                obtain ⟨m0, m1, m2, m3, m4, m5, m6⟩ := cells7 BXf.out.2.1
                obtain ⟨n0, n1, n2, n3, n4, n5, n6⟩ := cells7 BXf.out.1
                obtain ⟨g0, g1, g2, g3, g4, g5, g6⟩ := frz7 BXf.out.1
                simp only at m0 m1 m2 m3 m4 m5 m6
                go_wp2_with fail
                (try rw [Exit.noGoto_ret])
                refine call_ret2 (c := ⟨3, a, b, ⟨#[]⟩, 0, 0, []⟩) rfl _ _ W.heap.size (.slice none 0 0) true rfl rfl rfl (s7_row BXf.out.1) ?_
                exact CallR.goodC HNO.out rfl BXf.out
              · have HNO := Lib.hid (show callN (f :: r) = none by
                  rw [HHIT.out]
                  unfold kindN keyN
                  rw [if_pos (by decide), hv]
                  match vs, h2 with
                  | [], _ => rfl
                  | [_], _ => rfl
                  | [_, _], h => exact absurd rfl h
                  | _ :: _ :: _ :: _, _ => rfl)
                have hd : ((((vs.length : Nat) : Int)) != 2) = true := by simp; omega
                clear ho hv h2 hrd
                go_wp2_with fail
                (try rw [Exit.noGoto_ret])
                refine call_ret2 (c := zeroCl) rfl _ _ W.heap.size (.slice none 0 0) false rfl rfl rfl (s7_row BX3.out.1) ?_
                exact CallR.badC HNO.out BX3.out zeroCl none 0 0
            · have HNO := Lib.hid (show callN (f :: r) = none by
                rw [HHIT.out]
                unfold kindN keyN
                rw [if_pos (by decide), hv])
              clear hv
              go_wp2_with fail
              (try rw [Exit.noGoto_ret])
              refine call_ret2 (c := zeroCl) rfl _ _ W.heap.size (.slice none 0 0) false rfl rfl rfl (s7_row BX3.out.1) ?_
              exact CallR.badC HNO.out BX3.out zeroCl none 0 0
          · go_upto_region 5 with fail
            refine wp_region_held_drew (S := fun w' => w' = x1.drew) (by kernel_rfl) rfl (fun hHeld => ?_)
            refine wpAnyH_take (i := 0) (v := ?v21) rfl (by kernel_rfl) (by kernel_rfl) (by kernel_rfl) (fun _ _ _ h => h) (Or.inl ⟨by kernel_rfl, ?hy21⟩) (by assumption) ?rest21
            case hy21 => intro w hSw; (try dsimp only at hSw); subst hSw; go_simp; (first | done | with_reducible rfl)
            (try simp only [Act.put, List.getElem_toArray, List.getElem_cons_zero, List.getElem_cons_succ, List.setIfInBounds_toArray, List.set_cons_zero, List.set_cons_succ])
            refine wpAnyH_take (i := 2) (v := ?v22) rfl (by kernel_rfl) (by kernel_rfl) (by kernel_rfl) (fun _ _ _ h => h) (Or.inl ⟨by kernel_rfl, ?hy22⟩) (by assumption) ?rest22
            case hy22 => intro w hSw; (try dsimp only at hSw); subst hSw; go_simp; (first | done | with_reducible rfl)
            (try simp only [Act.put, List.getElem_toArray, List.getElem_cons_zero, List.getElem_cons_succ, List.setIfInBounds_toArray, List.set_cons_zero, List.set_cons_succ])
            refine wpAnyH_take (i := 3) (v := ?v23) rfl (by kernel_rfl) (by kernel_rfl) (by kernel_rfl) (fun _ _ _ h => h) (Or.inl ⟨by kernel_rfl, ?hy23⟩) (by assumption) ?rest23
            case hy23 => intro w hSw; (try dsimp only at hSw); subst hSw; go_simp; (first | done | with_reducible rfl)
            (try simp only [Act.put, List.getElem_toArray, List.getElem_cons_zero, List.getElem_cons_succ, List.setIfInBounds_toArray, List.set_cons_zero, List.set_cons_succ])
            refine wpAnyH_take (i := 4) (v := ?v24) rfl (by kernel_rfl) (by kernel_rfl) (by kernel_rfl) (fun _ _ _ h => h) (Or.inl ⟨by kernel_rfl, ?hy24⟩) (by assumption) ?rest24
            case hy24 => intro w hSw; (try dsimp only at hSw); subst hSw; go_simp; (first | done | with_reducible rfl)
            (try simp only [Act.put, List.getElem_toArray, List.getElem_cons_zero, List.getElem_cons_succ, List.setIfInBounds_toArray, List.set_cons_zero, List.set_cons_succ])
            refine wpAnyH_ready (rs := [1]) (by kernel_rfl) (by simp) ?_
            refine AllReadyH.cons rfl (fun K hK => ?_) AllReadyH.nil
            go_simp
            go_at_call 19
            with_reducible refine HWD.out.mono ?_
            rintro e x2 ⟨rfl, rfl⟩
            (try go_wp2_with fail)
            refine hK.out _ _ rfl (fun hHeld2 => ?_)
            clear hK K hHeld
            have hHeld := hHeld2
            clear hHeld2
            (try simp only [Act.put, List.getElem_toArray, List.getElem_cons_zero, List.getElem_cons_succ, List.setIfInBounds_toArray, List.set_cons_zero, List.set_cons_succ])
            refine wpAnyH_take (i := 5) (v := ?v25) rfl (by kernel_rfl) (by kernel_rfl) (by kernel_rfl) (fun _ _ _ h => h) (Or.inl ⟨by kernel_rfl, ?hy25⟩) (by assumption) ?rest25
            case hy25 => intro w hSw; (try dsimp only at hSw); subst hSw; go_simp; (first | done | with_reducible rfl)
            (try simp only [Act.put, List.getElem_toArray, List.getElem_cons_zero, List.getElem_cons_succ, List.setIfInBounds_toArray, List.set_cons_zero, List.set_cons_succ])
            refine wpAnyH_done (by kernel_rfl) ?_ _
            obtain ⟨xd, hxd⟩ : ∃ xd, x1.drew = xd := ⟨_, rfl⟩
            have BXd := Lib.hid (show BxC W zeroCl (.slice none 0 0) xd by rw [← hxd]; exact HB.out.drew)
            rw [hxd]
            clear hxd hcf hcd HWD hq1 HNF HB HQ HQ7 HF
            obtain ⟨m0, m1, m2, m3, m4, m5, m6⟩ := cells7 BXd.out.2.1
            obtain ⟨f0, f1, f2, f3, f4, f5, f6⟩ := frz7 BXd.out.2.1
            go_upto_region 7 with fail
            obtain ⟨xk, hxk⟩ : ∃ xk, xd.setCell ⟨W.heap.size + 1, 0, none⟩ (.int .i64 4) = xk := ⟨_, rfl⟩
            have BXk := Lib.hid (show BxC W (oldCl 4) (.slice none 0 0) xk by rw [← hxk]; exact BXd.out.kd 4)
            rw [hxk]
            clear hxk m0 m1 m2 m3 m4 m5 m6 f0 f1 f2 f3 f4 f5 f6 BXd
            obtain ⟨m0, m1, m2, m3, m4, m5, m6⟩ := cells7 BXk.out.2.1
            obtain ⟨f0, f1, f2, f3, f4, f5, f6⟩ := frz7 BXk.out.2.1
            obtain ⟨n0, n1, n2, n3, n4, n5, n6⟩ := cells7 BXk.out.1
            obtain ⟨g0, g1, g2, g3, g4, g5, g6⟩ := frz7 BXk.out.1
            simp only [oldCl] at m0 m1 m2 m3 m4 m5 m6
            have IC := Lib.hid (sc_fromHex _ r xk (HRS.out.below BXk.out.2.2.2) (by have := HN.out; omega) HL.out)
            go_wp2_with fail
            refine IC.out.mono ?_
            rintro e x3 ⟨rfl, hb3⟩
            have BX3 := Lib.hid (BXk.out.below hb3)
            clear hb3 m0 m1 m2 m3 m4 m5 m6 f0 f1 f2 f3 f4 f5 f6 n0 n1 n2 n3 n4 n5 n6 g0 g1 g2 g3 g4 g5 g6
            obtain ⟨t, ht⟩ : ∃ t : ByteArray, (⟨((hexN r).getD []).toArray⟩ : ByteArray) = t := ⟨_, rfl⟩
            obtain ⟨ok, hok⟩ : ∃ ok, (hexN r).isSome = ok := ⟨_, rfl⟩
            have HNO := Lib.hid (show callN (f :: r) = if ok then some ⟨4, 0, 0, t, 0, 0, []⟩ else none by
              rw [HHIT.out, ← ht, ← hok]
              show txtN r = _
              rw [txt_hex]
              cases hexN r <;> rfl)
            rw [ht, hok]
            clear ht hok
            obtain ⟨m0, m1, m2, m3, m4, m5, m6⟩ := cells7 BX3.out.2.1
            obtain ⟨f0, f1, f2, f3, f4, f5, f6⟩ := frz7 BX3.out.2.1
            go_upto_region 19 with fail
            obtain ⟨w3, hw3⟩ : ∃ w3, (x3.setCell ⟨W.heap.size + 1, 3, none⟩ (.string t)) = w3 := ⟨_, rfl⟩
            have BXf := Lib.hid (show BxC W ⟨4, 0, 0, t, 0, 0, []⟩ (.slice none 0 0) w3 by rw [← hw3]; exact BX3.out.s3 t)
            rw [hw3]
            clear hw3 m0 m1 m2 m3 m4 m5 m6 f0 f1 f2 f3 f4 f5 f6
            obtain ⟨m0, m1, m2, m3, m4, m5, m6⟩ := cells7 BXf.out.2.1
            obtain ⟨n0, n1, n2, n3, n4, n5, n6⟩ := cells7 BXf.out.1
            obtain ⟨g0, g1, g2, g3, g4, g5, g6⟩ := frz7 BXf.out.1
            simp only at m0 m1 m2 m3 m4 m5 m6
            go_wp2_with fail
            (try rw [Exit.noGoto_ret])
            refine call_ret2 (c := ⟨4, 0, 0, t, 0, 0, []⟩) rfl _ _ W.heap.size (.slice none 0 0) ok rfl rfl rfl (s7_row BXf.out.1) ?_
            exact CallR.bool HNO.out rfl BXf.out
          · go_upto_region 5 with fail
            refine wp_region_held_drew (S := fun w' => w' = x1.drew) (by kernel_rfl) rfl (fun hHeld => ?_)
            refine wpAnyH_take (i := 0) (v := ?v26) rfl (by kernel_rfl) (by kernel_rfl) (by kernel_rfl) (fun _ _ _ h => h) (Or.inl ⟨by kernel_rfl, ?hy26⟩) (by assumption) ?rest26
            case hy26 => intro w hSw; (try dsimp only at hSw); subst hSw; go_simp; (first | done | with_reducible rfl)
            (try simp only [Act.put, List.getElem_toArray, List.getElem_cons_zero, List.getElem_cons_succ, List.setIfInBounds_toArray, List.set_cons_zero, List.set_cons_succ])
            refine wpAnyH_take (i := 2) (v := ?v27) rfl (by kernel_rfl) (by kernel_rfl) (by kernel_rfl) (fun _ _ _ h => h) (Or.inl ⟨by kernel_rfl, ?hy27⟩) (by assumption) ?rest27
            case hy27 => intro w hSw; (try dsimp only at hSw); subst hSw; go_simp; (first | done | with_reducible rfl)
            (try simp only [Act.put, List.getElem_toArray, List.getElem_cons_zero, List.getElem_cons_succ, List.setIfInBounds_toArray, List.set_cons_zero, List.set_cons_succ])
            refine wpAnyH_take (i := 3) (v := ?v28) rfl (by kernel_rfl) (by kernel_rfl) (by kernel_rfl) (fun _ _ _ h => h) (Or.inl ⟨by kernel_rfl, ?hy28⟩) (by assumption) ?rest28
            case hy28 => intro w hSw; (try dsimp only at hSw); subst hSw; go_simp; (first | done | with_reducible rfl)
            (try simp only [Act.put, List.getElem_toArray, List.getElem_cons_zero, List.getElem_cons_succ, List.setIfInBounds_toArray, List.set_cons_zero, List.set_cons_succ])
            refine wpAnyH_take (i := 4) (v := ?v29) rfl (by kernel_rfl) (by kernel_rfl) (by kernel_rfl) (fun _ _ _ h => h) (Or.inl ⟨by kernel_rfl, ?hy29⟩) (by assumption) ?rest29
            case hy29 => intro w hSw; (try dsimp only at hSw); subst hSw; go_simp; (first | done | with_reducible rfl)
            (try simp only [Act.put, List.getElem_toArray, List.getElem_cons_zero, List.getElem_cons_succ, List.setIfInBounds_toArray, List.set_cons_zero, List.set_cons_succ])
            refine wpAnyH_ready (rs := [1]) (by kernel_rfl) (by simp) ?_
            refine AllReadyH.cons rfl (fun K hK => ?_) AllReadyH.nil
            go_simp
            go_at_call 19
            with_reducible refine HWD.out.mono ?_
            rintro e x2 ⟨rfl, rfl⟩
            (try go_wp2_with fail)
            refine hK.out _ _ rfl (fun hHeld2 => ?_)
            clear hK K hHeld
            have hHeld := hHeld2
            clear hHeld2
            (try simp only [Act.put, List.getElem_toArray, List.getElem_cons_zero, List.getElem_cons_succ, List.setIfInBounds_toArray, List.set_cons_zero, List.set_cons_succ])
            refine wpAnyH_take (i := 5) (v := ?v30) rfl (by kernel_rfl) (by kernel_rfl) (by kernel_rfl) (fun _ _ _ h => h) (Or.inl ⟨by kernel_rfl, ?hy30⟩) (by assumption) ?rest30
            case hy30 => intro w hSw; (try dsimp only at hSw); subst hSw; go_simp; (first | done | with_reducible rfl)
            (try simp only [Act.put, List.getElem_toArray, List.getElem_cons_zero, List.getElem_cons_succ, List.setIfInBounds_toArray, List.set_cons_zero, List.set_cons_succ])
            refine wpAnyH_done (by kernel_rfl) ?_ _
            obtain ⟨xd, hxd⟩ : ∃ xd, x1.drew = xd := ⟨_, rfl⟩
            have BXd := Lib.hid (show BxC W zeroCl (.slice none 0 0) xd by rw [← hxd]; exact HB.out.drew)
            rw [hxd]
            clear hxd hcf hcd HWD hq1 HNF HB HQ HQ7 HF
            obtain ⟨m0, m1, m2, m3, m4, m5, m6⟩ := cells7 BXd.out.2.1
            obtain ⟨f0, f1, f2, f3, f4, f5, f6⟩ := frz7 BXd.out.2.1
            go_upto_region 7 with fail
            obtain ⟨xk, hxk⟩ : ∃ xk, xd.setCell ⟨W.heap.size + 1, 0, none⟩ (.int .i64 5) = xk := ⟨_, rfl⟩
            have BXk := Lib.hid (show BxC W (oldCl 5) (.slice none 0 0) xk by rw [← hxk]; exact BXd.out.kd 5)
            rw [hxk]
            clear hxk m0 m1 m2 m3 m4 m5 m6 f0 f1 f2 f3 f4 f5 f6 BXd
            obtain ⟨m0, m1, m2, m3, m4, m5, m6⟩ := cells7 BXk.out.2.1
            obtain ⟨f0, f1, f2, f3, f4, f5, f6⟩ := frz7 BXk.out.2.1
            obtain ⟨n0, n1, n2, n3, n4, n5, n6⟩ := cells7 BXk.out.1
            obtain ⟨g0, g1, g2, g3, g4, g5, g6⟩ := frz7 BXk.out.1
            simp only [oldCl] at m0 m1 m2 m3 m4 m5 m6
            have HNO := Lib.hid (show ∀ b : Bool, b = decide (r.length = 0) → callN (f :: r) = if b then some (oldCl 5) else none from fun b hb => by
              rw [HHIT.out, hb]
              show (if r = [] then _ else none) = _
              by_cases hr : r = []
              · rw [if_pos hr, hr]; rfl
              · rw [if_neg hr, decide_eq_false (fun h => hr (List.length_eq_zero_iff.1 h))]; rfl)
            go_wp2_with fail
            (try rw [Exit.noGoto_ret])
            refine call_ret2 (c := oldCl 5) (b := ?bb5_30) rfl _ _ W.heap.size (.slice none 0 0) rfl ?hb5_30 rfl (s7_row BXk.out.1) ?_
            case hb5_30 => rfl
            refine CallR.bool (HNO.out _ ?_) rfl BXk.out
            first | rfl | (simp [*]; done) | (rw [Bool.eq_iff_iff]; simp; done) | (rw [Bool.eq_iff_iff]; simp; omega) | (cases r <;> simp; done) | (cases r <;> rfl)
          · go_upto_region 5 with fail
            refine wp_region_held_drew (S := fun w' => w' = x1.drew) (by kernel_rfl) rfl (fun hHeld => ?_)
            refine wpAnyH_take (i := 0) (v := ?v31) rfl (by kernel_rfl) (by kernel_rfl) (by kernel_rfl) (fun _ _ _ h => h) (Or.inl ⟨by kernel_rfl, ?hy31⟩) (by assumption) ?rest31
            case hy31 => intro w hSw; (try dsimp only at hSw); subst hSw; go_simp; (first | done | with_reducible rfl)
            (try simp only [Act.put, List.getElem_toArray, List.getElem_cons_zero, List.getElem_cons_succ, List.setIfInBounds_toArray, List.set_cons_zero, List.set_cons_succ])
            refine wpAnyH_take (i := 2) (v := ?v32) rfl (by kernel_rfl) (by kernel_rfl) (by kernel_rfl) (fun _ _ _ h => h) (Or.inl ⟨by kernel_rfl, ?hy32⟩) (by assumption) ?rest32
            case hy32 => intro w hSw; (try dsimp only at hSw); subst hSw; go_simp; (first | done | with_reducible rfl)
            (try simp only [Act.put, List.getElem_toArray, List.getElem_cons_zero, List.getElem_cons_succ, List.setIfInBounds_toArray, List.set_cons_zero, List.set_cons_succ])
            refine wpAnyH_take (i := 3) (v := ?v33) rfl (by kernel_rfl) (by kernel_rfl) (by kernel_rfl) (fun _ _ _ h => h) (Or.inl ⟨by kernel_rfl, ?hy33⟩) (by assumption) ?rest33
            case hy33 => intro w hSw; (try dsimp only at hSw); subst hSw; go_simp; (first | done | with_reducible rfl)
            (try simp only [Act.put, List.getElem_toArray, List.getElem_cons_zero, List.getElem_cons_succ, List.setIfInBounds_toArray, List.set_cons_zero, List.set_cons_succ])
            refine wpAnyH_take (i := 4) (v := ?v34) rfl (by kernel_rfl) (by kernel_rfl) (by kernel_rfl) (fun _ _ _ h => h) (Or.inl ⟨by kernel_rfl, ?hy34⟩) (by assumption) ?rest34
            case hy34 => intro w hSw; (try dsimp only at hSw); subst hSw; go_simp; (first | done | with_reducible rfl)
            (try simp only [Act.put, List.getElem_toArray, List.getElem_cons_zero, List.getElem_cons_succ, List.setIfInBounds_toArray, List.set_cons_zero, List.set_cons_succ])
            refine wpAnyH_ready (rs := [1]) (by kernel_rfl) (by simp) ?_
            refine AllReadyH.cons rfl (fun K hK => ?_) AllReadyH.nil
            go_simp
            go_at_call 19
            with_reducible refine HWD.out.mono ?_
            rintro e x2 ⟨rfl, rfl⟩
            (try go_wp2_with fail)
            refine hK.out _ _ rfl (fun hHeld2 => ?_)
            clear hK K hHeld
            have hHeld := hHeld2
            clear hHeld2
            (try simp only [Act.put, List.getElem_toArray, List.getElem_cons_zero, List.getElem_cons_succ, List.setIfInBounds_toArray, List.set_cons_zero, List.set_cons_succ])
            refine wpAnyH_take (i := 5) (v := ?v35) rfl (by kernel_rfl) (by kernel_rfl) (by kernel_rfl) (fun _ _ _ h => h) (Or.inl ⟨by kernel_rfl, ?hy35⟩) (by assumption) ?rest35
            case hy35 => intro w hSw; (try dsimp only at hSw); subst hSw; go_simp; (first | done | with_reducible rfl)
            (try simp only [Act.put, List.getElem_toArray, List.getElem_cons_zero, List.getElem_cons_succ, List.setIfInBounds_toArray, List.set_cons_zero, List.set_cons_succ])
            refine wpAnyH_done (by kernel_rfl) ?_ _
            obtain ⟨xd, hxd⟩ : ∃ xd, x1.drew = xd := ⟨_, rfl⟩
            have BXd := Lib.hid (show BxC W zeroCl (.slice none 0 0) xd by rw [← hxd]; exact HB.out.drew)
            rw [hxd]
            clear hxd hcf hcd HWD hq1 HNF HB HQ HQ7 HF
            obtain ⟨m0, m1, m2, m3, m4, m5, m6⟩ := cells7 BXd.out.2.1
            obtain ⟨f0, f1, f2, f3, f4, f5, f6⟩ := frz7 BXd.out.2.1
            go_upto_region 7 with fail
            obtain ⟨xk, hxk⟩ : ∃ xk, xd.setCell ⟨W.heap.size + 1, 0, none⟩ (.int .i64 6) = xk := ⟨_, rfl⟩
            have BXk := Lib.hid (show BxC W (oldCl 6) (.slice none 0 0) xk by rw [← hxk]; exact BXd.out.kd 6)
            rw [hxk]
            clear hxk m0 m1 m2 m3 m4 m5 m6 f0 f1 f2 f3 f4 f5 f6 BXd
            obtain ⟨m0, m1, m2, m3, m4, m5, m6⟩ := cells7 BXk.out.2.1
            obtain ⟨f0, f1, f2, f3, f4, f5, f6⟩ := frz7 BXk.out.2.1
            obtain ⟨n0, n1, n2, n3, n4, n5, n6⟩ := cells7 BXk.out.1
            obtain ⟨g0, g1, g2, g3, g4, g5, g6⟩ := frz7 BXk.out.1
            simp only [oldCl] at m0 m1 m2 m3 m4 m5 m6
            have IC := Lib.hid (sc_ofHandle 6 (by decide) _ r xk (HRS.out.below BXk.out.2.2.2) (by have := HN.out; omega) HL.out (HE0.out.below BXk.out.2.2.2) (pow10_bel HT0.out BXk.out.2.2.2))
            unfold oldCl Cl.val at IC
            simp only at IC
            have HNO := Lib.hid (show callN (f :: r) = ofN 6 r from HHIT.out)
            go_wp2_with fail
            refine IC.out.mono ?_
            rintro e x3 ⟨hi, hb3⟩
            have BX3 := Lib.hid (BXk.out.below hb3)
            have HKS := Lib.hid BXk.out.2.2.2.size
            clear hb3 m0 m1 m2 m3 m4 m5 m6 f0 f1 f2 f3 f4 f5 f6 n0 n1 n2 n3 n4 n5 n6 g0 g1 g2 g3 g4 g5 g6
            obtain ⟨n0, n1, n2, n3, n4, n5, n6⟩ := cells7 BX3.out.1
            obtain ⟨g0, g1, g2, g3, g4, g5, g6⟩ := frz7 BX3.out.1
            rcases hi with ⟨d, xv, hd, rfl, ho⟩ | ⟨hd, d, pp, pn, pk, rfl⟩
            · obtain ⟨pp, pk, rfl, -, -, -⟩ := ho.shape
              have HO := Lib.hid ho
              have HD := Lib.hid (HNO.out.trans hd)
              have HOK2 := Lib.hid BXk.out.2.2.1
              clear ho hd
              unfold Cl.val
              go_wp2_with fail
              (try rw [Exit.noGoto_ret])
              refine call_ret2 (c := d) rfl _ _ W.heap.size (.slice pp d.xs.length pk) true rfl rfl rfl (s7_row BX3.out.1) ?_
              exact ⟨.inl ⟨d, _, HD.out, rfl, own_lim (own_s7 HO.out (by have := HOK2.out; omega) _ _ _ _ _ _ _) HKS.out⟩, s7_below BX3.out.2.2.2 (Nat.le_refl _)⟩
            · have HD := Lib.hid (HNO.out.trans hd)
              clear hd
              unfold Cl.val
              go_wp2_with fail
              (try rw [Exit.noGoto_ret])
              refine call_ret2 (c := d) rfl _ _ W.heap.size (.slice pp pn pk) false rfl rfl rfl (s7_row BX3.out.1) ?_
              exact CallR.badC HD.out BX3.out d pp pn pk
          · go_upto_region 5 with fail
            refine wp_region_held_drew (S := fun w' => w' = x1.drew) (by kernel_rfl) rfl (fun hHeld => ?_)
            refine wpAnyH_take (i := 0) (v := ?v36) rfl (by kernel_rfl) (by kernel_rfl) (by kernel_rfl) (fun _ _ _ h => h) (Or.inl ⟨by kernel_rfl, ?hy36⟩) (by assumption) ?rest36
            case hy36 => intro w hSw; (try dsimp only at hSw); subst hSw; go_simp; (first | done | with_reducible rfl)
            (try simp only [Act.put, List.getElem_toArray, List.getElem_cons_zero, List.getElem_cons_succ, List.setIfInBounds_toArray, List.set_cons_zero, List.set_cons_succ])
            refine wpAnyH_take (i := 2) (v := ?v37) rfl (by kernel_rfl) (by kernel_rfl) (by kernel_rfl) (fun _ _ _ h => h) (Or.inl ⟨by kernel_rfl, ?hy37⟩) (by assumption) ?rest37
            case hy37 => intro w hSw; (try dsimp only at hSw); subst hSw; go_simp; (first | done | with_reducible rfl)
            (try simp only [Act.put, List.getElem_toArray, List.getElem_cons_zero, List.getElem_cons_succ, List.setIfInBounds_toArray, List.set_cons_zero, List.set_cons_succ])
            refine wpAnyH_take (i := 3) (v := ?v38) rfl (by kernel_rfl) (by kernel_rfl) (by kernel_rfl) (fun _ _ _ h => h) (Or.inl ⟨by kernel_rfl, ?hy38⟩) (by assumption) ?rest38
            case hy38 => intro w hSw; (try dsimp only at hSw); subst hSw; go_simp; (first | done | with_reducible rfl)
            (try simp only [Act.put, List.getElem_toArray, List.getElem_cons_zero, List.getElem_cons_succ, List.setIfInBounds_toArray, List.set_cons_zero, List.set_cons_succ])
            refine wpAnyH_take (i := 4) (v := ?v39) rfl (by kernel_rfl) (by kernel_rfl) (by kernel_rfl) (fun _ _ _ h => h) (Or.inl ⟨by kernel_rfl, ?hy39⟩) (by assumption) ?rest39
            case hy39 => intro w hSw; (try dsimp only at hSw); subst hSw; go_simp; (first | done | with_reducible rfl)
            (try simp only [Act.put, List.getElem_toArray, List.getElem_cons_zero, List.getElem_cons_succ, List.setIfInBounds_toArray, List.set_cons_zero, List.set_cons_succ])
            refine wpAnyH_ready (rs := [1]) (by kernel_rfl) (by simp) ?_
            refine AllReadyH.cons rfl (fun K hK => ?_) AllReadyH.nil
            go_simp
            go_at_call 19
            with_reducible refine HWD.out.mono ?_
            rintro e x2 ⟨rfl, rfl⟩
            (try go_wp2_with fail)
            refine hK.out _ _ rfl (fun hHeld2 => ?_)
            clear hK K hHeld
            have hHeld := hHeld2
            clear hHeld2
            (try simp only [Act.put, List.getElem_toArray, List.getElem_cons_zero, List.getElem_cons_succ, List.setIfInBounds_toArray, List.set_cons_zero, List.set_cons_succ])
            refine wpAnyH_take (i := 5) (v := ?v40) rfl (by kernel_rfl) (by kernel_rfl) (by kernel_rfl) (fun _ _ _ h => h) (Or.inl ⟨by kernel_rfl, ?hy40⟩) (by assumption) ?rest40
            case hy40 => intro w hSw; (try dsimp only at hSw); subst hSw; go_simp; (first | done | with_reducible rfl)
            (try simp only [Act.put, List.getElem_toArray, List.getElem_cons_zero, List.getElem_cons_succ, List.setIfInBounds_toArray, List.set_cons_zero, List.set_cons_succ])
            refine wpAnyH_done (by kernel_rfl) ?_ _
            obtain ⟨xd, hxd⟩ : ∃ xd, x1.drew = xd := ⟨_, rfl⟩
            have BXd := Lib.hid (show BxC W zeroCl (.slice none 0 0) xd by rw [← hxd]; exact HB.out.drew)
            rw [hxd]
            clear hxd hcf hcd HWD hq1 HNF HB HQ HQ7 HF
            obtain ⟨m0, m1, m2, m3, m4, m5, m6⟩ := cells7 BXd.out.2.1
            obtain ⟨f0, f1, f2, f3, f4, f5, f6⟩ := frz7 BXd.out.2.1
            go_upto_region 7 with fail
            obtain ⟨xk, hxk⟩ : ∃ xk, xd.setCell ⟨W.heap.size + 1, 0, none⟩ (.int .i64 7) = xk := ⟨_, rfl⟩
            have BXk := Lib.hid (show BxC W (oldCl 7) (.slice none 0 0) xk by rw [← hxk]; exact BXd.out.kd 7)
            rw [hxk]
            clear hxk m0 m1 m2 m3 m4 m5 m6 f0 f1 f2 f3 f4 f5 f6 BXd
            obtain ⟨m0, m1, m2, m3, m4, m5, m6⟩ := cells7 BXk.out.2.1
            obtain ⟨f0, f1, f2, f3, f4, f5, f6⟩ := frz7 BXk.out.2.1
            obtain ⟨n0, n1, n2, n3, n4, n5, n6⟩ := cells7 BXk.out.1
            obtain ⟨g0, g1, g2, g3, g4, g5, g6⟩ := frz7 BXk.out.1
            simp only [oldCl] at m0 m1 m2 m3 m4 m5 m6
            have IC := Lib.hid (sc_ofHandle 7 (by decide) _ r xk (HRS.out.below BXk.out.2.2.2) (by have := HN.out; omega) HL.out (HE0.out.below BXk.out.2.2.2) (pow10_bel HT0.out BXk.out.2.2.2))
            unfold oldCl Cl.val at IC
            simp only at IC
            have HNO := Lib.hid (show callN (f :: r) = ofN 7 r from HHIT.out)
            go_wp2_with fail
            refine IC.out.mono ?_
            rintro e x3 ⟨hi, hb3⟩
            have BX3 := Lib.hid (BXk.out.below hb3)
            have HKS := Lib.hid BXk.out.2.2.2.size
            clear hb3 m0 m1 m2 m3 m4 m5 m6 f0 f1 f2 f3 f4 f5 f6 n0 n1 n2 n3 n4 n5 n6 g0 g1 g2 g3 g4 g5 g6
            obtain ⟨n0, n1, n2, n3, n4, n5, n6⟩ := cells7 BX3.out.1
            obtain ⟨g0, g1, g2, g3, g4, g5, g6⟩ := frz7 BX3.out.1
            rcases hi with ⟨d, xv, hd, rfl, ho⟩ | ⟨hd, d, pp, pn, pk, rfl⟩
            · obtain ⟨pp, pk, rfl, -, -, -⟩ := ho.shape
              have HO := Lib.hid ho
              have HD := Lib.hid (HNO.out.trans hd)
              have HOK2 := Lib.hid BXk.out.2.2.1
              clear ho hd
              unfold Cl.val
              go_wp2_with fail
              (try rw [Exit.noGoto_ret])
              refine call_ret2 (c := d) rfl _ _ W.heap.size (.slice pp d.xs.length pk) true rfl rfl rfl (s7_row BX3.out.1) ?_
              exact ⟨.inl ⟨d, _, HD.out, rfl, own_lim (own_s7 HO.out (by have := HOK2.out; omega) _ _ _ _ _ _ _) HKS.out⟩, s7_below BX3.out.2.2.2 (Nat.le_refl _)⟩
            · have HD := Lib.hid (HNO.out.trans hd)
              clear hd
              unfold Cl.val
              go_wp2_with fail
              (try rw [Exit.noGoto_ret])
              refine call_ret2 (c := d) rfl _ _ W.heap.size (.slice pp pn pk) false rfl rfl rfl (s7_row BX3.out.1) ?_
              exact CallR.badC HD.out BX3.out d pp pn pk
        · have hq1 : (K.toList == s.toList) = false := by
            rw [Lib.toList_data, Lib.toList_data, HSF.out]; exact beq_eq_false_iff_ne.2 heq
          have HNF2 := Lib.hid (show ∀ j : Nat, 1 ≤ j → (j : Int) < q + 1 → (wdK (j : Int)).data.toList ≠ f from fun j h1 h2 => by
            by_cases e : (j : Int) = q
            · rw [e, hK]; exact heq
            · exact HNF.out j h1 (by omega))
          have HBd := Lib.hid HB.out.drew
          have WK := Lib.hid (show wrap64 (q + 1) = q + 1 by have := HQ.out; simp only [wrap64]; omega)
          clear heq hK
          have HQN := Lib.hid (show 1 ≤ q + 1 ∧ q + 1 ≤ 8 by have := HQ.out; have := HQ7.out; omega)
          go_upto_region 5 with fail
          refine wp_region_held_drew (S := fun w' => w' = x1.drew) (by kernel_rfl) rfl (fun hHeld => ?_)
          refine wpAnyH_take (i := 0) (v := ?v1) rfl (by kernel_rfl) (by kernel_rfl) (by kernel_rfl) (fun _ _ _ h => h) (Or.inl ⟨by kernel_rfl, ?hy1⟩) (by assumption) ?rest1
          case hy1 => intro w hSw; (try dsimp only at hSw); subst hSw; go_simp; (first | done | with_reducible rfl)
          (try simp only [Act.put, List.getElem_toArray, List.getElem_cons_zero, List.getElem_cons_succ, List.setIfInBounds_toArray, List.set_cons_zero, List.set_cons_succ])
          refine wpAnyH_take (i := 2) (v := ?v2) rfl (by kernel_rfl) (by kernel_rfl) (by kernel_rfl) (fun _ _ _ h => h) (Or.inl ⟨by kernel_rfl, ?hy2⟩) (by assumption) ?rest2
          case hy2 => intro w hSw; (try dsimp only at hSw); subst hSw; go_simp; (first | done | with_reducible rfl)
          (try simp only [Act.put, List.getElem_toArray, List.getElem_cons_zero, List.getElem_cons_succ, List.setIfInBounds_toArray, List.set_cons_zero, List.set_cons_succ])
          refine wpAnyH_take (i := 3) (v := ?v3) rfl (by kernel_rfl) (by kernel_rfl) (by kernel_rfl) (fun _ _ _ h => h) (Or.inl ⟨by kernel_rfl, ?hy3⟩) (by assumption) ?rest3
          case hy3 => intro w hSw; (try dsimp only at hSw); subst hSw; go_simp; (first | done | with_reducible rfl)
          (try simp only [Act.put, List.getElem_toArray, List.getElem_cons_zero, List.getElem_cons_succ, List.setIfInBounds_toArray, List.set_cons_zero, List.set_cons_succ])
          refine wpAnyH_take (i := 4) (v := ?v4) rfl (by kernel_rfl) (by kernel_rfl) (by kernel_rfl) (fun _ _ _ h => h) (Or.inl ⟨by kernel_rfl, ?hy4⟩) (by assumption) ?rest4
          case hy4 => intro w hSw; (try dsimp only at hSw); subst hSw; go_simp; (first | done | with_reducible rfl)
          (try simp only [Act.put, List.getElem_toArray, List.getElem_cons_zero, List.getElem_cons_succ, List.setIfInBounds_toArray, List.set_cons_zero, List.set_cons_succ])
          refine wpAnyH_ready (rs := [1]) (by kernel_rfl) (by simp) ?_
          refine AllReadyH.cons rfl (fun K hK => ?_) AllReadyH.nil
          go_simp
          go_at_call 19
          with_reducible refine HWD.out.mono ?_
          rintro e x2 ⟨rfl, rfl⟩
          (try go_wp2_with fail)
          refine hK.out _ _ rfl (fun hHeld2 => ?_)
          clear hK K hHeld
          have hHeld := hHeld2
          clear hHeld2
          (try simp only [Act.put, List.getElem_toArray, List.getElem_cons_zero, List.getElem_cons_succ, List.setIfInBounds_toArray, List.set_cons_zero, List.set_cons_succ])
          refine wpAnyH_take (i := 5) (v := ?v5) rfl (by kernel_rfl) (by kernel_rfl) (by kernel_rfl) (fun _ _ _ h => h) (Or.inl ⟨by kernel_rfl, ?hy5⟩) (by assumption) ?rest5
          case hy5 => intro w hSw; (try dsimp only at hSw); subst hSw; go_simp; (first | done | with_reducible rfl)
          (try simp only [Act.put, List.getElem_toArray, List.getElem_cons_zero, List.getElem_cons_succ, List.setIfInBounds_toArray, List.set_cons_zero, List.set_cons_succ])
          refine wpAnyH_done (by kernel_rfl) ?_ _
          go_wp2_with fail
          go_roundw
          case rel => first | (rw [WK.out]; exact ⟨HQN, HNF2⟩) | exact ⟨q + 1, by first | rw [WK.out] | simp, HQN, HNF2, HBd⟩ | (rw [WK.out]; exact ⟨HQN, HNF2, HBd⟩) | exact ⟨HQN, HNF2, HBd⟩ | (simp only [WK.out]; exact ⟨HQN, HNF2, HBd⟩)
          case measure => first | (rw [WK.out]; have := HQ.out; simp only [intOf]; omega) | (have := HQ.out; have := HQ7.out; simp only [intOf]; omega)
      · have HNO := Lib.hid (callN_none (r := r) (f := f) (fun j h1 h2 => HNF.out j h1 (by have := HQ.out; omega)))
        obtain ⟨c0, c1, c2, c3, c4, c5, c6⟩ := cells7 HB.out.1
        obtain ⟨f0, f1, f2, f3, f4, f5, f6⟩ := frz7 HB.out.1
        go_wp2_with fail
        (try rw [Exit.noGoto_ret])
        refine call_ret2 (c := zeroCl) rfl _ _ W.heap.size (.slice none 0 0) false rfl rfl rfl (s7_row HB.out.1) ?_
        exact CallR.badC HNO.out HB.out zeroCl none 0 0
  · have HRS := Lib.hid hu
    clear hu
    go_enter Tryd.func48, Tryd.ntmps48
    go_wp2_with fail
    go_step3
    go_wp2_with fail
    go_region
    rw [HW1.out]
    obtain ⟨wa, hwa⟩ : ∃ wa, w1.drew = wa := ⟨_, rfl⟩
    rw [hwa] at BX ⊢
    clear hwa HW1
    go_wp2_with fail
    go_step3
    go_wp2_with fail
    have H18 : Hid ((1 : Int) ≤ 1 ∧ (1 : Int) ≤ 8) := Lib.hid ⟨by decide, by decide⟩
    have H10 : Hid (∀ j : Nat, 1 ≤ j → (j : Int) < 1 → (wdK (j : Int)).data.toList ≠ f) := Lib.hid (fun j h1 h2 => by exfalso; omega)
    go_loopw [6] (fun j wr => ∃ q : Int, j = .int .i64 q ∧ Hid (1 ≤ q ∧ q ≤ 8) ∧ Hid (∀ j : Nat, 1 ≤ j → (j : Int) < q → (wdK (j : Int)).data.toList ≠ f) ∧ Hid (BxC W zeroCl (.slice none 0 0) wr)) (fun j _ => (8 - intOf j).toNat)
    case atStart => exact ⟨1, rfl, H18, H10, BX⟩
    case round =>
      obtain ⟨q, rfl, HQ, HNF, HB⟩ := hrel
      obtain ⟨x1, rfl⟩ : ∃ w, w = wr := ⟨_, rfl⟩
      have hcf := HF.out x1 HB.out.2.2.2
      have hcd := HF.out x1.drew HB.out.drew.2.2.2
      by_cases hq7 : q ≤ 7
      · have HWD := sc_word q x1.drew
        have HQ7 := Lib.hid hq7
        obtain ⟨K, hK⟩ : ∃ K, wdK q = K := ⟨_, rfl⟩
        rw [hK] at HWD
        have HWD := Lib.hid HWD
        by_cases heq : K.data.toList = f
        · have HHIT := Lib.hid (callN_hit (f := f) (r := r) HQ.out.1 hq7 (by rw [hK]; exact heq))
          have hq1 : (K.toList == s.toList) = true := by
            rw [Lib.toList_data, Lib.toList_data, HSF.out]; simp [heq]
          clear heq hK
          have hq : q = 1 ∨ q = 2 ∨ q = 3 ∨ q = 4 ∨ q = 5 ∨ q = 6 ∨ q = 7 := by have := HQ.out; omega
          clear hq7
          rcases hq with rfl | rfl | rfl | rfl | rfl | rfl | rfl
          · go_upto_region 5 with fail
            refine wp_region_held_drew (S := fun w' => w' = x1.drew) (by kernel_rfl) rfl (fun hHeld => ?_)
            refine wpAnyH_take (i := 0) (v := ?v46) rfl (by kernel_rfl) (by kernel_rfl) (by kernel_rfl) (fun _ _ _ h => h) (Or.inl ⟨by kernel_rfl, ?hy46⟩) (by assumption) ?rest46
            case hy46 => intro w hSw; (try dsimp only at hSw); subst hSw; go_simp; (first | done | with_reducible rfl)
            (try simp only [Act.put, List.getElem_toArray, List.getElem_cons_zero, List.getElem_cons_succ, List.setIfInBounds_toArray, List.set_cons_zero, List.set_cons_succ])
            refine wpAnyH_take (i := 2) (v := ?v47) rfl (by kernel_rfl) (by kernel_rfl) (by kernel_rfl) (fun _ _ _ h => h) (Or.inl ⟨by kernel_rfl, ?hy47⟩) (by assumption) ?rest47
            case hy47 => intro w hSw; (try dsimp only at hSw); subst hSw; go_simp; (first | done | with_reducible rfl)
            (try simp only [Act.put, List.getElem_toArray, List.getElem_cons_zero, List.getElem_cons_succ, List.setIfInBounds_toArray, List.set_cons_zero, List.set_cons_succ])
            refine wpAnyH_take (i := 3) (v := ?v48) rfl (by kernel_rfl) (by kernel_rfl) (by kernel_rfl) (fun _ _ _ h => h) (Or.inl ⟨by kernel_rfl, ?hy48⟩) (by assumption) ?rest48
            case hy48 => intro w hSw; (try dsimp only at hSw); subst hSw; go_simp; (first | done | with_reducible rfl)
            (try simp only [Act.put, List.getElem_toArray, List.getElem_cons_zero, List.getElem_cons_succ, List.setIfInBounds_toArray, List.set_cons_zero, List.set_cons_succ])
            refine wpAnyH_take (i := 4) (v := ?v49) rfl (by kernel_rfl) (by kernel_rfl) (by kernel_rfl) (fun _ _ _ h => h) (Or.inl ⟨by kernel_rfl, ?hy49⟩) (by assumption) ?rest49
            case hy49 => intro w hSw; (try dsimp only at hSw); subst hSw; go_simp; (first | done | with_reducible rfl)
            (try simp only [Act.put, List.getElem_toArray, List.getElem_cons_zero, List.getElem_cons_succ, List.setIfInBounds_toArray, List.set_cons_zero, List.set_cons_succ])
            refine wpAnyH_ready (rs := [1]) (by kernel_rfl) (by simp) ?_
            refine AllReadyH.cons rfl (fun K hK => ?_) AllReadyH.nil
            go_simp
            go_at_call 19
            with_reducible refine HWD.out.mono ?_
            rintro e x2 ⟨rfl, rfl⟩
            (try go_wp2_with fail)
            refine hK.out _ _ rfl (fun hHeld2 => ?_)
            clear hK K hHeld
            have hHeld := hHeld2
            clear hHeld2
            (try simp only [Act.put, List.getElem_toArray, List.getElem_cons_zero, List.getElem_cons_succ, List.setIfInBounds_toArray, List.set_cons_zero, List.set_cons_succ])
            refine wpAnyH_take (i := 5) (v := ?v50) rfl (by kernel_rfl) (by kernel_rfl) (by kernel_rfl) (fun _ _ _ h => h) (Or.inl ⟨by kernel_rfl, ?hy50⟩) (by assumption) ?rest50
            case hy50 => intro w hSw; (try dsimp only at hSw); subst hSw; go_simp; (first | done | with_reducible rfl)
            (try simp only [Act.put, List.getElem_toArray, List.getElem_cons_zero, List.getElem_cons_succ, List.setIfInBounds_toArray, List.set_cons_zero, List.set_cons_succ])
            refine wpAnyH_done (by kernel_rfl) ?_ _
            obtain ⟨xd, hxd⟩ : ∃ xd, x1.drew = xd := ⟨_, rfl⟩
            have BXd := Lib.hid (show BxC W zeroCl (.slice none 0 0) xd by rw [← hxd]; exact HB.out.drew)
            rw [hxd]
            clear hxd hcf hcd HWD hq1 HNF HB HQ HQ7 HF
            obtain ⟨m0, m1, m2, m3, m4, m5, m6⟩ := cells7 BXd.out.2.1
            obtain ⟨f0, f1, f2, f3, f4, f5, f6⟩ := frz7 BXd.out.2.1
            go_upto_region 7 with fail
            obtain ⟨xk, hxk⟩ : ∃ xk, xd.setCell ⟨W.heap.size + 1, 0, none⟩ (.int .i64 1) = xk := ⟨_, rfl⟩
            have BXk := Lib.hid (show BxC W (oldCl 1) (.slice none 0 0) xk by rw [← hxk]; exact BXd.out.kd 1)
            rw [hxk]
            clear hxk m0 m1 m2 m3 m4 m5 m6 f0 f1 f2 f3 f4 f5 f6 BXd
            obtain ⟨m0, m1, m2, m3, m4, m5, m6⟩ := cells7 BXk.out.2.1
            obtain ⟨f0, f1, f2, f3, f4, f5, f6⟩ := frz7 BXk.out.2.1
            obtain ⟨n0, n1, n2, n3, n4, n5, n6⟩ := cells7 BXk.out.1
            obtain ⟨g0, g1, g2, g3, g4, g5, g6⟩ := frz7 BXk.out.1
            simp only [oldCl] at m0 m1 m2 m3 m4 m5 m6
            have IC := Lib.hid (sc_ints _ r xk (HRS.out.below BXk.out.2.2.2) (by have := HN.out; omega) (fun z hz => Nat.le_trans (HL.out z hz) (by omega)) (HE0.out.below BXk.out.2.2.2) (pow10_bel HT0.out BXk.out.2.2.2))
            go_wp2_with fail
            refine IC.out.mono ?_
            rintro e x3 ⟨hi, hb3⟩
            have BX3 := Lib.hid (BXk.out.below hb3)
            clear hb3 m0 m1 m2 m3 m4 m5 m6 f0 f1 f2 f3 f4 f5 f6 n0 n1 n2 n3 n4 n5 n6 g0 g1 g2 g3 g4 g5 g6
            obtain ⟨m0, m1, m2, m3, m4, m5, m6⟩ := cells7 BX3.out.2.1
            obtain ⟨f0, f1, f2, f3, f4, f5, f6⟩ := frz7 BX3.out.2.1
            obtain ⟨n0, n1, n2, n3, n4, n5, n6⟩ := cells7 BX3.out.1
            obtain ⟨g0, g1, g2, g3, g4, g5, g6⟩ := frz7 BX3.out.1
            simp only [oldCl] at m0 m1 m2 m3 m4 m5 m6
            rcases hi with ⟨vs, u, hv, rfl, ho⟩ | ⟨hv, rfl⟩
            · obtain ⟨qa, qc, rfl, hrd, -, -⟩ := ho.shape
              by_cases h2 : vs.length = 2
              · obtain ⟨a, b, rfl⟩ : ∃ a b, vs = [a, b] := by
                  match vs, h2 with
                  | [a, b], _ => exact ⟨a, b, rfl⟩
                have HNO := Lib.hid (show callN (f :: r) = some ⟨1, a, b, ⟨#[]⟩, 0, 0, []⟩ by
                  rw [HHIT.out]
                  unfold kindN keyN
                  rw [if_pos (by decide), hv])
                rcases hrd with hrd | ⟨bq, oq, rfl, hbq, hcq⟩
                · cases hrd
                have z0 := hcq 0 (by simp)
                have z1 := hcq 1 (by simp)
                simp only [List.getD_cons_zero, List.getD_cons_succ, Nat.add_zero] at z0 z1
                clear ho hv hcq hbq h2
                go_wp2_with fail
                go_still_tail 8, (by kernel_rfl)
                change wpList _ _ _ _ _ x3.drew
                obtain ⟨wd, hwd⟩ : ∃ wd, x3.drew = wd := ⟨_, rfl⟩
                have BXe := Lib.hid (show BxC W (oldCl 1) (.slice none 0 0) wd by rw [← hwd]; exact BX3.out.drew)
                have z0d : wd.cell? ⟨bq, oq, none⟩ = some (.int .i64 a) := by rw [← hwd]; exact z0
                have z1d : wd.cell? ⟨bq, oq + 1, none⟩ = some (.int .i64 b) := by rw [← hwd]; exact z1
                rw [hwd]
                clear hwd m0 m1 m2 m3 m4 m5 m6 f0 f1 f2 f3 f4 f5 f6 n0 n1 n2 n3 n4 n5 n6 g0 g1 g2 g3 g4 g5 g6 z0 z1
                obtain ⟨f0, f1, f2, f3, f4, f5, f6⟩ := frz7 BXe.out.2.1
                obtain ⟨m0, m1, m2, m3, m4, m5, m6⟩ := cells7 BXe.out.2.1
                go_upto_region 15 with fail
                obtain ⟨w3, hw3⟩ : ∃ w3, ((wd.setCell ⟨W.heap.size + 1, 1, none⟩ (.int .i64 a)).setCell ⟨W.heap.size + 1, 2, none⟩ (.int .i64 b)) = w3 := ⟨_, rfl⟩
                have BXf := Lib.hid (show BxC W ⟨1, a, b, ⟨#[]⟩, 0, 0, []⟩ (.slice none 0 0) w3 by rw [← hw3]; exact (BXe.out.n1 a).d2 b)
                rw [hw3]
                clear hw3 m0 m1 m2 m3 m4 m5 m6 f0 f1 f2 f3 f4 f5 f6 z0d z1d
                obtain ⟨m0, m1, m2, m3, m4, m5, m6⟩ := cells7 BXf.out.2.1
                obtain ⟨n0, n1, n2, n3, n4, n5, n6⟩ := cells7 BXf.out.1
                obtain ⟨g0, g1, g2, g3, g4, g5, g6⟩ := frz7 BXf.out.1
                simp only at m0 m1 m2 m3 m4 m5 m6
                go_wp2_with fail
                (try rw [Exit.noGoto_ret])
                refine call_ret2 (c := ⟨1, a, b, ⟨#[]⟩, 0, 0, []⟩) rfl _ _ W.heap.size (.slice none 0 0) true rfl rfl rfl (s7_row BXf.out.1) ?_
                exact CallR.goodC HNO.out rfl BXf.out
              · have HNO := Lib.hid (show callN (f :: r) = none by
                  rw [HHIT.out]
                  unfold kindN keyN
                  rw [if_pos (by decide), hv]
                  match vs, h2 with
                  | [], _ => rfl
                  | [_], _ => rfl
                  | [_, _], h => exact absurd rfl h
                  | _ :: _ :: _ :: _, _ => rfl)
                have hd : ((((vs.length : Nat) : Int)) != 2) = true := by simp; omega
                clear ho hv h2 hrd
                go_wp2_with fail
                (try rw [Exit.noGoto_ret])
                refine call_ret2 (c := zeroCl) rfl _ _ W.heap.size (.slice none 0 0) false rfl rfl rfl (s7_row BX3.out.1) ?_
                exact CallR.badC HNO.out BX3.out zeroCl none 0 0
            · have HNO := Lib.hid (show callN (f :: r) = none by
                rw [HHIT.out]
                unfold kindN keyN
                rw [if_pos (by decide), hv])
              clear hv
              go_wp2_with fail
              (try rw [Exit.noGoto_ret])
              refine call_ret2 (c := zeroCl) rfl _ _ W.heap.size (.slice none 0 0) false rfl rfl rfl (s7_row BX3.out.1) ?_
              exact CallR.badC HNO.out BX3.out zeroCl none 0 0
          · go_upto_region 5 with fail
            refine wp_region_held_drew (S := fun w' => w' = x1.drew) (by kernel_rfl) rfl (fun hHeld => ?_)
            refine wpAnyH_take (i := 0) (v := ?v51) rfl (by kernel_rfl) (by kernel_rfl) (by kernel_rfl) (fun _ _ _ h => h) (Or.inl ⟨by kernel_rfl, ?hy51⟩) (by assumption) ?rest51
            case hy51 => intro w hSw; (try dsimp only at hSw); subst hSw; go_simp; (first | done | with_reducible rfl)
            (try simp only [Act.put, List.getElem_toArray, List.getElem_cons_zero, List.getElem_cons_succ, List.setIfInBounds_toArray, List.set_cons_zero, List.set_cons_succ])
            refine wpAnyH_take (i := 2) (v := ?v52) rfl (by kernel_rfl) (by kernel_rfl) (by kernel_rfl) (fun _ _ _ h => h) (Or.inl ⟨by kernel_rfl, ?hy52⟩) (by assumption) ?rest52
            case hy52 => intro w hSw; (try dsimp only at hSw); subst hSw; go_simp; (first | done | with_reducible rfl)
            (try simp only [Act.put, List.getElem_toArray, List.getElem_cons_zero, List.getElem_cons_succ, List.setIfInBounds_toArray, List.set_cons_zero, List.set_cons_succ])
            refine wpAnyH_take (i := 3) (v := ?v53) rfl (by kernel_rfl) (by kernel_rfl) (by kernel_rfl) (fun _ _ _ h => h) (Or.inl ⟨by kernel_rfl, ?hy53⟩) (by assumption) ?rest53
            case hy53 => intro w hSw; (try dsimp only at hSw); subst hSw; go_simp; (first | done | with_reducible rfl)
            (try simp only [Act.put, List.getElem_toArray, List.getElem_cons_zero, List.getElem_cons_succ, List.setIfInBounds_toArray, List.set_cons_zero, List.set_cons_succ])
            refine wpAnyH_take (i := 4) (v := ?v54) rfl (by kernel_rfl) (by kernel_rfl) (by kernel_rfl) (fun _ _ _ h => h) (Or.inl ⟨by kernel_rfl, ?hy54⟩) (by assumption) ?rest54
            case hy54 => intro w hSw; (try dsimp only at hSw); subst hSw; go_simp; (first | done | with_reducible rfl)
            (try simp only [Act.put, List.getElem_toArray, List.getElem_cons_zero, List.getElem_cons_succ, List.setIfInBounds_toArray, List.set_cons_zero, List.set_cons_succ])
            refine wpAnyH_ready (rs := [1]) (by kernel_rfl) (by simp) ?_
            refine AllReadyH.cons rfl (fun K hK => ?_) AllReadyH.nil
            go_simp
            go_at_call 19
            with_reducible refine HWD.out.mono ?_
            rintro e x2 ⟨rfl, rfl⟩
            (try go_wp2_with fail)
            refine hK.out _ _ rfl (fun hHeld2 => ?_)
            clear hK K hHeld
            have hHeld := hHeld2
            clear hHeld2
            (try simp only [Act.put, List.getElem_toArray, List.getElem_cons_zero, List.getElem_cons_succ, List.setIfInBounds_toArray, List.set_cons_zero, List.set_cons_succ])
            refine wpAnyH_take (i := 5) (v := ?v55) rfl (by kernel_rfl) (by kernel_rfl) (by kernel_rfl) (fun _ _ _ h => h) (Or.inl ⟨by kernel_rfl, ?hy55⟩) (by assumption) ?rest55
            case hy55 => intro w hSw; (try dsimp only at hSw); subst hSw; go_simp; (first | done | with_reducible rfl)
            (try simp only [Act.put, List.getElem_toArray, List.getElem_cons_zero, List.getElem_cons_succ, List.setIfInBounds_toArray, List.set_cons_zero, List.set_cons_succ])
            refine wpAnyH_done (by kernel_rfl) ?_ _
            obtain ⟨xd, hxd⟩ : ∃ xd, x1.drew = xd := ⟨_, rfl⟩
            have BXd := Lib.hid (show BxC W zeroCl (.slice none 0 0) xd by rw [← hxd]; exact HB.out.drew)
            rw [hxd]
            clear hxd hcf hcd HWD hq1 HNF HB HQ HQ7 HF
            obtain ⟨m0, m1, m2, m3, m4, m5, m6⟩ := cells7 BXd.out.2.1
            obtain ⟨f0, f1, f2, f3, f4, f5, f6⟩ := frz7 BXd.out.2.1
            go_upto_region 7 with fail
            obtain ⟨xk, hxk⟩ : ∃ xk, xd.setCell ⟨W.heap.size + 1, 0, none⟩ (.int .i64 2) = xk := ⟨_, rfl⟩
            have BXk := Lib.hid (show BxC W (oldCl 2) (.slice none 0 0) xk by rw [← hxk]; exact BXd.out.kd 2)
            rw [hxk]
            clear hxk m0 m1 m2 m3 m4 m5 m6 f0 f1 f2 f3 f4 f5 f6 BXd
            obtain ⟨m0, m1, m2, m3, m4, m5, m6⟩ := cells7 BXk.out.2.1
            obtain ⟨f0, f1, f2, f3, f4, f5, f6⟩ := frz7 BXk.out.2.1
            obtain ⟨n0, n1, n2, n3, n4, n5, n6⟩ := cells7 BXk.out.1
            obtain ⟨g0, g1, g2, g3, g4, g5, g6⟩ := frz7 BXk.out.1
            simp only [oldCl] at m0 m1 m2 m3 m4 m5 m6
            have IC := Lib.hid (sc_ints _ r xk (HRS.out.below BXk.out.2.2.2) (by have := HN.out; omega) (fun z hz => Nat.le_trans (HL.out z hz) (by omega)) (HE0.out.below BXk.out.2.2.2) (pow10_bel HT0.out BXk.out.2.2.2))
            go_wp2_with fail
            refine IC.out.mono ?_
            rintro e x3 ⟨hi, hb3⟩
            have BX3 := Lib.hid (BXk.out.below hb3)
            clear hb3 m0 m1 m2 m3 m4 m5 m6 f0 f1 f2 f3 f4 f5 f6 n0 n1 n2 n3 n4 n5 n6 g0 g1 g2 g3 g4 g5 g6
            obtain ⟨m0, m1, m2, m3, m4, m5, m6⟩ := cells7 BX3.out.2.1
            obtain ⟨f0, f1, f2, f3, f4, f5, f6⟩ := frz7 BX3.out.2.1
            obtain ⟨n0, n1, n2, n3, n4, n5, n6⟩ := cells7 BX3.out.1
            obtain ⟨g0, g1, g2, g3, g4, g5, g6⟩ := frz7 BX3.out.1
            simp only [oldCl] at m0 m1 m2 m3 m4 m5 m6
            rcases hi with ⟨vs, u, hv, rfl, ho⟩ | ⟨hv, rfl⟩
            · obtain ⟨qa, qc, rfl, hrd, -, -⟩ := ho.shape
              by_cases h2 : vs.length = 2
              · obtain ⟨a, b, rfl⟩ : ∃ a b, vs = [a, b] := by
                  match vs, h2 with
                  | [a, b], _ => exact ⟨a, b, rfl⟩
                have HNO := Lib.hid (show callN (f :: r) = some ⟨2, a, b, ⟨#[]⟩, 0, 0, []⟩ by
                  rw [HHIT.out]
                  unfold kindN keyN
                  rw [if_pos (by decide), hv])
                rcases hrd with hrd | ⟨bq, oq, rfl, hbq, hcq⟩
                · cases hrd
                have z0 := hcq 0 (by simp)
                have z1 := hcq 1 (by simp)
                simp only [List.getD_cons_zero, List.getD_cons_succ, Nat.add_zero] at z0 z1
                clear ho hv hcq hbq h2
                go_wp2_with fail
                go_still_tail 8, (by kernel_rfl)
                change wpList _ _ _ _ _ x3.drew
                obtain ⟨wd, hwd⟩ : ∃ wd, x3.drew = wd := ⟨_, rfl⟩
                have BXe := Lib.hid (show BxC W (oldCl 2) (.slice none 0 0) wd by rw [← hwd]; exact BX3.out.drew)
                have z0d : wd.cell? ⟨bq, oq, none⟩ = some (.int .i64 a) := by rw [← hwd]; exact z0
                have z1d : wd.cell? ⟨bq, oq + 1, none⟩ = some (.int .i64 b) := by rw [← hwd]; exact z1
                rw [hwd]
                clear hwd m0 m1 m2 m3 m4 m5 m6 f0 f1 f2 f3 f4 f5 f6 n0 n1 n2 n3 n4 n5 n6 g0 g1 g2 g3 g4 g5 g6 z0 z1
                obtain ⟨f0, f1, f2, f3, f4, f5, f6⟩ := frz7 BXe.out.2.1
                obtain ⟨m0, m1, m2, m3, m4, m5, m6⟩ := cells7 BXe.out.2.1
                go_upto_region 15 with fail
                obtain ⟨w3, hw3⟩ : ∃ w3, ((wd.setCell ⟨W.heap.size + 1, 1, none⟩ (.int .i64 a)).setCell ⟨W.heap.size + 1, 2, none⟩ (.int .i64 b)) = w3 := ⟨_, rfl⟩
                have BXf := Lib.hid (show BxC W ⟨2, a, b, ⟨#[]⟩, 0, 0, []⟩ (.slice none 0 0) w3 by rw [← hw3]; exact (BXe.out.n1 a).d2 b)
                rw [hw3]
                clear hw3 m0 m1 m2 m3 m4 m5 m6 f0 f1 f2 f3 f4 f5 f6 z0d z1d
                obtain ⟨m0, m1, m2, m3, m4, m5, m6⟩ := cells7 BXf.out.2.1
                obtain ⟨n0, n1, n2, n3, n4, n5, n6⟩ := cells7 BXf.out.1
                obtain ⟨g0, g1, g2, g3, g4, g5, g6⟩ := frz7 BXf.out.1
                simp only at m0 m1 m2 m3 m4 m5 m6
                go_wp2_with fail
                (try rw [Exit.noGoto_ret])
                refine call_ret2 (c := ⟨2, a, b, ⟨#[]⟩, 0, 0, []⟩) rfl _ _ W.heap.size (.slice none 0 0) true rfl rfl rfl (s7_row BXf.out.1) ?_
                exact CallR.goodC HNO.out rfl BXf.out
              · have HNO := Lib.hid (show callN (f :: r) = none by
                  rw [HHIT.out]
                  unfold kindN keyN
                  rw [if_pos (by decide), hv]
                  match vs, h2 with
                  | [], _ => rfl
                  | [_], _ => rfl
                  | [_, _], h => exact absurd rfl h
                  | _ :: _ :: _ :: _, _ => rfl)
                have hd : ((((vs.length : Nat) : Int)) != 2) = true := by simp; omega
                clear ho hv h2 hrd
                go_wp2_with fail
                (try rw [Exit.noGoto_ret])
                refine call_ret2 (c := zeroCl) rfl _ _ W.heap.size (.slice none 0 0) false rfl rfl rfl (s7_row BX3.out.1) ?_
                exact CallR.badC HNO.out BX3.out zeroCl none 0 0
            · have HNO := Lib.hid (show callN (f :: r) = none by
                rw [HHIT.out]
                unfold kindN keyN
                rw [if_pos (by decide), hv])
              clear hv
              go_wp2_with fail
              (try rw [Exit.noGoto_ret])
              refine call_ret2 (c := zeroCl) rfl _ _ W.heap.size (.slice none 0 0) false rfl rfl rfl (s7_row BX3.out.1) ?_
              exact CallR.badC HNO.out BX3.out zeroCl none 0 0
          · go_upto_region 5 with fail
            refine wp_region_held_drew (S := fun w' => w' = x1.drew) (by kernel_rfl) rfl (fun hHeld => ?_)
            refine wpAnyH_take (i := 0) (v := ?v56) rfl (by kernel_rfl) (by kernel_rfl) (by kernel_rfl) (fun _ _ _ h => h) (Or.inl ⟨by kernel_rfl, ?hy56⟩) (by assumption) ?rest56
            case hy56 => intro w hSw; (try dsimp only at hSw); subst hSw; go_simp; (first | done | with_reducible rfl)
            (try simp only [Act.put, List.getElem_toArray, List.getElem_cons_zero, List.getElem_cons_succ, List.setIfInBounds_toArray, List.set_cons_zero, List.set_cons_succ])
            refine wpAnyH_take (i := 2) (v := ?v57) rfl (by kernel_rfl) (by kernel_rfl) (by kernel_rfl) (fun _ _ _ h => h) (Or.inl ⟨by kernel_rfl, ?hy57⟩) (by assumption) ?rest57
            case hy57 => intro w hSw; (try dsimp only at hSw); subst hSw; go_simp; (first | done | with_reducible rfl)
            (try simp only [Act.put, List.getElem_toArray, List.getElem_cons_zero, List.getElem_cons_succ, List.setIfInBounds_toArray, List.set_cons_zero, List.set_cons_succ])
            refine wpAnyH_take (i := 3) (v := ?v58) rfl (by kernel_rfl) (by kernel_rfl) (by kernel_rfl) (fun _ _ _ h => h) (Or.inl ⟨by kernel_rfl, ?hy58⟩) (by assumption) ?rest58
            case hy58 => intro w hSw; (try dsimp only at hSw); subst hSw; go_simp; (first | done | with_reducible rfl)
            (try simp only [Act.put, List.getElem_toArray, List.getElem_cons_zero, List.getElem_cons_succ, List.setIfInBounds_toArray, List.set_cons_zero, List.set_cons_succ])
            refine wpAnyH_take (i := 4) (v := ?v59) rfl (by kernel_rfl) (by kernel_rfl) (by kernel_rfl) (fun _ _ _ h => h) (Or.inl ⟨by kernel_rfl, ?hy59⟩) (by assumption) ?rest59
            case hy59 => intro w hSw; (try dsimp only at hSw); subst hSw; go_simp; (first | done | with_reducible rfl)
            (try simp only [Act.put, List.getElem_toArray, List.getElem_cons_zero, List.getElem_cons_succ, List.setIfInBounds_toArray, List.set_cons_zero, List.set_cons_succ])
            refine wpAnyH_ready (rs := [1]) (by kernel_rfl) (by simp) ?_
            refine AllReadyH.cons rfl (fun K hK => ?_) AllReadyH.nil
            go_simp
            go_at_call 19
            with_reducible refine HWD.out.mono ?_
            rintro e x2 ⟨rfl, rfl⟩
            (try go_wp2_with fail)
            refine hK.out _ _ rfl (fun hHeld2 => ?_)
            clear hK K hHeld
            have hHeld := hHeld2
            clear hHeld2
            (try simp only [Act.put, List.getElem_toArray, List.getElem_cons_zero, List.getElem_cons_succ, List.setIfInBounds_toArray, List.set_cons_zero, List.set_cons_succ])
            refine wpAnyH_take (i := 5) (v := ?v60) rfl (by kernel_rfl) (by kernel_rfl) (by kernel_rfl) (fun _ _ _ h => h) (Or.inl ⟨by kernel_rfl, ?hy60⟩) (by assumption) ?rest60
            case hy60 => intro w hSw; (try dsimp only at hSw); subst hSw; go_simp; (first | done | with_reducible rfl)
            (try simp only [Act.put, List.getElem_toArray, List.getElem_cons_zero, List.getElem_cons_succ, List.setIfInBounds_toArray, List.set_cons_zero, List.set_cons_succ])
            refine wpAnyH_done (by kernel_rfl) ?_ _
            obtain ⟨xd, hxd⟩ : ∃ xd, x1.drew = xd := ⟨_, rfl⟩
            have BXd := Lib.hid (show BxC W zeroCl (.slice none 0 0) xd by rw [← hxd]; exact HB.out.drew)
            rw [hxd]
            clear hxd hcf hcd HWD hq1 HNF HB HQ HQ7 HF
            obtain ⟨m0, m1, m2, m3, m4, m5, m6⟩ := cells7 BXd.out.2.1
            obtain ⟨f0, f1, f2, f3, f4, f5, f6⟩ := frz7 BXd.out.2.1
            go_upto_region 7 with fail
            obtain ⟨xk, hxk⟩ : ∃ xk, xd.setCell ⟨W.heap.size + 1, 0, none⟩ (.int .i64 3) = xk := ⟨_, rfl⟩
            have BXk := Lib.hid (show BxC W (oldCl 3) (.slice none 0 0) xk by rw [← hxk]; exact BXd.out.kd 3)
            rw [hxk]
            clear hxk m0 m1 m2 m3 m4 m5 m6 f0 f1 f2 f3 f4 f5 f6 BXd
            obtain ⟨m0, m1, m2, m3, m4, m5, m6⟩ := cells7 BXk.out.2.1
            obtain ⟨f0, f1, f2, f3, f4, f5, f6⟩ := frz7 BXk.out.2.1
            obtain ⟨n0, n1, n2, n3, n4, n5, n6⟩ := cells7 BXk.out.1
            obtain ⟨g0, g1, g2, g3, g4, g5, g6⟩ := frz7 BXk.out.1
            simp only [oldCl] at m0 m1 m2 m3 m4 m5 m6
            have IC := Lib.hid (sc_ints _ r xk (HRS.out.below BXk.out.2.2.2) (by have := HN.out; omega) (fun z hz => Nat.le_trans (HL.out z hz) (by omega)) (HE0.out.below BXk.out.2.2.2) (pow10_bel HT0.out BXk.out.2.2.2))
            go_wp2_with fail
            refine IC.out.mono ?_
            rintro e x3 ⟨hi, hb3⟩
            have BX3 := Lib.hid (BXk.out.below hb3)
            clear hb3 m0 m1 m2 m3 m4 m5 m6 f0 f1 f2 f3 f4 f5 f6 n0 n1 n2 n3 n4 n5 n6 g0 g1 g2 g3 g4 g5 g6
            obtain ⟨m0, m1, m2, m3, m4, m5, m6⟩ := cells7 BX3.out.2.1
            obtain ⟨f0, f1, f2, f3, f4, f5, f6⟩ := frz7 BX3.out.2.1
            obtain ⟨n0, n1, n2, n3, n4, n5, n6⟩ := cells7 BX3.out.1
            obtain ⟨g0, g1, g2, g3, g4, g5, g6⟩ := frz7 BX3.out.1
            simp only [oldCl] at m0 m1 m2 m3 m4 m5 m6
            rcases hi with ⟨vs, u, hv, rfl, ho⟩ | ⟨hv, rfl⟩
            · obtain ⟨qa, qc, rfl, hrd, -, -⟩ := ho.shape
              by_cases h2 : vs.length = 2
              · obtain ⟨a, b, rfl⟩ : ∃ a b, vs = [a, b] := by
                  match vs, h2 with
                  | [a, b], _ => exact ⟨a, b, rfl⟩
                have HNO := Lib.hid (show callN (f :: r) = some ⟨3, a, b, ⟨#[]⟩, 0, 0, []⟩ by
                  rw [HHIT.out]
                  unfold kindN keyN
                  rw [if_pos (by decide), hv])
                rcases hrd with hrd | ⟨bq, oq, rfl, hbq, hcq⟩
                · cases hrd
                have z0 := hcq 0 (by simp)
                have z1 := hcq 1 (by simp)
                simp only [List.getD_cons_zero, List.getD_cons_succ, Nat.add_zero] at z0 z1
                clear ho hv hcq hbq h2
                go_wp2_with fail
                go_still_tail 8, (by kernel_rfl)
                change wpList _ _ _ _ _ x3.drew
                obtain ⟨wd, hwd⟩ : ∃ wd, x3.drew = wd := ⟨_, rfl⟩
                have BXe := Lib.hid (show BxC W (oldCl 3) (.slice none 0 0) wd by rw [← hwd]; exact BX3.out.drew)
                have z0d : wd.cell? ⟨bq, oq, none⟩ = some (.int .i64 a) := by rw [← hwd]; exact z0
                have z1d : wd.cell? ⟨bq, oq + 1, none⟩ = some (.int .i64 b) := by rw [← hwd]; exact z1
                rw [hwd]
                clear hwd m0 m1 m2 m3 m4 m5 m6 f0 f1 f2 f3 f4 f5 f6 n0 n1 n2 n3 n4 n5 n6 g0 g1 g2 g3 g4 g5 g6 z0 z1
                obtain ⟨f0, f1, f2, f3, f4, f5, f6⟩ := frz7 BXe.out.2.1
                obtain ⟨m0, m1, m2, m3, m4, m5, m6⟩ := cells7 BXe.out.2.1
                go_upto_region 15 with fail
                obtain ⟨w3, hw3⟩ : ∃ w3, ((wd.setCell ⟨W.heap.size + 1, 1, none⟩ (.int .i64 a)).setCell ⟨W.heap.size + 1, 2, none⟩ (.int .i64 b)) = w3 := ⟨_, rfl⟩
                have BXf := Lib.hid (show BxC W ⟨3, a, b, ⟨#[]⟩, 0, 0, []⟩ (.slice none 0 0) w3 by rw [← hw3]; exact (BXe.out.n1 a).d2 b)
                rw [hw3]
                clear hw3 m0 m1 m2 m3 m4 m5 m6 f0 f1 f2 f3 f4 f5 f6 z0d z1d
                obtain ⟨m0, m1, m2, m3, m4, m5, m6⟩ := cells7 BXf.out.2.1
                obtain ⟨n0, n1, n2, n3, n4, n5, n6⟩ := cells7 BXf.out.1
                obtain ⟨g0, g1, g2, g3, g4, g5, g6⟩ := frz7 BXf.out.1
                simp only at m0 m1 m2 m3 m4 m5 m6
                go_wp2_with fail
                (try rw [Exit.noGoto_ret])
                refine call_ret2 (c := ⟨3, a, b, ⟨#[]⟩, 0, 0, []⟩) rfl _ _ W.heap.size (.slice none 0 0) true rfl rfl rfl (s7_row BXf.out.1) ?_
                exact CallR.goodC HNO.out rfl BXf.out
              · have HNO := Lib.hid (show callN (f :: r) = none by
                  rw [HHIT.out]
                  unfold kindN keyN
                  rw [if_pos (by decide), hv]
                  match vs, h2 with
                  | [], _ => rfl
                  | [_], _ => rfl
                  | [_, _], h => exact absurd rfl h
                  | _ :: _ :: _ :: _, _ => rfl)
                have hd : ((((vs.length : Nat) : Int)) != 2) = true := by simp; omega
                clear ho hv h2 hrd
                go_wp2_with fail
                (try rw [Exit.noGoto_ret])
                refine call_ret2 (c := zeroCl) rfl _ _ W.heap.size (.slice none 0 0) false rfl rfl rfl (s7_row BX3.out.1) ?_
                exact CallR.badC HNO.out BX3.out zeroCl none 0 0
            · have HNO := Lib.hid (show callN (f :: r) = none by
                rw [HHIT.out]
                unfold kindN keyN
                rw [if_pos (by decide), hv])
              clear hv
              go_wp2_with fail
              (try rw [Exit.noGoto_ret])
              refine call_ret2 (c := zeroCl) rfl _ _ W.heap.size (.slice none 0 0) false rfl rfl rfl (s7_row BX3.out.1) ?_
              exact CallR.badC HNO.out BX3.out zeroCl none 0 0
          · go_upto_region 5 with fail
            refine wp_region_held_drew (S := fun w' => w' = x1.drew) (by kernel_rfl) rfl (fun hHeld => ?_)
            refine wpAnyH_take (i := 0) (v := ?v61) rfl (by kernel_rfl) (by kernel_rfl) (by kernel_rfl) (fun _ _ _ h => h) (Or.inl ⟨by kernel_rfl, ?hy61⟩) (by assumption) ?rest61
            case hy61 => intro w hSw; (try dsimp only at hSw); subst hSw; go_simp; (first | done | with_reducible rfl)
            (try simp only [Act.put, List.getElem_toArray, List.getElem_cons_zero, List.getElem_cons_succ, List.setIfInBounds_toArray, List.set_cons_zero, List.set_cons_succ])
            refine wpAnyH_take (i := 2) (v := ?v62) rfl (by kernel_rfl) (by kernel_rfl) (by kernel_rfl) (fun _ _ _ h => h) (Or.inl ⟨by kernel_rfl, ?hy62⟩) (by assumption) ?rest62
            case hy62 => intro w hSw; (try dsimp only at hSw); subst hSw; go_simp; (first | done | with_reducible rfl)
            (try simp only [Act.put, List.getElem_toArray, List.getElem_cons_zero, List.getElem_cons_succ, List.setIfInBounds_toArray, List.set_cons_zero, List.set_cons_succ])
            refine wpAnyH_take (i := 3) (v := ?v63) rfl (by kernel_rfl) (by kernel_rfl) (by kernel_rfl) (fun _ _ _ h => h) (Or.inl ⟨by kernel_rfl, ?hy63⟩) (by assumption) ?rest63
            case hy63 => intro w hSw; (try dsimp only at hSw); subst hSw; go_simp; (first | done | with_reducible rfl)
            (try simp only [Act.put, List.getElem_toArray, List.getElem_cons_zero, List.getElem_cons_succ, List.setIfInBounds_toArray, List.set_cons_zero, List.set_cons_succ])
            refine wpAnyH_take (i := 4) (v := ?v64) rfl (by kernel_rfl) (by kernel_rfl) (by kernel_rfl) (fun _ _ _ h => h) (Or.inl ⟨by kernel_rfl, ?hy64⟩) (by assumption) ?rest64
            case hy64 => intro w hSw; (try dsimp only at hSw); subst hSw; go_simp; (first | done | with_reducible rfl)
            (try simp only [Act.put, List.getElem_toArray, List.getElem_cons_zero, List.getElem_cons_succ, List.setIfInBounds_toArray, List.set_cons_zero, List.set_cons_succ])
            refine wpAnyH_ready (rs := [1]) (by kernel_rfl) (by simp) ?_
            refine AllReadyH.cons rfl (fun K hK => ?_) AllReadyH.nil
            go_simp
            go_at_call 19
            with_reducible refine HWD.out.mono ?_
            rintro e x2 ⟨rfl, rfl⟩
            (try go_wp2_with fail)
            refine hK.out _ _ rfl (fun hHeld2 => ?_)
            clear hK K hHeld
            have hHeld := hHeld2
            clear hHeld2
            (try simp only [Act.put, List.getElem_toArray, List.getElem_cons_zero, List.getElem_cons_succ, List.setIfInBounds_toArray, List.set_cons_zero, List.set_cons_succ])
            refine wpAnyH_take (i := 5) (v := ?v65) rfl (by kernel_rfl) (by kernel_rfl) (by kernel_rfl) (fun _ _ _ h => h) (Or.inl ⟨by kernel_rfl, ?hy65⟩) (by assumption) ?rest65
            case hy65 => intro w hSw; (try dsimp only at hSw); subst hSw; go_simp; (first | done | with_reducible rfl)
            (try simp only [Act.put, List.getElem_toArray, List.getElem_cons_zero, List.getElem_cons_succ, List.setIfInBounds_toArray, List.set_cons_zero, List.set_cons_succ])
            refine wpAnyH_done (by kernel_rfl) ?_ _
            obtain ⟨xd, hxd⟩ : ∃ xd, x1.drew = xd := ⟨_, rfl⟩
            have BXd := Lib.hid (show BxC W zeroCl (.slice none 0 0) xd by rw [← hxd]; exact HB.out.drew)
            rw [hxd]
            clear hxd hcf hcd HWD hq1 HNF HB HQ HQ7 HF
            obtain ⟨m0, m1, m2, m3, m4, m5, m6⟩ := cells7 BXd.out.2.1
            obtain ⟨f0, f1, f2, f3, f4, f5, f6⟩ := frz7 BXd.out.2.1
            go_upto_region 7 with fail
            obtain ⟨xk, hxk⟩ : ∃ xk, xd.setCell ⟨W.heap.size + 1, 0, none⟩ (.int .i64 4) = xk := ⟨_, rfl⟩
            have BXk := Lib.hid (show BxC W (oldCl 4) (.slice none 0 0) xk by rw [← hxk]; exact BXd.out.kd 4)
            rw [hxk]
            clear hxk m0 m1 m2 m3 m4 m5 m6 f0 f1 f2 f3 f4 f5 f6 BXd
            obtain ⟨m0, m1, m2, m3, m4, m5, m6⟩ := cells7 BXk.out.2.1
            obtain ⟨f0, f1, f2, f3, f4, f5, f6⟩ := frz7 BXk.out.2.1
            obtain ⟨n0, n1, n2, n3, n4, n5, n6⟩ := cells7 BXk.out.1
            obtain ⟨g0, g1, g2, g3, g4, g5, g6⟩ := frz7 BXk.out.1
            simp only [oldCl] at m0 m1 m2 m3 m4 m5 m6
            have IC := Lib.hid (sc_fromHex _ r xk (HRS.out.below BXk.out.2.2.2) (by have := HN.out; omega) HL.out)
            go_wp2_with fail
            refine IC.out.mono ?_
            rintro e x3 ⟨rfl, hb3⟩
            have BX3 := Lib.hid (BXk.out.below hb3)
            clear hb3 m0 m1 m2 m3 m4 m5 m6 f0 f1 f2 f3 f4 f5 f6 n0 n1 n2 n3 n4 n5 n6 g0 g1 g2 g3 g4 g5 g6
            obtain ⟨t, ht⟩ : ∃ t : ByteArray, (⟨((hexN r).getD []).toArray⟩ : ByteArray) = t := ⟨_, rfl⟩
            obtain ⟨ok, hok⟩ : ∃ ok, (hexN r).isSome = ok := ⟨_, rfl⟩
            have HNO := Lib.hid (show callN (f :: r) = if ok then some ⟨4, 0, 0, t, 0, 0, []⟩ else none by
              rw [HHIT.out, ← ht, ← hok]
              show txtN r = _
              rw [txt_hex]
              cases hexN r <;> rfl)
            rw [ht, hok]
            clear ht hok
            obtain ⟨m0, m1, m2, m3, m4, m5, m6⟩ := cells7 BX3.out.2.1
            obtain ⟨f0, f1, f2, f3, f4, f5, f6⟩ := frz7 BX3.out.2.1
            go_upto_region 19 with fail
            obtain ⟨w3, hw3⟩ : ∃ w3, (x3.setCell ⟨W.heap.size + 1, 3, none⟩ (.string t)) = w3 := ⟨_, rfl⟩
            have BXf := Lib.hid (show BxC W ⟨4, 0, 0, t, 0, 0, []⟩ (.slice none 0 0) w3 by rw [← hw3]; exact BX3.out.s3 t)
            rw [hw3]
            clear hw3 m0 m1 m2 m3 m4 m5 m6 f0 f1 f2 f3 f4 f5 f6
            obtain ⟨m0, m1, m2, m3, m4, m5, m6⟩ := cells7 BXf.out.2.1
            obtain ⟨n0, n1, n2, n3, n4, n5, n6⟩ := cells7 BXf.out.1
            obtain ⟨g0, g1, g2, g3, g4, g5, g6⟩ := frz7 BXf.out.1
            simp only at m0 m1 m2 m3 m4 m5 m6
            go_wp2_with fail
            (try rw [Exit.noGoto_ret])
            refine call_ret2 (c := ⟨4, 0, 0, t, 0, 0, []⟩) rfl _ _ W.heap.size (.slice none 0 0) ok rfl rfl rfl (s7_row BXf.out.1) ?_
            exact CallR.bool HNO.out rfl BXf.out
          · go_upto_region 5 with fail
            refine wp_region_held_drew (S := fun w' => w' = x1.drew) (by kernel_rfl) rfl (fun hHeld => ?_)
            refine wpAnyH_take (i := 0) (v := ?v66) rfl (by kernel_rfl) (by kernel_rfl) (by kernel_rfl) (fun _ _ _ h => h) (Or.inl ⟨by kernel_rfl, ?hy66⟩) (by assumption) ?rest66
            case hy66 => intro w hSw; (try dsimp only at hSw); subst hSw; go_simp; (first | done | with_reducible rfl)
            (try simp only [Act.put, List.getElem_toArray, List.getElem_cons_zero, List.getElem_cons_succ, List.setIfInBounds_toArray, List.set_cons_zero, List.set_cons_succ])
            refine wpAnyH_take (i := 2) (v := ?v67) rfl (by kernel_rfl) (by kernel_rfl) (by kernel_rfl) (fun _ _ _ h => h) (Or.inl ⟨by kernel_rfl, ?hy67⟩) (by assumption) ?rest67
            case hy67 => intro w hSw; (try dsimp only at hSw); subst hSw; go_simp; (first | done | with_reducible rfl)
            (try simp only [Act.put, List.getElem_toArray, List.getElem_cons_zero, List.getElem_cons_succ, List.setIfInBounds_toArray, List.set_cons_zero, List.set_cons_succ])
            refine wpAnyH_take (i := 3) (v := ?v68) rfl (by kernel_rfl) (by kernel_rfl) (by kernel_rfl) (fun _ _ _ h => h) (Or.inl ⟨by kernel_rfl, ?hy68⟩) (by assumption) ?rest68
            case hy68 => intro w hSw; (try dsimp only at hSw); subst hSw; go_simp; (first | done | with_reducible rfl)
            (try simp only [Act.put, List.getElem_toArray, List.getElem_cons_zero, List.getElem_cons_succ, List.setIfInBounds_toArray, List.set_cons_zero, List.set_cons_succ])
            refine wpAnyH_take (i := 4) (v := ?v69) rfl (by kernel_rfl) (by kernel_rfl) (by kernel_rfl) (fun _ _ _ h => h) (Or.inl ⟨by kernel_rfl, ?hy69⟩) (by assumption) ?rest69
            case hy69 => intro w hSw; (try dsimp only at hSw); subst hSw; go_simp; (first | done | with_reducible rfl)
            (try simp only [Act.put, List.getElem_toArray, List.getElem_cons_zero, List.getElem_cons_succ, List.setIfInBounds_toArray, List.set_cons_zero, List.set_cons_succ])
            refine wpAnyH_ready (rs := [1]) (by kernel_rfl) (by simp) ?_
            refine AllReadyH.cons rfl (fun K hK => ?_) AllReadyH.nil
            go_simp
            go_at_call 19
            with_reducible refine HWD.out.mono ?_
            rintro e x2 ⟨rfl, rfl⟩
            (try go_wp2_with fail)
            refine hK.out _ _ rfl (fun hHeld2 => ?_)
            clear hK K hHeld
            have hHeld := hHeld2
            clear hHeld2
            (try simp only [Act.put, List.getElem_toArray, List.getElem_cons_zero, List.getElem_cons_succ, List.setIfInBounds_toArray, List.set_cons_zero, List.set_cons_succ])
            refine wpAnyH_take (i := 5) (v := ?v70) rfl (by kernel_rfl) (by kernel_rfl) (by kernel_rfl) (fun _ _ _ h => h) (Or.inl ⟨by kernel_rfl, ?hy70⟩) (by assumption) ?rest70
            case hy70 => intro w hSw; (try dsimp only at hSw); subst hSw; go_simp; (first | done | with_reducible rfl)
            (try simp only [Act.put, List.getElem_toArray, List.getElem_cons_zero, List.getElem_cons_succ, List.setIfInBounds_toArray, List.set_cons_zero, List.set_cons_succ])
            refine wpAnyH_done (by kernel_rfl) ?_ _
            obtain ⟨xd, hxd⟩ : ∃ xd, x1.drew = xd := ⟨_, rfl⟩
            have BXd := Lib.hid (show BxC W zeroCl (.slice none 0 0) xd by rw [← hxd]; exact HB.out.drew)
            rw [hxd]
            clear hxd hcf hcd HWD hq1 HNF HB HQ HQ7 HF
            obtain ⟨m0, m1, m2, m3, m4, m5, m6⟩ := cells7 BXd.out.2.1
            obtain ⟨f0, f1, f2, f3, f4, f5, f6⟩ := frz7 BXd.out.2.1
            go_upto_region 7 with fail
            obtain ⟨xk, hxk⟩ : ∃ xk, xd.setCell ⟨W.heap.size + 1, 0, none⟩ (.int .i64 5) = xk := ⟨_, rfl⟩
            have BXk := Lib.hid (show BxC W (oldCl 5) (.slice none 0 0) xk by rw [← hxk]; exact BXd.out.kd 5)
            rw [hxk]
            clear hxk m0 m1 m2 m3 m4 m5 m6 f0 f1 f2 f3 f4 f5 f6 BXd
            obtain ⟨m0, m1, m2, m3, m4, m5, m6⟩ := cells7 BXk.out.2.1
            obtain ⟨f0, f1, f2, f3, f4, f5, f6⟩ := frz7 BXk.out.2.1
            obtain ⟨n0, n1, n2, n3, n4, n5, n6⟩ := cells7 BXk.out.1
            obtain ⟨g0, g1, g2, g3, g4, g5, g6⟩ := frz7 BXk.out.1
            simp only [oldCl] at m0 m1 m2 m3 m4 m5 m6
            have HNO := Lib.hid (show ∀ b : Bool, b = decide (r.length = 0) → callN (f :: r) = if b then some (oldCl 5) else none from fun b hb => by
              rw [HHIT.out, hb]
              show (if r = [] then _ else none) = _
              by_cases hr : r = []
              · rw [if_pos hr, hr]; rfl
              · rw [if_neg hr, decide_eq_false (fun h => hr (List.length_eq_zero_iff.1 h))]; rfl)
            go_wp2_with fail
            (try rw [Exit.noGoto_ret])
            refine call_ret2 (c := oldCl 5) (b := ?bb5_70) rfl _ _ W.heap.size (.slice none 0 0) rfl ?hb5_70 rfl (s7_row BXk.out.1) ?_
            case hb5_70 => rfl
            refine CallR.bool (HNO.out _ ?_) rfl BXk.out
            first | rfl | (simp [*]; done) | (rw [Bool.eq_iff_iff]; simp; done) | (rw [Bool.eq_iff_iff]; simp; omega) | (cases r <;> simp; done) | (cases r <;> rfl)
          · go_upto_region 5 with fail
            refine wp_region_held_drew (S := fun w' => w' = x1.drew) (by kernel_rfl) rfl (fun hHeld => ?_)
            refine wpAnyH_take (i := 0) (v := ?v71) rfl (by kernel_rfl) (by kernel_rfl) (by kernel_rfl) (fun _ _ _ h => h) (Or.inl ⟨by kernel_rfl, ?hy71⟩) (by assumption) ?rest71
            case hy71 => intro w hSw; (try dsimp only at hSw); subst hSw; go_simp; (first | done | with_reducible rfl)
            (try simp only [Act.put, List.getElem_toArray, List.getElem_cons_zero, List.getElem_cons_succ, List.setIfInBounds_toArray, List.set_cons_zero, List.set_cons_succ])
            refine wpAnyH_take (i := 2) (v := ?v72) rfl (by kernel_rfl) (by kernel_rfl) (by kernel_rfl) (fun _ _ _ h => h) (Or.inl ⟨by kernel_rfl, ?hy72⟩) (by assumption) ?rest72
            case hy72 => intro w hSw; (try dsimp only at hSw); subst hSw; go_simp; (first | done | with_reducible rfl)
            (try simp only [Act.put, List.getElem_toArray, List.getElem_cons_zero, List.getElem_cons_succ, List.setIfInBounds_toArray, List.set_cons_zero, List.set_cons_succ])
            refine wpAnyH_take (i := 3) (v := ?v73) rfl (by kernel_rfl) (by kernel_rfl) (by kernel_rfl) (fun _ _ _ h => h) (Or.inl ⟨by kernel_rfl, ?hy73⟩) (by assumption) ?rest73
            case hy73 => intro w hSw; (try dsimp only at hSw); subst hSw; go_simp; (first | done | with_reducible rfl)
            (try simp only [Act.put, List.getElem_toArray, List.getElem_cons_zero, List.getElem_cons_succ, List.setIfInBounds_toArray, List.set_cons_zero, List.set_cons_succ])
            refine wpAnyH_take (i := 4) (v := ?v74) rfl (by kernel_rfl) (by kernel_rfl) (by kernel_rfl) (fun _ _ _ h => h) (Or.inl ⟨by kernel_rfl, ?hy74⟩) (by assumption) ?rest74
            case hy74 => intro w hSw; (try dsimp only at hSw); subst hSw; go_simp; (first | done | with_reducible rfl)
            (try simp only [Act.put, List.getElem_toArray, List.getElem_cons_zero, List.getElem_cons_succ, List.setIfInBounds_toArray, List.set_cons_zero, List.set_cons_succ])
            refine wpAnyH_ready (rs := [1]) (by kernel_rfl) (by simp) ?_
            refine AllReadyH.cons rfl (fun K hK => ?_) AllReadyH.nil
            go_simp
            go_at_call 19
            with_reducible refine HWD.out.mono ?_
            rintro e x2 ⟨rfl, rfl⟩
            (try go_wp2_with fail)
            refine hK.out _ _ rfl (fun hHeld2 => ?_)
            clear hK K hHeld
            have hHeld := hHeld2
            clear hHeld2
            (try simp only [Act.put, List.getElem_toArray, List.getElem_cons_zero, List.getElem_cons_succ, List.setIfInBounds_toArray, List.set_cons_zero, List.set_cons_succ])
            refine wpAnyH_take (i := 5) (v := ?v75) rfl (by kernel_rfl) (by kernel_rfl) (by kernel_rfl) (fun _ _ _ h => h) (Or.inl ⟨by kernel_rfl, ?hy75⟩) (by assumption) ?rest75
            case hy75 => intro w hSw; (try dsimp only at hSw); subst hSw; go_simp; (first | done | with_reducible rfl)
            (try simp only [Act.put, List.getElem_toArray, List.getElem_cons_zero, List.getElem_cons_succ, List.setIfInBounds_toArray, List.set_cons_zero, List.set_cons_succ])
            refine wpAnyH_done (by kernel_rfl) ?_ _
            obtain ⟨xd, hxd⟩ : ∃ xd, x1.drew = xd := ⟨_, rfl⟩
            have BXd := Lib.hid (show BxC W zeroCl (.slice none 0 0) xd by rw [← hxd]; exact HB.out.drew)
            rw [hxd]
            clear hxd hcf hcd HWD hq1 HNF HB HQ HQ7 HF
            obtain ⟨m0, m1, m2, m3, m4, m5, m6⟩ := cells7 BXd.out.2.1
            obtain ⟨f0, f1, f2, f3, f4, f5, f6⟩ := frz7 BXd.out.2.1
            go_upto_region 7 with fail
            obtain ⟨xk, hxk⟩ : ∃ xk, xd.setCell ⟨W.heap.size + 1, 0, none⟩ (.int .i64 6) = xk := ⟨_, rfl⟩
            have BXk := Lib.hid (show BxC W (oldCl 6) (.slice none 0 0) xk by rw [← hxk]; exact BXd.out.kd 6)
            rw [hxk]
            clear hxk m0 m1 m2 m3 m4 m5 m6 f0 f1 f2 f3 f4 f5 f6 BXd
            obtain ⟨m0, m1, m2, m3, m4, m5, m6⟩ := cells7 BXk.out.2.1
            obtain ⟨f0, f1, f2, f3, f4, f5, f6⟩ := frz7 BXk.out.2.1
            obtain ⟨n0, n1, n2, n3, n4, n5, n6⟩ := cells7 BXk.out.1
            obtain ⟨g0, g1, g2, g3, g4, g5, g6⟩ := frz7 BXk.out.1
            simp only [oldCl] at m0 m1 m2 m3 m4 m5 m6
            have IC := Lib.hid (sc_ofHandle 6 (by decide) _ r xk (HRS.out.below BXk.out.2.2.2) (by have := HN.out; omega) HL.out (HE0.out.below BXk.out.2.2.2) (pow10_bel HT0.out BXk.out.2.2.2))
            unfold oldCl Cl.val at IC
            simp only at IC
            have HNO := Lib.hid (show callN (f :: r) = ofN 6 r from HHIT.out)
            go_wp2_with fail
            refine IC.out.mono ?_
            rintro e x3 ⟨hi, hb3⟩
            have BX3 := Lib.hid (BXk.out.below hb3)
            have HKS := Lib.hid BXk.out.2.2.2.size
            clear hb3 m0 m1 m2 m3 m4 m5 m6 f0 f1 f2 f3 f4 f5 f6 n0 n1 n2 n3 n4 n5 n6 g0 g1 g2 g3 g4 g5 g6
            obtain ⟨n0, n1, n2, n3, n4, n5, n6⟩ := cells7 BX3.out.1
            obtain ⟨g0, g1, g2, g3, g4, g5, g6⟩ := frz7 BX3.out.1
            rcases hi with ⟨d, xv, hd, rfl, ho⟩ | ⟨hd, d, pp, pn, pk, rfl⟩
            · obtain ⟨pp, pk, rfl, -, -, -⟩ := ho.shape
              have HO := Lib.hid ho
              have HD := Lib.hid (HNO.out.trans hd)
              have HOK2 := Lib.hid BXk.out.2.2.1
              clear ho hd
              unfold Cl.val
              go_wp2_with fail
              (try rw [Exit.noGoto_ret])
              refine call_ret2 (c := d) rfl _ _ W.heap.size (.slice pp d.xs.length pk) true rfl rfl rfl (s7_row BX3.out.1) ?_
              exact ⟨.inl ⟨d, _, HD.out, rfl, own_lim (own_s7 HO.out (by have := HOK2.out; omega) _ _ _ _ _ _ _) HKS.out⟩, s7_below BX3.out.2.2.2 (Nat.le_refl _)⟩
            · have HD := Lib.hid (HNO.out.trans hd)
              clear hd
              unfold Cl.val
              go_wp2_with fail
              (try rw [Exit.noGoto_ret])
              refine call_ret2 (c := d) rfl _ _ W.heap.size (.slice pp pn pk) false rfl rfl rfl (s7_row BX3.out.1) ?_
              exact CallR.badC HD.out BX3.out d pp pn pk
          · go_upto_region 5 with fail
            refine wp_region_held_drew (S := fun w' => w' = x1.drew) (by kernel_rfl) rfl (fun hHeld => ?_)
            refine wpAnyH_take (i := 0) (v := ?v76) rfl (by kernel_rfl) (by kernel_rfl) (by kernel_rfl) (fun _ _ _ h => h) (Or.inl ⟨by kernel_rfl, ?hy76⟩) (by assumption) ?rest76
            case hy76 => intro w hSw; (try dsimp only at hSw); subst hSw; go_simp; (first | done | with_reducible rfl)
            (try simp only [Act.put, List.getElem_toArray, List.getElem_cons_zero, List.getElem_cons_succ, List.setIfInBounds_toArray, List.set_cons_zero, List.set_cons_succ])
            refine wpAnyH_take (i := 2) (v := ?v77) rfl (by kernel_rfl) (by kernel_rfl) (by kernel_rfl) (fun _ _ _ h => h) (Or.inl ⟨by kernel_rfl, ?hy77⟩) (by assumption) ?rest77
            case hy77 => intro w hSw; (try dsimp only at hSw); subst hSw; go_simp; (first | done | with_reducible rfl)
            (try simp only [Act.put, List.getElem_toArray, List.getElem_cons_zero, List.getElem_cons_succ, List.setIfInBounds_toArray, List.set_cons_zero, List.set_cons_succ])
            refine wpAnyH_take (i := 3) (v := ?v78) rfl (by kernel_rfl) (by kernel_rfl) (by kernel_rfl) (fun _ _ _ h => h) (Or.inl ⟨by kernel_rfl, ?hy78⟩) (by assumption) ?rest78
            case hy78 => intro w hSw; (try dsimp only at hSw); subst hSw; go_simp; (first | done | with_reducible rfl)
            (try simp only [Act.put, List.getElem_toArray, List.getElem_cons_zero, List.getElem_cons_succ, List.setIfInBounds_toArray, List.set_cons_zero, List.set_cons_succ])
            refine wpAnyH_take (i := 4) (v := ?v79) rfl (by kernel_rfl) (by kernel_rfl) (by kernel_rfl) (fun _ _ _ h => h) (Or.inl ⟨by kernel_rfl, ?hy79⟩) (by assumption) ?rest79
            case hy79 => intro w hSw; (try dsimp only at hSw); subst hSw; go_simp; (first | done | with_reducible rfl)
            (try simp only [Act.put, List.getElem_toArray, List.getElem_cons_zero, List.getElem_cons_succ, List.setIfInBounds_toArray, List.set_cons_zero, List.set_cons_succ])
            refine wpAnyH_ready (rs := [1]) (by kernel_rfl) (by simp) ?_
            refine AllReadyH.cons rfl (fun K hK => ?_) AllReadyH.nil
            go_simp
            go_at_call 19
            with_reducible refine HWD.out.mono ?_
            rintro e x2 ⟨rfl, rfl⟩
            (try go_wp2_with fail)
            refine hK.out _ _ rfl (fun hHeld2 => ?_)
            clear hK K hHeld
            have hHeld := hHeld2
            clear hHeld2
            (try simp only [Act.put, List.getElem_toArray, List.getElem_cons_zero, List.getElem_cons_succ, List.setIfInBounds_toArray, List.set_cons_zero, List.set_cons_succ])
            refine wpAnyH_take (i := 5) (v := ?v80) rfl (by kernel_rfl) (by kernel_rfl) (by kernel_rfl) (fun _ _ _ h => h) (Or.inl ⟨by kernel_rfl, ?hy80⟩) (by assumption) ?rest80
            case hy80 => intro w hSw; (try dsimp only at hSw); subst hSw; go_simp; (first | done | with_reducible rfl)
            (try simp only [Act.put, List.getElem_toArray, List.getElem_cons_zero, List.getElem_cons_succ, List.setIfInBounds_toArray, List.set_cons_zero, List.set_cons_succ])
            refine wpAnyH_done (by kernel_rfl) ?_ _
            obtain ⟨xd, hxd⟩ : ∃ xd, x1.drew = xd := ⟨_, rfl⟩
            have BXd := Lib.hid (show BxC W zeroCl (.slice none 0 0) xd by rw [← hxd]; exact HB.out.drew)
            rw [hxd]
            clear hxd hcf hcd HWD hq1 HNF HB HQ HQ7 HF
            obtain ⟨m0, m1, m2, m3, m4, m5, m6⟩ := cells7 BXd.out.2.1
            obtain ⟨f0, f1, f2, f3, f4, f5, f6⟩ := frz7 BXd.out.2.1
            go_upto_region 7 with fail
            obtain ⟨xk, hxk⟩ : ∃ xk, xd.setCell ⟨W.heap.size + 1, 0, none⟩ (.int .i64 7) = xk := ⟨_, rfl⟩
            have BXk := Lib.hid (show BxC W (oldCl 7) (.slice none 0 0) xk by rw [← hxk]; exact BXd.out.kd 7)
            rw [hxk]
            clear hxk m0 m1 m2 m3 m4 m5 m6 f0 f1 f2 f3 f4 f5 f6 BXd
            obtain ⟨m0, m1, m2, m3, m4, m5, m6⟩ := cells7 BXk.out.2.1
            obtain ⟨f0, f1, f2, f3, f4, f5, f6⟩ := frz7 BXk.out.2.1
            obtain ⟨n0, n1, n2, n3, n4, n5, n6⟩ := cells7 BXk.out.1
            obtain ⟨g0, g1, g2, g3, g4, g5, g6⟩ := frz7 BXk.out.1
            simp only [oldCl] at m0 m1 m2 m3 m4 m5 m6
            have IC := Lib.hid (sc_ofHandle 7 (by decide) _ r xk (HRS.out.below BXk.out.2.2.2) (by have := HN.out; omega) HL.out (HE0.out.below BXk.out.2.2.2) (pow10_bel HT0.out BXk.out.2.2.2))
            unfold oldCl Cl.val at IC
            simp only at IC
            have HNO := Lib.hid (show callN (f :: r) = ofN 7 r from HHIT.out)
            go_wp2_with fail
            refine IC.out.mono ?_
            rintro e x3 ⟨hi, hb3⟩
            have BX3 := Lib.hid (BXk.out.below hb3)
            have HKS := Lib.hid BXk.out.2.2.2.size
            clear hb3 m0 m1 m2 m3 m4 m5 m6 f0 f1 f2 f3 f4 f5 f6 n0 n1 n2 n3 n4 n5 n6 g0 g1 g2 g3 g4 g5 g6
            obtain ⟨n0, n1, n2, n3, n4, n5, n6⟩ := cells7 BX3.out.1
            obtain ⟨g0, g1, g2, g3, g4, g5, g6⟩ := frz7 BX3.out.1
            rcases hi with ⟨d, xv, hd, rfl, ho⟩ | ⟨hd, d, pp, pn, pk, rfl⟩
            · obtain ⟨pp, pk, rfl, -, -, -⟩ := ho.shape
              have HO := Lib.hid ho
              have HD := Lib.hid (HNO.out.trans hd)
              have HOK2 := Lib.hid BXk.out.2.2.1
              clear ho hd
              unfold Cl.val
              go_wp2_with fail
              (try rw [Exit.noGoto_ret])
              refine call_ret2 (c := d) rfl _ _ W.heap.size (.slice pp d.xs.length pk) true rfl rfl rfl (s7_row BX3.out.1) ?_
              exact ⟨.inl ⟨d, _, HD.out, rfl, own_lim (own_s7 HO.out (by have := HOK2.out; omega) _ _ _ _ _ _ _) HKS.out⟩, s7_below BX3.out.2.2.2 (Nat.le_refl _)⟩
            · have HD := Lib.hid (HNO.out.trans hd)
              clear hd
              unfold Cl.val
              go_wp2_with fail
              (try rw [Exit.noGoto_ret])
              refine call_ret2 (c := d) rfl _ _ W.heap.size (.slice pp pn pk) false rfl rfl rfl (s7_row BX3.out.1) ?_
              exact CallR.badC HD.out BX3.out d pp pn pk
        · have hq1 : (K.toList == s.toList) = false := by
            rw [Lib.toList_data, Lib.toList_data, HSF.out]; exact beq_eq_false_iff_ne.2 heq
          have HNF2 := Lib.hid (show ∀ j : Nat, 1 ≤ j → (j : Int) < q + 1 → (wdK (j : Int)).data.toList ≠ f from fun j h1 h2 => by
            by_cases e : (j : Int) = q
            · rw [e, hK]; exact heq
            · exact HNF.out j h1 (by omega))
          have HBd := Lib.hid HB.out.drew
          have WK := Lib.hid (show wrap64 (q + 1) = q + 1 by have := HQ.out; simp only [wrap64]; omega)
          clear heq hK
          have HQN := Lib.hid (show 1 ≤ q + 1 ∧ q + 1 ≤ 8 by have := HQ.out; have := HQ7.out; omega)
          go_upto_region 5 with fail
          refine wp_region_held_drew (S := fun w' => w' = x1.drew) (by kernel_rfl) rfl (fun hHeld => ?_)
          refine wpAnyH_take (i := 0) (v := ?v41) rfl (by kernel_rfl) (by kernel_rfl) (by kernel_rfl) (fun _ _ _ h => h) (Or.inl ⟨by kernel_rfl, ?hy41⟩) (by assumption) ?rest41
          case hy41 => intro w hSw; (try dsimp only at hSw); subst hSw; go_simp; (first | done | with_reducible rfl)
          (try simp only [Act.put, List.getElem_toArray, List.getElem_cons_zero, List.getElem_cons_succ, List.setIfInBounds_toArray, List.set_cons_zero, List.set_cons_succ])
          refine wpAnyH_take (i := 2) (v := ?v42) rfl (by kernel_rfl) (by kernel_rfl) (by kernel_rfl) (fun _ _ _ h => h) (Or.inl ⟨by kernel_rfl, ?hy42⟩) (by assumption) ?rest42
          case hy42 => intro w hSw; (try dsimp only at hSw); subst hSw; go_simp; (first | done | with_reducible rfl)
          (try simp only [Act.put, List.getElem_toArray, List.getElem_cons_zero, List.getElem_cons_succ, List.setIfInBounds_toArray, List.set_cons_zero, List.set_cons_succ])
          refine wpAnyH_take (i := 3) (v := ?v43) rfl (by kernel_rfl) (by kernel_rfl) (by kernel_rfl) (fun _ _ _ h => h) (Or.inl ⟨by kernel_rfl, ?hy43⟩) (by assumption) ?rest43
          case hy43 => intro w hSw; (try dsimp only at hSw); subst hSw; go_simp; (first | done | with_reducible rfl)
          (try simp only [Act.put, List.getElem_toArray, List.getElem_cons_zero, List.getElem_cons_succ, List.setIfInBounds_toArray, List.set_cons_zero, List.set_cons_succ])
          refine wpAnyH_take (i := 4) (v := ?v44) rfl (by kernel_rfl) (by kernel_rfl) (by kernel_rfl) (fun _ _ _ h => h) (Or.inl ⟨by kernel_rfl, ?hy44⟩) (by assumption) ?rest44
          case hy44 => intro w hSw; (try dsimp only at hSw); subst hSw; go_simp; (first | done | with_reducible rfl)
          (try simp only [Act.put, List.getElem_toArray, List.getElem_cons_zero, List.getElem_cons_succ, List.setIfInBounds_toArray, List.set_cons_zero, List.set_cons_succ])
          refine wpAnyH_ready (rs := [1]) (by kernel_rfl) (by simp) ?_
          refine AllReadyH.cons rfl (fun K hK => ?_) AllReadyH.nil
          go_simp
          go_at_call 19
          with_reducible refine HWD.out.mono ?_
          rintro e x2 ⟨rfl, rfl⟩
          (try go_wp2_with fail)
          refine hK.out _ _ rfl (fun hHeld2 => ?_)
          clear hK K hHeld
          have hHeld := hHeld2
          clear hHeld2
          (try simp only [Act.put, List.getElem_toArray, List.getElem_cons_zero, List.getElem_cons_succ, List.setIfInBounds_toArray, List.set_cons_zero, List.set_cons_succ])
          refine wpAnyH_take (i := 5) (v := ?v45) rfl (by kernel_rfl) (by kernel_rfl) (by kernel_rfl) (fun _ _ _ h => h) (Or.inl ⟨by kernel_rfl, ?hy45⟩) (by assumption) ?rest45
          case hy45 => intro w hSw; (try dsimp only at hSw); subst hSw; go_simp; (first | done | with_reducible rfl)
          (try simp only [Act.put, List.getElem_toArray, List.getElem_cons_zero, List.getElem_cons_succ, List.setIfInBounds_toArray, List.set_cons_zero, List.set_cons_succ])
          refine wpAnyH_done (by kernel_rfl) ?_ _
          go_wp2_with fail
          go_roundw
          case rel => first | (rw [WK.out]; exact ⟨HQN, HNF2⟩) | exact ⟨q + 1, by first | rw [WK.out] | simp, HQN, HNF2, HBd⟩ | (rw [WK.out]; exact ⟨HQN, HNF2, HBd⟩) | exact ⟨HQN, HNF2, HBd⟩ | (simp only [WK.out]; exact ⟨HQN, HNF2, HBd⟩)
          case measure => first | (rw [WK.out]; have := HQ.out; simp only [intOf]; omega) | (have := HQ.out; have := HQ7.out; simp only [intOf]; omega)
      · have HNO := Lib.hid (callN_none (r := r) (f := f) (fun j h1 h2 => HNF.out j h1 (by have := HQ.out; omega)))
        obtain ⟨c0, c1, c2, c3, c4, c5, c6⟩ := cells7 HB.out.1
        obtain ⟨f0, f1, f2, f3, f4, f5, f6⟩ := frz7 HB.out.1
        go_wp2_with fail
        (try rw [Exit.noGoto_ret])
        refine call_ret2 (c := zeroCl) rfl _ _ W.heap.size (.slice none 0 0) false rfl rfl rfl (s7_row HB.out.1) ?_
        exact CallR.badC HNO.out HB.out zeroCl none 0 0
end Go.Proofs.YtoejflnlkapkiaaDoor
