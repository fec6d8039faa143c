/- Put together by program (merge2.py): Men Erf Rhs Rgt Rpt. -/
import Derived.Maps.RangeWalk
import Derived.Deep.DeepCutAuto
import Derived.Deep.CutBlock
import Derived.BigQuiet
import Derived.Test.YtmbcfijhlpeddaaP8
/- wmap: Entries. -/
namespace Go.Proofs.Ytmbcfijhlpeddaa
open Go.ChangeShapes Go.WideShapes Go.ChangeAt Go.RowKit
set_option linter.unusedVariables false
open Go.WideMaps Go.MapKept Go.WideElems Go.ChangeMaps
set_option linter.unusedSimpArgs false
attribute [local go_sem ↓] Go.wp_at_zero Go.wp_at_succ
/-- How many have come, read off the iterator. -/
def mcame (w : World) (r : Nat) : Nat := match w.heap[r]? with
  | some (.mapIter _ _ seen _) => seen.size
  | _ => 0
theorem MIt.came {w : World} {r G : Nat} {vs : List P6} {sn : List Nat} (h : MIt w r G vs sn) : mcame w r = sn.length := by
  unfold mcame; rw [h.r]; simp
theorem box_e (w : World) (a b k n : Int) (s : Value) (T1 T2 T3 : TypeId) : (((w.alloc (.cells #[.int .i64 a, .int .i64 b] T1)).alloc (.cells #[.int .i64 k, .int .i64 n, s] T2)).alloc (.cells #[.int .i64 a, .int .i64 b, .int .i64 k, .int .i64 n, s] T3)).heap[w.heap.size + 1 + 1]? = some (.cells #[.int .i64 a, .int .i64 b, .int .i64 k, .int .i64 n, s] T3 (0, 0)) ∧ Below w.heap.size w (((w.alloc (.cells #[.int .i64 a, .int .i64 b] T1)).alloc (.cells #[.int .i64 k, .int .i64 n, s] T2)).alloc (.cells #[.int .i64 a, .int .i64 b, .int .i64 k, .int .i64 n, s] T3)) := by
  refine ⟨?_, (((Below.refl _ _).alloc (Nat.le_refl _) _).alloc (by simp) _).alloc (by simp; omega) _⟩
  have := heap_alloc_new ((w.alloc (.cells #[.int .i64 a, .int .i64 b] T1)).alloc (.cells #[.int .i64 k, .int .i64 n, s] T2)) (.cells #[.int .i64 a, .int .i64 b, .int .i64 k, .int .i64 n, s] T3)
  simp only [World.size_alloc] at this
  exact this
theorem sn_len {vs : List P6} {sn : List Nat} (hd : sn.Nodup) (hl : ∀ j ∈ sn, j < vs.length) : sn.length ≤ vs.length := by
  have := List.nodup_range (n := vs.length)
  have h2 : sn.length ≤ (List.range vs.length).length := List.Nodup.length_le_of_subset hd (fun j hj => List.mem_range.2 (hl j hj))
  simpa using h2
set_option maxRecDepth 100000 in
set_option maxHeartbeats 8000000 in
theorem w_Entries {L : Nat} (M : Nat) (g : Option Nat) (vs : List P6) (W : World) (hS : MapS W M L g vs) (hn : vs.length ≤ 100000) :
    Calls Try.prog 17 #[.pointer (some ⟨M, 0, none⟩)] W fun e w' => ∃ v', e = .returned v' ∧ RowN w' w'.heap.size v' (sortN (vs.map P6.x)) ∧ Below W.heap.size W w' := by
  obtain ⟨m0, mf⟩ := row1c hS.m
  rcases hS.e with ⟨rfl, rfl⟩ | ⟨G, rfl, hGM, hG⟩
  · obtain ⟨r, hr⟩ : ∃ r, W.heap.size = r := ⟨_, rfl⟩
    have RG := run_range_nilMap (P := Try.prog) W 55 24 34 Try.underlying55
    have RN := run_next_nilMap (P := Try.prog) W 0 0 0 #[]
    obtain ⟨w1, hw1⟩ : ∃ w1, W.alloc (.mapIter none 0 #[] 0) = w1 := ⟨_, rfl⟩
    rw [hw1] at RG RN
    have HB0 := Lib.hid (show Below W.heap.size W w1 by rw [← hw1]; exact (Below.refl _ _).alloc (Nat.le_refl _) _)
    have CE := Lib.hid (entry_sort (.slice none 0 0) [] w1.heap.size w1 (RowN.nought _ _) (Nat.le_refl _) (by simp) (fun e he => by cases he))
    rw [hr] at RG RN
    clear hS hw1 hn
    go_enter Try.func17, Try.ntmps17
    go_wp2_with fail
    go_loopw [3] (fun x wr => x = .slice none 0 0 ∧ w1 = wr) (fun _ _ => 0)
    case atStart => exact ⟨rfl, rfl⟩
    case round =>
      obtain ⟨rfl, rfl⟩ := hrel
      go_wp2_with fail
      refine CE.out.mono ?_
      rintro e w3 ⟨g, rfl, hg, hR3, hB3⟩
      have HR3 := Lib.hid hR3
      have HB3 := Lib.hid (HB0.out.trans (hB3.mono HB0.out.size))
      clear hg hR3 hB3
      go_wp2_with fail
      go_ret
      exact ⟨_, rfl, HR3.out, HB3.out⟩
  · obtain ⟨r, hr⟩ : ∃ r, W.heap.size = r := ⟨_, rfl⟩
    have RG := run_range_map (P := Try.prog) W 55 24 34 G _ _ Try.underlying55 hG
    obtain ⟨w1, hw1⟩ : ∃ w1, W.alloc (.mapIter (some G) vs.length #[] vs.length) = w1 := ⟨_, rfl⟩
    rw [hw1] at RG
    have lG : G < W.heap.size := by
      by_cases hl : G < W.heap.size
      · exact hl
      · rw [Array.getElem?_eq_none (by omega)] at hG; cases hG
    have hS2 := hS
    have HI0 := Lib.hid (show MIt w1 r G vs [] from ⟨by rw [← hw1, ← hr]; exact heap_alloc_new _ _, by rw [← hw1]; exact (((Below.refl W.heap.size W).alloc (Nat.le_refl _) _).block _ lG).trans hG, List.nodup_nil, fun j hj => by cases hj⟩)
    have HB0 := Lib.hid (show Below W.heap.size W w1 by rw [← hw1]; exact (Below.refl _ _).alloc (Nat.le_refl _) _)
    clear hS
    go_enter Try.func17, Try.ntmps17
    go_wp2_with fail
    have hM := Lib.hid hS2
    have RN := Lib.hid mf
    clear m0 mf RG hG hw1
    go_loopw [3] (fun x wr => ∃ (sn : List Nat) (vv : Value), vv = x ∧ Hid (MIt wr r G vs sn) ∧ Hid (OwnE wr W.heap.size (W.heap.size + 1) vv ((came vs sn).map P6.x)) ∧ Hid (Below W.heap.size W wr)) (fun _ wr => vs.length - mcame wr r)
    case atStart => exact ⟨[], _, rfl, HI0, Lib.hid (OwnE.nil _ _ _), HB0⟩
    case round =>
      obtain ⟨sn, vv, rfl, HI, HO, HB⟩ := hrel
      obtain ⟨wu, rfl⟩ : ∃ wu, wu = wr := ⟨_, rfl⟩
      rcases HI.out.next 0 with ⟨hall, hrun⟩ | ⟨j, p, w2, hp, hj, hrun, hm2, hbut, hz2, hent⟩
      · have HP := Lib.hid (came_all HI.out.d HI.out.l hall)
        have HR := Lib.hid (HO.out.rowN (by have := HB.out.size; omega))
        clear hall
        have CE := Lib.hid (entry_sort vv _ wu.heap.size wu HR.out (Nat.le_refl _) (by have := came_len HI.out.l; have := sn_len HI.out.d HI.out.l; rw [List.length_map]; omega) (fun e he => by
          obtain ⟨p, hp, rfl⟩ := List.mem_map.1 he
          obtain ⟨F, q, _, _, _, _, hc⟩ := hM.out.k p (HP.out.subset hp)
          exact hc))
        clear HR
        go_wp2_with fail
        refine CE.out.mono ?_
        rintro e w3 ⟨g, rfl, hg, hR3, hB3⟩
        rw [List.length_map] at hR3
        have HR3 := Lib.hid hR3
        have HB3 := Lib.hid (HB.out.trans (hB3.mono HB.out.size))
        clear hg hR3 hB3
        go_wp2_with fail
        go_ret
        exact ⟨_, rfl, by rw [← sort_came hM.out.d HP.out]; exact HR3.out, HB3.out⟩
      · have Hp := Lib.hid hp
        have Hj := Lib.hid hj
        have HM2 := Lib.hid hm2
        have HBT := Lib.hid hbut
        have HZ2 := Lib.hid hz2
        clear hj hm2 hbut hz2
        have HK := Lib.hid (show Kids wu W.heap.size p.v p.ks from ((hM.out.k p (List.mem_of_getElem? hp)).kids.carry HB.out))
        obtain ⟨pa, pb, pk, pn, pv, pks⟩ := p
        simp only at hrun hent HK
        obtain ⟨sp, sm, sc, rfl, -, -, hsm⟩ := HK.out.shape
        have FIN := Lib.hid (fun (wb : World) (hbb : Below w2.heap.size w2 wb) (v' : Value) (w3 : World) (hO : OwnE w3 W.heap.size (W.heap.size + 1) v' ((came vs sn).map P6.x ++ [⟨pa, pb, pk, pn, pks⟩])) (hg : wb.grownBy w3 vv.ownBlock) => (show MIt w3 r G vs (sn ++ [j]) ∧ OwnE w3 W.heap.size (W.heap.size + 1) v' ((came vs (sn ++ [j])).map P6.x) ∧ Below W.heap.size W w3 ∧ vs.length - mcame w3 r < vs.length - mcame wu r from by
          have hown := HO.out.ownLe
          have hz := HZ2.out
          have hr2 := HB.out.size
          have hlr : r < w2.heap.size := by
            by_cases hl : r < w2.heap.size
            · exact hl
            · have := HM2.out.r; rw [Array.getElem?_eq_none (by omega)] at this; cases this
          have hbz := hbb.size
          have hm3 : MIt w3 r G vs (sn ++ [j]) := HM2.out.but
            ((hg.block r (by omega) (fun e => by have := hown r e.symm; omega)).trans (hbb.block r hlr))
            ((hg.block G (by omega) (fun e => by have := hown G e.symm; omega)).trans (hbb.block G (by omega)))
          refine ⟨hm3, by rw [came_snoc Hp.out, List.map_append]; exact hO, ?_, ?_⟩
          · exact ((HB.out.trans (HBT.out.b _ (by omega) (by omega))).trans (hbb.mono (by omega))).grown hg (by omega) (fun i hi => by have := hown i hi; omega)
          · rw [hm3.came, HI.out.came, List.length_append, List.length_singleton]
            have := sn_len hm3.d hm3.l
            rw [List.length_append, List.length_singleton] at this
            omega))
        have HOB := Lib.hid (fun (wb : World) (hbb : Below w2.heap.size w2 wb) => (show OwnE wb W.heap.size (W.heap.size + 1) vv ((came vs sn).map P6.x) from by
          have hb := HB.out.size
          have hz := HZ2.out
          have h2 : OwnE w2 W.heap.size (W.heap.size + 1) vv ((came vs sn).map P6.x) := by
            have hB2 := HBT.out.b W.heap.size (by omega) (by omega)
            refine HO.out.kept (row := some r) ⟨hB2.os, hB2.tape, hB2.output, by omega, fun i hi hne => HBT.out.o i hi (fun e => hne (by rw [e]))⟩ (.inl (fun e => by have := HO.out.ownLe r e; omega)) hB2
          exact h2.below hbb (by omega)))
        have SRC := Lib.hid (fun (wb : World) (hbb : Below w2.heap.size w2 wb) (Y : Nat) (T : TypeId) (hY : wb.heap[Y]? = some (.cells #[.int .i64 pa, .int .i64 pb, .int .i64 pk, .int .i64 pn, .slice sp sm sc] T (0, 0))) => src1 hY ((HK.out.carry (HBT.out.b _ (by omega) HB.out.size)).carry (hbb.mono (by have := HB.out.size; have := HZ2.out; omega))))
        have LEN := Lib.hid (show ((came vs sn).map P6.x).length + 1 ≤ 1000000 by rw [List.length_map]; have := came_len HI.out.l; have := sn_len HI.out.d HI.out.l; omega)
        have SZ := Lib.hid (show W.heap.size + 1 ≤ w2.heap.size by
          have hlr : r < w2.heap.size := by
            by_cases hl : r < w2.heap.size
            · exact hl
            · have := HM2.out.r; rw [Array.getElem?_eq_none (by omega)] at this; cases this
          omega)
        clear hp
        go_wp2_with (at_builtin; refine wpList_plain rfl fun _ hK => wp_append_e (lim := W.heap.size) (B := W.heap.size + 1) (l2 := [⟨pa, pb, pk, pn, pks⟩]) _ _ rfl rfl (HOB.out _ (box_e w2 _ _ _ _ _ _ _ _).2) rfl rfl (SRC.out _ (box_e w2 _ _ _ _ _ _ _ _).2 _ _ (box_e w2 _ _ _ _ _ _ _ _).1) (by have := SZ.out; simp only [World.size_alloc]; omega) (Nat.le_succ _) LEN.out fun v3 w3 hO3 hg3 => hK _ _ ?_; (
          clear hK
          have FF := Lib.hid (FIN.out _ (box_e w2 _ _ _ _ _ _ _ _).2 v3 w3 hO3 hg3)
          clear hO3 hg3))
        go_roundw
        case rel => exact ⟨sn ++ [j], _, rfl, Lib.hid FF.out.1, Lib.hid FF.out.2.1, Lib.hid FF.out.2.2.1⟩
        case measure => exact FF.out.2.2.2
end Go.Proofs.Ytmbcfijhlpeddaa
/- Reference 24: Ahead. -/
namespace Go.Proofs.Ytmbcfijhlpeddaa
open Go.ChangeShapes Go.WideShapes Go.ChangeAt Go.RowKit
set_option linter.unusedVariables false
set_option linter.unusedSimpArgs false
attribute [local go_sem ↓] Go.wp_at_zero Go.wp_at_succ
set_option maxRecDepth 100000 in
set_option maxHeartbeats 4000000 in
theorem r24_ahead (a b a' b' : Int) (W : World) : Calls Try.prog 30 #[.agg #[.int .i64 a, .int .i64 b], .agg #[.int .i64 a', .int .i64 b']] W fun e w' => e = .returned (.bool (Srt.klt (a, b) (a', b'))) ∧ Below W.heap.size W w' := by
  obtain ⟨w0, hw0, x0, x1, y0, y1, hB0, hs0⟩ := box2k W a b a' b' 24
  have HW0 := Lib.hid hw0.symm
  have HB0 := Lib.hid hB0
  have E := Lib.hid (show Srt.klt (a, b) (a', b') = decide (a < a' ∨ a = a' ∧ b < b') from rfl)
  generalize Srt.klt (a, b) (a', b') = z at *
  clear hw0 hB0 hs0
  rcases Int.lt_trichotomy a a' with h | h | h
  · have d1 : decide (a < a') = true := decide_eq_true h
    have E2 := Lib.hid (show z = true by rw [E.out]; exact decide_eq_true (.inl h))
    go_enter Try.func30, Try.ntmps30
    go_upto_region 1 with fail
    rw [HW0.out]
    go_wp2_with fail
    go_ret
    exact ⟨by rw [E2.out]; rfl, HB0.out⟩
  · have d1 : decide (a < a') = false := decide_eq_false (by omega)
    have d2 : (a == a') = true := by simp [h]
    have E2 := Lib.hid (show z = decide (b < b') by rw [E.out]; exact decide_eq_decide.2 (by omega))
    clear h
    go_enter Try.func30, Try.ntmps30
    go_upto_region 1 with fail
    rw [HW0.out]
    go_wp2_with fail
    go_ret
    exact ⟨by rw [E2.out]; rfl, HB0.out⟩
  · have d1 : decide (a < a') = false := decide_eq_false (by omega)
    have d2 : (a == a') = false := by simp; omega
    have E2 := Lib.hid (show z = false by rw [E.out]; exact decide_eq_false (by omega))
    clear h
    go_enter Try.func30, Try.ntmps30
    go_upto_region 1 with fail
    rw [HW0.out]
    go_wp2_with fail
    go_ret
    exact ⟨by rw [E2.out]; rfl, HB0.out⟩
end Go.Proofs.Ytmbcfijhlpeddaa
/- References 25 and 26: Has, Get. -/
namespace Go.Proofs.Ytmbcfijhlpeddaa
open Go.ChangeShapes Go.WideShapes Go.ChangeAt Go.RowKit
set_option linter.unusedVariables false
set_option linter.unusedSimpArgs false
attribute [local go_sem ↓] Go.wp_at_zero Go.wp_at_succ
/-- Is a key among these? -/
def hasE (l : List En) (a b : Int) : Bool := l.any (fun (e : En) => decide (e.a = a ∧ e.b = b))
theorem hasE_at {l : List En} {a b : Int} {i : Nat} {e : En} (h : l[i]? = some e) (h1 : e.a = a ∧ e.b = b) : hasE l a b = true := by
  unfold hasE
  rw [List.any_eq_true]
  exact ⟨e, List.mem_of_getElem? h, decide_eq_true h1⟩
theorem hasE_not {l : List En} {a b : Int} (h : ∀ (j : Nat) (e : En), l[j]? = some e → ¬ (e.a = a ∧ e.b = b)) : hasE l a b = false := by
  unfold hasE
  rw [List.any_eq_false]
  intro e he
  obtain ⟨j, hj⟩ := List.mem_iff_getElem?.1 he
  simpa using h j e hj
theorem box2e (W : World) (a b : Int) (T : TypeId) : ∃ w0 : World, w0 = W.alloc (.cells #[.int .i64 a, .int .i64 b] T) ∧ w0.cell? ⟨W.heap.size, 0, none⟩ = some (.int .i64 a) ∧ w0.cell? ⟨W.heap.size, 1, none⟩ = some (.int .i64 b) ∧ Below W.heap.size W w0 ∧ w0.heap.size = W.heap.size + 1 := by
  have h1 := heap_alloc_new W (.cells #[.int .i64 a, .int .i64 b] T)
  exact ⟨_, rfl, by rw [cell_of_row _ _ _ _ _ _ h1]; rfl, by rw [cell_of_row _ _ _ _ _ _ h1]; rfl, (Below.refl _ _).alloc (Nat.le_refl _) _, by simp⟩
set_option maxRecDepth 100000 in
set_option maxHeartbeats 8000000 in
theorem r25_has (v : Value) (l : List En) (a b : Int) (lim : Nat) (W : World) (h : RowN W lim v l) (hlim : lim ≤ W.heap.size) (hn : l.length ≤ 100000) :
    Calls Try.prog 25 #[v, .agg #[.int .i64 a, .int .i64 b]] W fun e w' => e = .returned (.bool (hasE l a b)) ∧ Below W.heap.size W w' := by
  obtain ⟨p, c, rfl, hlc, hcm⟩ := h.form
  obtain ⟨n, hnl⟩ : ∃ n, l.length = n := ⟨_, rfl⟩
  rw [hnl] at h hlc hn ⊢
  obtain ⟨w0, hw0, x0, x1, hB0, hs0⟩ := box2e W a b 24
  have HIN := Lib.hid (h.below hlim hB0)
  have HNL := Lib.hid hnl
  have hcc : c ≤ 9223372036854775807 := by unfold maxLen at hcm; omega
  have lX : W.heap.size < w0.heap.size := by omega
  have KX := Lib.hid (fun w' (hb : Below w0.heap.size w0 w') => (show w'.cell? ⟨W.heap.size, 0, none⟩ = some (.int .i64 a) ∧ w'.cell? ⟨W.heap.size, 1, none⟩ = some (.int .i64 b) from
    ⟨(hb.cell (p := ⟨W.heap.size, 0, none⟩) lX).trans x0, (hb.cell (p := ⟨W.heap.size, 1, none⟩) lX).trans x1⟩))
  have HBW := Lib.hid (fun w' (hb : Below w0.heap.size w0 w') => hB0.trans (hb.mono hB0.size))
  have HW0 := Lib.hid hw0.symm
  have HS0 := Lib.hid hs0
  have hlm : lim ≤ w0.heap.size := by omega
  obtain ⟨X, hX⟩ : ∃ X, W.heap.size = X := ⟨_, rfl⟩
  rw [hX] at KX
  have HX := Lib.hid hX
  clear h hnl hcm hw0 hB0 hs0 lX x0 x1
  go_enter Try.func25, Try.ntmps25
  go_upto_region 1 with fail
  rw [HW0.out]
  clear hX
  go_wp2_with fail
  go_loopw [5] (fun j wr => ∃ i : Nat, j = .int .i64 i ∧ i ≤ n ∧ Hid (∀ (j : Nat) (e : En), j < i → l[j]? = some e → ¬ (e.a = a ∧ e.b = b)) ∧ Hid (Below w0.heap.size w0 wr)) (fun j _ => n - (intOf j).toNat)
  case atStart => exact ⟨0, rfl, by omega, Lib.hid (fun j e hj => by omega), Lib.hid (Below.refl _ _)⟩
  case round =>
    obtain ⟨i, rfl, hi, HC, HB⟩ := hrel
    by_cases hlt : i < n
    case neg =>
      obtain rfl : i = n := by omega
      have d1 : decide ((i : Int) < (i : Int)) = false := decide_eq_false (by omega)
      have E := Lib.hid (hasE_not (l := l) (a := a) (b := b) (fun j e hj => HC.out j e (by have := (List.getElem?_eq_some_iff.1 hj).1; have := HNL.out; omega) hj))
      go_wp2_with fail
      go_ret
      exact ⟨by rw [E.out]; rfl, HBW.out _ HB.out⟩
    case pos =>
      have d1 : decide ((i : Int) < (n : Int)) = true := decide_eq_true (by omega)
      have d1' : decide (i < n) = true := decide_eq_true hlt
      have hbz := HB.out.size
      obtain ⟨e, he⟩ : ∃ e, l[i]? = some e := ⟨l[i]'(by have := HNL.out; omega), List.getElem?_eq_getElem (by have := HNL.out; omega)⟩
      obtain ⟨gb, o, rfl, hb, s, y0, y1, y2, y3, y4, hK⟩ := (HIN.out.carry (HB.out.mono hlm)).get he
      have HE := Lib.hid he
      obtain ⟨x0, x1⟩ := KX.out wr HB.out
      obtain ⟨ea, eb, ek, em, eks⟩ := e
      simp only at y0 y1 y2 y3
      have lX : X < wr.heap.size := by have := HX.out; have := HS0.out; omega
      have MK := Lib.hid (fun w' (hb2 : Below wr.heap.size wr w') => (show w'.cell? ⟨gb, o + i * 5, none⟩ = some (.int .i64 ea) ∧ w'.cell? ⟨gb, o + i * 5 + 1, none⟩ = some (.int .i64 eb) ∧ w'.cell? ⟨X, 0, none⟩ = some (.int .i64 a) ∧ w'.cell? ⟨X, 1, none⟩ = some (.int .i64 b) ∧ Below wr.heap.size wr w' from
        ⟨(hb2.cell (p := ⟨gb, o + i * 5, none⟩) (show gb < _ by omega)).trans y0, (hb2.cell (p := ⟨gb, o + i * 5 + 1, none⟩) (show gb < _ by omega)).trans y1, (hb2.cell (p := ⟨X, 0, none⟩) lX).trans x0, (hb2.cell (p := ⟨X, 1, none⟩) lX).trans x1, hb2⟩))
      have hiI : (i : Int) < (n : Int) := by omega
      have hi0 : (0 : Int) ≤ (i : Int) := by omega
      have KE := key_eq ea eb a b
      by_cases hk : ea = a ∧ eb = b
      · rw [decide_eq_true hk] at KE
        have E := Lib.hid (hasE_at HE.out hk)
        clear he hK x0 x1 y0 y1 y2 y3 y4 hb hk
        go_wp2_with fail
        go_region_held3 (fun w' => w'.cell? ⟨gb, o + i * 5, none⟩ = some (.int .i64 ea) ∧ w'.cell? ⟨gb, o + i * 5 + 1, none⟩ = some (.int .i64 eb) ∧ w'.cell? ⟨X, 0, none⟩ = some (.int .i64 a) ∧ w'.cell? ⟨X, 1, none⟩ = some (.int .i64 b) ∧ Below wr.heap.size wr w') (first | exact MK.out _ ((Below.refl _ _).drew) | assumption) (fail)
        rename_i hEnd
        obtain ⟨-, -, -, -, hBB⟩ := hEnd
        have HB2 := Lib.hid (HB.out.trans (hBB.mono HB.out.size))
        clear hBB MK
        go_wp2_with fail
        go_ret
        exact ⟨by rw [E.out]; rfl, HBW.out _ HB2.out⟩
      · rw [decide_eq_false hk] at KE
        have HC2 := Lib.hid (show ∀ (j : Nat) (e : En), j < i + 1 → l[j]? = some e → ¬ (e.a = a ∧ e.b = b) from fun j e hj hje => by
          rcases Nat.lt_or_eq_of_le (Nat.le_of_lt_succ hj) with h | rfl
          · exact HC.out j e h hje
          · rw [HE.out] at hje; cases hje; exact hk)
        clear he hK x0 x1 y0 y1 y2 y3 y4 hb hk
        go_wp2_with fail
        go_region_held3 (fun w' => w'.cell? ⟨gb, o + i * 5, none⟩ = some (.int .i64 ea) ∧ w'.cell? ⟨gb, o + i * 5 + 1, none⟩ = some (.int .i64 eb) ∧ w'.cell? ⟨X, 0, none⟩ = some (.int .i64 a) ∧ w'.cell? ⟨X, 1, none⟩ = some (.int .i64 b) ∧ Below wr.heap.size wr w') (first | exact MK.out _ ((Below.refl _ _).drew) | assumption) (fail)
        rename_i hEnd
        obtain ⟨-, -, -, -, hBB⟩ := hEnd
        have HB2 := Lib.hid (HB.out.trans (hBB.mono HB.out.size))
        clear hBB MK
        go_wp2_with fail
        go_roundw
        case rel => exact ⟨i + 1, by go_num, by omega, HC2, HB2⟩
        case measure => simp only [intOf]; omega
end Go.Proofs.Ytmbcfijhlpeddaa
/- Reference 26: Get. -/
namespace Go.Proofs.Ytmbcfijhlpeddaa
open Go.ChangeShapes Go.WideShapes Go.ChangeAt Go.RowKit
set_option linter.unusedVariables false
set_option linter.unusedSimpArgs false
attribute [local go_sem ↓] Go.wp_at_zero Go.wp_at_succ
/-- What is told of a key of a row. -/
def LookE (l : List En) (a b k n : Int) (ks : Fo) (ok : Bool) : Prop := (ok = true ∧ ∃ e ∈ l, e.a = a ∧ e.b = b ∧ k = e.k ∧ n = e.n ∧ ks = e.ks) ∨ (ok = false ∧ (∀ e ∈ l, ¬ (e.a = a ∧ e.b = b)) ∧ k = 0 ∧ n = 0 ∧ ks = .nil)
set_option maxRecDepth 100000 in
set_option maxHeartbeats 8000000 in
theorem r26_get (v : Value) (l : List En) (a b : Int) (lim : Nat) (W : World) (h : RowN W lim v l) (hlim : lim ≤ W.heap.size) (hn : l.length ≤ 100000) :
    Calls Try.prog 14 #[v, .agg #[.int .i64 a, .int .i64 b]] W fun e w' => ∃ k n v ks ok, e = .returned (.tuple #[.agg #[.int .i64 k, .int .i64 n, v], .bool ok]) ∧ Kids w' lim v ks ∧ LookE l a b k n ks ok ∧ Below W.heap.size W w' := by
  obtain ⟨p, c, rfl, hlc, hcm⟩ := h.form
  obtain ⟨n, hnl⟩ : ∃ n, l.length = n := ⟨_, rfl⟩
  rw [hnl] at h hlc hn ⊢
  obtain ⟨w0, hw0, x0, x1, r0, hB0, hs0⟩ := box2z W a b 24 34
  have HIN := Lib.hid (h.below hlim hB0)
  have HNL := Lib.hid hnl
  have hcc : c ≤ 9223372036854775807 := by unfold maxLen at hcm; omega
  have lX : W.heap.size < w0.heap.size := by omega
  have KX := Lib.hid (fun w' (hb : Below w0.heap.size w0 w') => (show w'.cell? ⟨W.heap.size, 0, none⟩ = some (.int .i64 a) ∧ w'.cell? ⟨W.heap.size, 1, none⟩ = some (.int .i64 b) from
    ⟨(hb.cell (p := ⟨W.heap.size, 0, none⟩) lX).trans x0, (hb.cell (p := ⟨W.heap.size, 1, none⟩) lX).trans x1⟩))
  have HBW := Lib.hid (fun w' (hb : Below w0.heap.size w0 w') => hB0.trans (hb.mono hB0.size))
  have RR := Lib.hid (fun w' (hb : Below w0.heap.size w0 w') => (hb.block (W.heap.size + 1) (by omega)).trans r0)
  have HW0 := Lib.hid hw0.symm
  have HS0 := Lib.hid hs0
  have hlm : lim ≤ w0.heap.size := by omega
  obtain ⟨X, hX⟩ : ∃ X, W.heap.size = X := ⟨_, rfl⟩
  rw [hX] at KX RR
  obtain ⟨R, hR⟩ : ∃ R, X + 1 = R := ⟨_, rfl⟩
  rw [hR] at RR
  have HR := Lib.hid hR
  have HX := Lib.hid hX
  clear h hnl hcm hw0 hB0 hs0 lX x0 x1 r0
  go_enter Try.func14, Try.ntmps14
  go_upto_region 1 with fail
  rw [HW0.out]
  clear hX
  go_wp2_with fail
  go_loopw [6] (fun j wr => ∃ i : Nat, j = .int .i64 i ∧ i ≤ n ∧ Hid (∀ (j : Nat) (e : En), j < i → l[j]? = some e → ¬ (e.a = a ∧ e.b = b)) ∧ Hid (Below w0.heap.size w0 wr)) (fun j _ => n - (intOf j).toNat)
  case atStart => exact ⟨0, rfl, by omega, Lib.hid (fun j e hj => by omega), Lib.hid (Below.refl _ _)⟩
  case round =>
    obtain ⟨i, rfl, hi, HC, HB⟩ := hrel
    by_cases hlt : i < n
    case neg =>
      obtain rfl : i = n := by omega
      have d1 : decide ((i : Int) < (i : Int)) = false := decide_eq_false (by omega)
      have rR := RR.out wr HB.out
      obtain ⟨y0, y1, y2, f0, f1, f2⟩ := row_cells3 rR
      have HZ := Lib.hid (u3_at rR (x := .int .i64 0) (y := .int .i64 0) (z := .slice none 0 0))
      have HBN := Lib.hid (show Below W.heap.size W (u3 wr R (.int .i64 0) (.int .i64 0) (.slice none 0 0)) from (HBW.out _ HB.out).trans (u3_below _ _ _ (by have := HX.out; have := HR.out; omega)))
      have E := Lib.hid (show ∀ e ∈ l, ¬ (e.a = a ∧ e.b = b) from fun e he => by
        obtain ⟨j, hj⟩ := List.mem_iff_getElem?.1 he
        exact HC.out j e (by have := (List.getElem?_eq_some_iff.1 hj).1; have := HNL.out; omega) hj)
      obtain ⟨wn, hwn⟩ : ∃ wn, u3 wr R (.int .i64 0) (.int .i64 0) (.slice none 0 0) = wn := ⟨_, rfl⟩
      rw [hwn] at HZ HBN
      simp only [u3] at hwn
      have HWN := Lib.hid hwn
      clear hwn rR
      go_wp2_with fail
      rw [HWN.out]
      refine bodyPost_ret (res_ct (p := 4) (a := 5) (ty := 34) rfl _ _ _ 34 #[.int .i64 0, .int .i64 0, .slice none 0 0] (0, 0) _ (.bool false) rfl rfl HZ.out Try.underlying34 rfl (by kernel_rfl)) rfl ?_
      exact ⟨0, 0, _, .nil, false, rfl, Kids.nought _ _, .inr ⟨rfl, E.out, rfl, rfl, rfl⟩, HBN.out⟩
    case pos =>
      have d1 : decide ((i : Int) < (n : Int)) = true := decide_eq_true (by omega)
      have d1' : decide (i < n) = true := decide_eq_true hlt
      have hbz := HB.out.size
      obtain ⟨e, he⟩ : ∃ e, l[i]? = some e := ⟨l[i]'(by have := HNL.out; omega), List.getElem?_eq_getElem (by have := HNL.out; omega)⟩
      obtain ⟨gb, o, rfl, hb, s, y0, y1, y2, y3, y4, hK⟩ := (HIN.out.carry (HB.out.mono hlm)).get he
      have HE := Lib.hid he
      obtain ⟨sp, sm, sc, rfl, -, -, hsm⟩ := hK.shape
      have HK := Lib.hid (show Kids wr lim (.slice sp sm sc) _ from hK)
      obtain ⟨x0, x1⟩ := KX.out wr HB.out
      obtain ⟨ea, eb, ek, em, eks⟩ := e
      simp only at y0 y1 y2 y3
      have lX : X < wr.heap.size := by have := HX.out; have := HS0.out; omega
      have MK := Lib.hid (fun w' (hb2 : Below wr.heap.size wr w') => (show w'.cell? ⟨gb, o + i * 5, none⟩ = some (.int .i64 ea) ∧ w'.cell? ⟨gb, o + i * 5 + 1, none⟩ = some (.int .i64 eb) ∧ w'.cell? ⟨X, 0, none⟩ = some (.int .i64 a) ∧ w'.cell? ⟨X, 1, none⟩ = some (.int .i64 b) ∧ Below wr.heap.size wr w' from
        ⟨(hb2.cell (p := ⟨gb, o + i * 5, none⟩) (show gb < _ by omega)).trans y0, (hb2.cell (p := ⟨gb, o + i * 5 + 1, none⟩) (show gb < _ by omega)).trans y1, (hb2.cell (p := ⟨X, 0, none⟩) lX).trans x0, (hb2.cell (p := ⟨X, 1, none⟩) lX).trans x1, hb2⟩))
      have lR : R < wr.heap.size := by have := HX.out; have := HR.out; have := HS0.out; omega
      have M2 := Lib.hid (fun w' (hb2 : Below wr.heap.size wr w') => (show w'.cell? ⟨gb, o + i * 5 + 2, none⟩ = some (.int .i64 ek) ∧ w'.cell? ⟨gb, o + i * 5 + 2 + 1, none⟩ = some (.int .i64 em) ∧ w'.cell? ⟨gb, o + i * 5 + 2 + 2, none⟩ = some (.slice sp sm sc) ∧ w'.heap[R]? = some (.cells #[.int .i64 0, .int .i64 0, .slice none 0 0] 34 (0, 0)) from
        ⟨(hb2.cell (p := ⟨gb, o + i * 5 + 2, none⟩) (show gb < _ by omega)).trans y2, (hb2.cell (p := ⟨gb, o + i * 5 + 3, none⟩) (show gb < _ by omega)).trans y3, (hb2.cell (p := ⟨gb, o + i * 5 + 4, none⟩) (show gb < _ by omega)).trans y4, (hb2.block R lR).trans (RR.out wr HB.out)⟩))
      have hiI : (i : Int) < (n : Int) := by omega
      have hi0 : (0 : Int) ≤ (i : Int) := by omega
      have KE := key_eq ea eb a b
      by_cases hk : ea = a ∧ eb = b
      · rw [decide_eq_true hk] at KE
        have E := Lib.hid hk
        clear he hK x0 x1 y0 y1 y2 y3 y4 hb hk
        go_wp2_with fail
        go_region_held3 (fun w' => w'.cell? ⟨gb, o + i * 5, none⟩ = some (.int .i64 ea) ∧ w'.cell? ⟨gb, o + i * 5 + 1, none⟩ = some (.int .i64 eb) ∧ w'.cell? ⟨X, 0, none⟩ = some (.int .i64 a) ∧ w'.cell? ⟨X, 1, none⟩ = some (.int .i64 b) ∧ Below wr.heap.size wr w') (first | exact MK.out _ ((Below.refl _ _).drew) | assumption) (fail)
        rename_i hEnd
        obtain ⟨-, -, -, -, hBB⟩ := hEnd
        have HB2 := Lib.hid (HB.out.trans (hBB.mono HB.out.size))
        obtain ⟨z2, z3, z4, rR⟩ := M2.out _ hBB
        have HK2 := Lib.hid (HK.out.below (by have := HB.out.size; omega) hBB)
        obtain ⟨wx, hwx⟩ : ∃ wx, wr.drew = wx := ⟨_, rfl⟩
        rw [hwx] at hBB HB2 z2 z3 z4 rR HK2 ⊢
        clear hwx hBB MK M2
        obtain ⟨y0, y1, y2, f0, f1, f2⟩ := row_cells3 rR
        have HZ := Lib.hid (u3_at rR (x := .int .i64 ek) (y := .int .i64 em) (z := .slice sp sm sc))
        have HBN := Lib.hid (show Below W.heap.size W (u3 wx R (.int .i64 ek) (.int .i64 em) (.slice sp sm sc)) from (HBW.out _ HB2.out).trans (u3_below _ _ _ (by have := HX.out; have := HR.out; omega)))
        have HKN := Lib.hid (show Kids (u3 wx R (.int .i64 ek) (.int .i64 em) (.slice sp sm sc)) lim (.slice sp sm sc) eks from HK2.out.carry (u3_below _ _ _ (by have := HX.out; have := HR.out; omega)))
        obtain ⟨wn, hwn⟩ : ∃ wn, u3 wx R (.int .i64 ek) (.int .i64 em) (.slice sp sm sc) = wn := ⟨_, rfl⟩
        rw [hwn] at HZ HBN HKN
        simp only [u3] at hwn
        have HWN := Lib.hid hwn
        clear hwn rR
        go_wp2_with fail
        rw [HWN.out]
        refine bodyPost_ret (res_ct (p := 4) (a := 5) (ty := 34) rfl _ _ _ 34 #[.int .i64 ek, .int .i64 em, .slice sp sm sc] (0, 0) _ (.bool true) rfl rfl HZ.out Try.underlying34 rfl (by kernel_rfl)) rfl ?_
        exact ⟨ek, em, _, eks, true, rfl, HKN.out, .inl ⟨rfl, _, List.mem_of_getElem? HE.out, E.out.1, E.out.2, rfl, rfl, rfl⟩, HBN.out⟩
      · rw [decide_eq_false hk] at KE
        have HC2 := Lib.hid (show ∀ (j : Nat) (e : En), j < i + 1 → l[j]? = some e → ¬ (e.a = a ∧ e.b = b) from fun j e hj hje => by
          rcases Nat.lt_or_eq_of_le (Nat.le_of_lt_succ hj) with h | rfl
          · exact HC.out j e h hje
          · rw [HE.out] at hje; cases hje; exact hk)
        clear he hK x0 x1 y0 y1 y2 y3 y4 hb hk
        go_wp2_with fail
        go_region_held3 (fun w' => w'.cell? ⟨gb, o + i * 5, none⟩ = some (.int .i64 ea) ∧ w'.cell? ⟨gb, o + i * 5 + 1, none⟩ = some (.int .i64 eb) ∧ w'.cell? ⟨X, 0, none⟩ = some (.int .i64 a) ∧ w'.cell? ⟨X, 1, none⟩ = some (.int .i64 b) ∧ Below wr.heap.size wr w') (first | exact MK.out _ ((Below.refl _ _).drew) | assumption) (fail)
        rename_i hEnd
        obtain ⟨-, -, -, -, hBB⟩ := hEnd
        have HB2 := Lib.hid (HB.out.trans (hBB.mono HB.out.size))
        clear hBB MK
        go_wp2_with fail
        go_roundw
        case rel => exact ⟨i + 1, by go_num, by omega, HC2, HB2⟩
        case measure => simp only [intOf]; omega
end Go.Proofs.Ytmbcfijhlpeddaa
/- Reference 26: Put. -/
namespace Go.Proofs.Ytmbcfijhlpeddaa
open Go.ChangeShapes Go.WideShapes Go.ChangeAt Go.RowKit
set_option linter.unusedVariables false
set_option linter.unusedSimpArgs false
attribute [local go_sem ↓] Go.wp_at_zero Go.wp_at_succ
set_option maxRecDepth 100000 in
set_option maxHeartbeats 8000000 in
theorem r26_put (v : Value) (l : List En) (a b k n : Int) (s : Value) (ks : Fo) (lim B : Nat) (W : World) (h : OwnE W lim B v l) (hK : Kids W lim s ks) (hlB : lim ≤ B) (hB : B ≤ W.heap.size) (hn : l.length ≤ 90000) :
    Calls Try.prog 11 #[v, .agg #[.int .i64 a, .int .i64 b, .int .i64 k, .int .i64 n, s]] W fun e w' => ∃ v' z, e = .returned (.tuple #[v', .bool z]) ∧ ((hasE l a b = true ∧ z = false ∧ v' = v) ∨ (hasE l a b = false ∧ z = true ∧ OwnE w' lim W.heap.size v' (l ++ [⟨a, b, k, n, ks⟩]))) ∧ Below W.heap.size W w' := by
  obtain ⟨sp, sm, sc, rfl, -, -, hsm⟩ := hK.shape
  obtain ⟨w0, hw0, r0, hB0, hs0⟩ := box5 W a b k n (.slice sp sm sc) 36
  have hO := h.below hB0 (Nat.le_trans hlB hB)
  have HO := Lib.hid hO
  have CH := Lib.hid (r25_has v l a b w0.heap.size w0 (hO.rowN (by omega)) (Nat.le_refl _) (by omega))
  obtain ⟨x0, x1, x2, x3, x4⟩ := cells5 r0
  have HW0 := Lib.hid hw0.symm
  have HB0 := Lib.hid hB0
  obtain ⟨X, hX⟩ : ∃ X, W.heap.size = X := ⟨_, rfl⟩
  rw [hX] at x0 x1 x2 x3 x4 r0
  have HX := Lib.hid hX
  clear h hw0 hB0
  go_enter Try.func11, Try.ntmps11
  go_upto_region 1 with fail
  rw [HW0.out]
  clear hX
  go_wp2_with fail
  refine CH.out.mono ?_
  rintro e w1 ⟨rfl, hb1⟩
  obtain ⟨z, hz⟩ : ∃ z, hasE l a b = z := ⟨_, rfl⟩
  rw [hz]
  cases z
  case true =>
    have HZ := Lib.hid hz
    have H1 := Lib.hid (HB0.out.trans (hb1.mono HB0.out.size))
    clear hz hb1 x0 x1 x2 x3 x4 r0
    go_wp2_with fail
    go_ret2
    exact ⟨_, _, rfl, .inl ⟨HZ.out, rfl, rfl⟩, H1.out⟩
  case false =>
    have HZ := Lib.hid hz
    have H1 := Lib.hid (HB0.out.trans (hb1.mono HB0.out.size))
    obtain ⟨wc, rfl⟩ : ∃ wc, wc = w1 := ⟨_, rfl⟩
    have HBX := Lib.hid (fun w' (hb' : Below wc.heap.size wc w') => cells5 ((hb'.block X (by have := hb1.size; have := HX.out; omega)).trans ((hb1.block X (by have := HX.out; omega)).trans r0)))
    have MS := Lib.hid (fun w' (hb' : Below wc.heap.size wc w') => (show w'.cell? ⟨X, 0, none⟩ = some (.int .i64 a) ∧ w'.cell? ⟨X, 1, none⟩ = some (.int .i64 b) ∧ w'.cell? ⟨X, 2, none⟩ = some (.int .i64 k) ∧ w'.cell? ⟨X, 3, none⟩ = some (.int .i64 n) ∧ w'.cell? ⟨X, 4, none⟩ = some (.slice sp sm sc) ∧ Below wc.heap.size wc w' from by
      obtain ⟨c0, c1, c2, c3, c4⟩ := HBX.out w' hb'
      exact ⟨c0, c1, c2, c3, c4, hb'⟩))
    have KD := Lib.hid (fun w' (hb' : Below wc.heap.size wc w') => ((hK.carry (HB0.out.mono (Nat.le_trans hlB hB))).carry (hb1.mono (by have := HB0.out.size; omega))).below (show lim ≤ wc.heap.size by have := HB0.out.size; have := hb1.size; omega) hb')
    have hO2 : OwnE wc lim B v l := HO.out.below hb1 (by have := HB0.out.size; omega)
    obtain ⟨vp, vc, rfl, hsrc⟩ : ∃ vp vc, v = .slice vp l.length vc ∧ SrcE wc lim vp l := by
      rcases hO2.form with ⟨rfl, rfl⟩ | ⟨g, c, rfl, _, _, _, _, h3⟩
      · exact ⟨_, _, rfl, fun i e he => by simp at he⟩
      · exact ⟨_, _, rfl, h3⟩
    have ST := Lib.hid (fun w' (hb' : Below wc.heap.size wc w') => (show SrcE w' lim vp l from fun u z hz => by
      have hv := hO2.below hb' (by have := HB0.out.size; have := hb1.size; omega)
      rcases hv.form with ⟨h1, rfl⟩ | ⟨g, c, h1, _, _, _, _, h3⟩
      · simp at hz
      · simp only [Value.slice.injEq] at h1
        rw [h1.1]
        exact h3 u z hz))
    have hlc : lim ≤ wc.heap.size := by have := HB0.out.size; have := hb1.size; omega
    have FIN := Lib.hid (fun (vv : Value) (w' : World) (hO : OwnE w' lim wc.heap.size vv ([] ++ l ++ [⟨a, b, k, n, ks⟩])) => (show OwnE w' lim W.heap.size vv (l ++ [⟨a, b, k, n, ks⟩]) by
      have := hO.mono (B' := W.heap.size) (by have := HB0.out.size; have := hb1.size; omega)
      simpa using this))
    have HBW := H1
    clear hO2 hsrc hb1 hK hsm
    go_wp2_with fail
    refine wp_region_held_drew (S := fun w' => w'.cell? ⟨X, 0, none⟩ = some (.int .i64 a) ∧ w'.cell? ⟨X, 1, none⟩ = some (.int .i64 b) ∧ w'.cell? ⟨X, 2, none⟩ = some (.int .i64 k) ∧ w'.cell? ⟨X, 3, none⟩ = some (.int .i64 n) ∧ w'.cell? ⟨X, 4, none⟩ = some (.slice sp sm sc) ∧ Below wc.heap.size wc w') (by kernel_rfl) ?_ (fun hHeld => ?_)
    · (try dsimp only); exact MS.out _ ((Below.refl _ _).drew)
    refine wpAnyH_take (i := 1) (v := ?v1) rfl (by kernel_rfl) (by kernel_rfl) (by kernel_rfl) (fun _ _ _ h => h) (Or.inl ⟨by kernel_rfl, ?hy1⟩) (by assumption) ?rest1
    case hy1 => intro w hSw; (try dsimp only at hSw); go_simp; (first | done | with_reducible rfl)
    (try simp only [Act.put, List.getElem_toArray, List.getElem_cons_zero, List.getElem_cons_succ, List.setIfInBounds_toArray, List.set_cons_zero, List.set_cons_succ])
    refine wpAnyH_take (i := 3) (v := ?v2) rfl (by kernel_rfl) (by kernel_rfl) (by kernel_rfl) (fun _ _ _ h => h) (Or.inl ⟨by kernel_rfl, ?hy2⟩) (by assumption) ?rest2
    case hy2 => intro w hSw; (try dsimp only at hSw); go_simp; (first | done | with_reducible rfl)
    (try simp only [Act.put, List.getElem_toArray, List.getElem_cons_zero, List.getElem_cons_succ, List.setIfInBounds_toArray, List.set_cons_zero, List.set_cons_succ])
    have HB0 : Hid (Below wc.heap.size wc wc.drew) := Lib.hid ((Below.refl _ _).drew)
    generalize wc.drew = u0 at *
    refine wpAnyH_ready (rs := [0, 4]) (by kernel_rfl) (by simp) ?_
    refine AllReadyH.cons rfl (fun K hK => ?_) (AllReadyH.cons rfl (fun K hK => ?_) AllReadyH.nil)
    · go_simp
      obtain ⟨u1, hu⟩ : ∃ u1, u0.alloc (.cells #[] 36) = u1 := ⟨_, rfl⟩
      have bb : Below u0.heap.size u0 u1 := by rw [← hu]; exact (Below.refl _ _).alloc (Nat.le_refl _) _
      have hn := heap_alloc_new u0 (.cells #[] 36)
      have HZb := Lib.hid (show u1.heap.size = u0.heap.size + 1 by rw [← hu]; simp)
      rw [hu] at hn ⊢
      have HB1 := Lib.hid (HB0.out.trans (bb.mono HB0.out.size))
      have HT := Lib.hid (OwnE.emp (lim := lim) (B := wc.heap.size) hn HB0.out.size)
      clear hu
      refine hK.out _ _ (MS.out _ HB1.out) (fun hHeld2 => ?_)
      clear hK K hHeld
      have hHeld := hHeld2
      clear hHeld2
      (try simp only [Act.put, List.getElem_toArray, List.getElem_cons_zero, List.getElem_cons_succ, List.setIfInBounds_toArray, List.set_cons_zero, List.set_cons_succ])
      refine wpAnyH_ready (rs := [2, 4]) (by kernel_rfl) (by simp) ?_
      refine AllReadyH.cons rfl (fun K hK => ?_) (AllReadyH.cons rfl (fun K hK => ?_) AllReadyH.nil)
      · refine step_plain rfl (wp_append_e _ _ rfl rfl HT.out rfl rfl (ST.out _ HB1.out) (by have := HB1.out.size; omega) hlc (by simp only [List.length_nil]; omega) ?_)
        intro v4 u2 hO hg
        have HB2 := Lib.hid (HB1.out.grown hg HB1.out.size HT.out.ownLe)
        have HO1 := Lib.hid hO
        clear hO hg
        refine hK.out _ _ (MS.out _ HB2.out) (fun hHeld2 => ?_)
        clear hK K hHeld
        have hHeld := hHeld2
        clear hHeld2
        (try simp only [Act.put, List.getElem_toArray, List.getElem_cons_zero, List.getElem_cons_succ, List.setIfInBounds_toArray, List.set_cons_zero, List.set_cons_succ])
        refine wpAnyH_ready (rs := [4]) (by kernel_rfl) (by simp) ?_
        refine AllReadyH.cons rfl (fun K hK => ?_) AllReadyH.nil
        go_simp
        obtain ⟨u3, hu⟩ : ∃ u3, u2.alloc (.cells #[.int .i64 a, .int .i64 b, .int .i64 k, .int .i64 n, .slice sp sm sc] 36) = u3 := ⟨_, rfl⟩
        have bb : Below u2.heap.size u2 u3 := by rw [← hu]; exact (Below.refl _ _).alloc (Nat.le_refl _) _
        have hn := heap_alloc_new u2 (.cells #[.int .i64 a, .int .i64 b, .int .i64 k, .int .i64 n, .slice sp sm sc] 36)
        have HZa := Lib.hid (show u3.heap.size = u2.heap.size + 1 by rw [← hu]; simp)
        rw [hu] at hn ⊢
        have HB3 := Lib.hid (HB2.out.trans (bb.mono HB2.out.size))
        have HY := Lib.hid hn
        have HO1 := Lib.hid (HO1.out.below bb (by have := HB2.out.size; omega))
        refine hK.out _ _ (MS.out _ HB3.out) (fun hHeld2 => ?_)
        clear hK K hHeld
        have hHeld := hHeld2
        clear hHeld2
        (try simp only [Act.put, List.getElem_toArray, List.getElem_cons_zero, List.getElem_cons_succ, List.setIfInBounds_toArray, List.set_cons_zero, List.set_cons_succ])
        refine wpAnyH_ready (rs := [5]) (by kernel_rfl) (by simp) ?_
        refine AllReadyH.cons rfl (fun K hK => ?_) AllReadyH.nil
        refine step_plain rfl (wp_append_e _ _ rfl rfl HO1.out rfl rfl (src1 HY.out (KD.out _ HB3.out)) (by have := HB3.out.size; omega) hlc (by simp only [List.nil_append]; omega) ?_)
        intro v8 u8 hO hg
        have HB4 := Lib.hid (HB3.out.grown hg HB3.out.size HO1.out.ownLe)
        have HO2 := Lib.hid hO
        clear hO hg
        refine hK.out _ _ (MS.out _ HB4.out) (fun hHeld2 => ?_)
        clear hK K hHeld
        have hHeld := hHeld2
        clear hHeld2
        (try simp only [Act.put, List.getElem_toArray, List.getElem_cons_zero, List.getElem_cons_succ, List.setIfInBounds_toArray, List.set_cons_zero, List.set_cons_succ])
        refine wpAnyH_take (i := 6) (v := ?v3) rfl (by kernel_rfl) (by kernel_rfl) (by kernel_rfl) (fun _ _ _ h => h) (Or.inl ⟨by kernel_rfl, ?hy3⟩) (by assumption) ?rest3
        case hy3 => intro w hSw; (try dsimp only at hSw); go_simp; (first | done | with_reducible rfl)
        (try simp only [Act.put, List.getElem_toArray, List.getElem_cons_zero, List.getElem_cons_succ, List.setIfInBounds_toArray, List.set_cons_zero, List.set_cons_succ])
        refine wpAnyH_take (i := 7) (v := ?v4) rfl (by kernel_rfl) (by kernel_rfl) (by kernel_rfl) (fun _ _ _ h => h) (Or.inl ⟨by kernel_rfl, ?hy4⟩) (by assumption) ?rest4
        case hy4 => intro w hSw; (try dsimp only at hSw); go_simp; (first | done | with_reducible rfl)
        (try simp only [Act.put, List.getElem_toArray, List.getElem_cons_zero, List.getElem_cons_succ, List.setIfInBounds_toArray, List.set_cons_zero, List.set_cons_succ])
        refine wpAnyH_done (by kernel_rfl) ?_ _
        go_wp2_with fail
        go_ret2
        exact ⟨_, _, rfl, .inr ⟨HZ.out, rfl, FIN.out _ _ HO2.out⟩, HBW.out.trans (HB4.out.mono HBW.out.size)⟩
      · go_simp
        obtain ⟨u2, hu⟩ : ∃ u2, u1.alloc (.cells #[.int .i64 a, .int .i64 b, .int .i64 k, .int .i64 n, .slice sp sm sc] 36) = u2 := ⟨_, rfl⟩
        have bb : Below u1.heap.size u1 u2 := by rw [← hu]; exact (Below.refl _ _).alloc (Nat.le_refl _) _
        have hn := heap_alloc_new u1 (.cells #[.int .i64 a, .int .i64 b, .int .i64 k, .int .i64 n, .slice sp sm sc] 36)
        have HZc := Lib.hid (show u2.heap.size = u1.heap.size + 1 by rw [← hu]; simp)
        rw [hu] at hn ⊢
        have HB2 := Lib.hid (HB1.out.trans (bb.mono HB1.out.size))
        have HY := Lib.hid hn
        have HTT := Lib.hid (HT.out.below bb (by have := HB1.out.size; omega))
        refine hK.out _ _ (MS.out _ HB2.out) (fun hHeld2 => ?_)
        clear hK K hHeld
        have hHeld := hHeld2
        clear hHeld2
        (try simp only [Act.put, List.getElem_toArray, List.getElem_cons_zero, List.getElem_cons_succ, List.setIfInBounds_toArray, List.set_cons_zero, List.set_cons_succ])
        refine wpAnyH_ready (rs := [2]) (by kernel_rfl) (by simp) ?_
        refine AllReadyH.cons rfl (fun K hK => ?_) AllReadyH.nil
        refine step_plain rfl (wp_append_e _ _ rfl rfl HTT.out rfl rfl (ST.out _ HB2.out) (by have := HB2.out.size; omega) hlc (by simp only [List.length_nil]; omega) ?_)
        intro v4 u3 hO hg
        have HB3 := Lib.hid (HB2.out.grown hg HB2.out.size HTT.out.ownLe)
        have HY3 := Lib.hid ((hg.block _ (by have := HZb.out; have := HZc.out; omega) (fun e => by have := HZb.out; have := HZc.out; have e' := Option.some.inj (show some u1.heap.size = some u0.heap.size from e); omega)).trans HY.out)
        have HO1 := Lib.hid hO
        clear hO hg
        refine hK.out _ _ (MS.out _ HB3.out) (fun hHeld2 => ?_)
        clear hK K hHeld
        have hHeld := hHeld2
        clear hHeld2
        (try simp only [Act.put, List.getElem_toArray, List.getElem_cons_zero, List.getElem_cons_succ, List.setIfInBounds_toArray, List.set_cons_zero, List.set_cons_succ])
        refine wpAnyH_ready (rs := [5]) (by kernel_rfl) (by simp) ?_
        refine AllReadyH.cons rfl (fun K hK => ?_) AllReadyH.nil
        refine step_plain rfl (wp_append_e _ _ rfl rfl HO1.out rfl rfl (src1 HY3.out (KD.out _ HB3.out)) (by have := HB3.out.size; omega) hlc (by simp only [List.nil_append]; omega) ?_)
        intro v8 u8 hO hg
        have HB4 := Lib.hid (HB3.out.grown hg HB3.out.size HO1.out.ownLe)
        have HO2 := Lib.hid hO
        clear hO hg
        refine hK.out _ _ (MS.out _ HB4.out) (fun hHeld2 => ?_)
        clear hK K hHeld
        have hHeld := hHeld2
        clear hHeld2
        (try simp only [Act.put, List.getElem_toArray, List.getElem_cons_zero, List.getElem_cons_succ, List.setIfInBounds_toArray, List.set_cons_zero, List.set_cons_succ])
        refine wpAnyH_take (i := 6) (v := ?v5) rfl (by kernel_rfl) (by kernel_rfl) (by kernel_rfl) (fun _ _ _ h => h) (Or.inl ⟨by kernel_rfl, ?hy5⟩) (by assumption) ?rest5
        case hy5 => intro w hSw; (try dsimp only at hSw); go_simp; (first | done | with_reducible rfl)
        (try simp only [Act.put, List.getElem_toArray, List.getElem_cons_zero, List.getElem_cons_succ, List.setIfInBounds_toArray, List.set_cons_zero, List.set_cons_succ])
        refine wpAnyH_take (i := 7) (v := ?v6) rfl (by kernel_rfl) (by kernel_rfl) (by kernel_rfl) (fun _ _ _ h => h) (Or.inl ⟨by kernel_rfl, ?hy6⟩) (by assumption) ?rest6
        case hy6 => intro w hSw; (try dsimp only at hSw); go_simp; (first | done | with_reducible rfl)
        (try simp only [Act.put, List.getElem_toArray, List.getElem_cons_zero, List.getElem_cons_succ, List.setIfInBounds_toArray, List.set_cons_zero, List.set_cons_succ])
        refine wpAnyH_done (by kernel_rfl) ?_ _
        go_wp2_with fail
        go_ret2
        exact ⟨_, _, rfl, .inr ⟨HZ.out, rfl, FIN.out _ _ HO2.out⟩, HBW.out.trans (HB4.out.mono HBW.out.size)⟩
    · go_simp
      obtain ⟨u1, hu⟩ : ∃ u1, u0.alloc (.cells #[.int .i64 a, .int .i64 b, .int .i64 k, .int .i64 n, .slice sp sm sc] 36) = u1 := ⟨_, rfl⟩
      have bb : Below u0.heap.size u0 u1 := by rw [← hu]; exact (Below.refl _ _).alloc (Nat.le_refl _) _
      have hn := heap_alloc_new u0 (.cells #[.int .i64 a, .int .i64 b, .int .i64 k, .int .i64 n, .slice sp sm sc] 36)
      have HZb := Lib.hid (show u1.heap.size = u0.heap.size + 1 by rw [← hu]; simp)
      rw [hu] at hn ⊢
      have HB1 := Lib.hid (HB0.out.trans (bb.mono HB0.out.size))
      have HY := Lib.hid hn
      clear hn hu bb
      refine hK.out _ _ (MS.out _ HB1.out) (fun hHeld2 => ?_)
      clear hK K hHeld
      have hHeld := hHeld2
      clear hHeld2
      (try simp only [Act.put, List.getElem_toArray, List.getElem_cons_zero, List.getElem_cons_succ, List.setIfInBounds_toArray, List.set_cons_zero, List.set_cons_succ])
      refine wpAnyH_ready (rs := [0]) (by kernel_rfl) (by simp) ?_
      refine AllReadyH.cons rfl (fun K hK => ?_) AllReadyH.nil
      go_simp
      obtain ⟨u2, hu⟩ : ∃ u2, u1.alloc (.cells #[] 36) = u2 := ⟨_, rfl⟩
      have bb : Below u1.heap.size u1 u2 := by rw [← hu]; exact (Below.refl _ _).alloc (Nat.le_refl _) _
      have hn := heap_alloc_new u1 (.cells #[] 36)
      have HZc := Lib.hid (show u2.heap.size = u1.heap.size + 1 by rw [← hu]; simp)
      rw [hu] at hn ⊢
      have HB2 := Lib.hid (HB1.out.trans (bb.mono HB1.out.size))
      have HT := Lib.hid (OwnE.emp (lim := lim) (B := wc.heap.size) hn HB1.out.size)
      have HY2 := Lib.hid ((bb.block _ (by have := HZb.out; have := HZc.out; omega)).trans HY.out)
      refine hK.out _ _ (MS.out _ HB2.out) (fun hHeld2 => ?_)
      clear hK K hHeld
      have hHeld := hHeld2
      clear hHeld2
      (try simp only [Act.put, List.getElem_toArray, List.getElem_cons_zero, List.getElem_cons_succ, List.setIfInBounds_toArray, List.set_cons_zero, List.set_cons_succ])
      refine wpAnyH_ready (rs := [2]) (by kernel_rfl) (by simp) ?_
      refine AllReadyH.cons rfl (fun K hK => ?_) AllReadyH.nil
      refine step_plain rfl (wp_append_e _ _ rfl rfl HT.out rfl rfl (ST.out _ HB2.out) (by have := HB2.out.size; omega) hlc (by simp only [List.length_nil]; omega) ?_)
      intro v4 u3 hO hg
      have HB3 := Lib.hid (HB2.out.grown hg HB2.out.size HT.out.ownLe)
      have HY3 := Lib.hid ((hg.block _ (by have := HZb.out; have := HZc.out; omega) (fun e => by have := HZb.out; have := HZc.out; have e' := Option.some.inj (show some u0.heap.size = some u1.heap.size from e); omega)).trans HY2.out)
      have HO1 := Lib.hid hO
      clear hO hg
      refine hK.out _ _ (MS.out _ HB3.out) (fun hHeld2 => ?_)
      clear hK K hHeld
      have hHeld := hHeld2
      clear hHeld2
      (try simp only [Act.put, List.getElem_toArray, List.getElem_cons_zero, List.getElem_cons_succ, List.setIfInBounds_toArray, List.set_cons_zero, List.set_cons_succ])
      refine wpAnyH_ready (rs := [5]) (by kernel_rfl) (by simp) ?_
      refine AllReadyH.cons rfl (fun K hK => ?_) AllReadyH.nil
      refine step_plain rfl (wp_append_e _ _ rfl rfl HO1.out rfl rfl (src1 HY3.out (KD.out _ HB3.out)) (by have := HB3.out.size; omega) hlc (by simp only [List.nil_append]; omega) ?_)
      intro v8 u8 hO hg
      have HB4 := Lib.hid (HB3.out.grown hg HB3.out.size HO1.out.ownLe)
      have HO2 := Lib.hid hO
      clear hO hg
      refine hK.out _ _ (MS.out _ HB4.out) (fun hHeld2 => ?_)
      clear hK K hHeld
      have hHeld := hHeld2
      clear hHeld2
      (try simp only [Act.put, List.getElem_toArray, List.getElem_cons_zero, List.getElem_cons_succ, List.setIfInBounds_toArray, List.set_cons_zero, List.set_cons_succ])
      refine wpAnyH_take (i := 6) (v := ?v7) rfl (by kernel_rfl) (by kernel_rfl) (by kernel_rfl) (fun _ _ _ h => h) (Or.inl ⟨by kernel_rfl, ?hy7⟩) (by assumption) ?rest7
      case hy7 => intro w hSw; (try dsimp only at hSw); go_simp; (first | done | with_reducible rfl)
      (try simp only [Act.put, List.getElem_toArray, List.getElem_cons_zero, List.getElem_cons_succ, List.setIfInBounds_toArray, List.set_cons_zero, List.set_cons_succ])
      refine wpAnyH_take (i := 7) (v := ?v8) rfl (by kernel_rfl) (by kernel_rfl) (by kernel_rfl) (fun _ _ _ h => h) (Or.inl ⟨by kernel_rfl, ?hy8⟩) (by assumption) ?rest8
      case hy8 => intro w hSw; (try dsimp only at hSw); go_simp; (first | done | with_reducible rfl)
      (try simp only [Act.put, List.getElem_toArray, List.getElem_cons_zero, List.getElem_cons_succ, List.setIfInBounds_toArray, List.set_cons_zero, List.set_cons_succ])
      refine wpAnyH_done (by kernel_rfl) ?_ _
      go_wp2_with fail
      go_ret2
      exact ⟨_, _, rfl, .inr ⟨HZ.out, rfl, FIN.out _ _ HO2.out⟩, HBW.out.trans (HB4.out.mono HBW.out.size)⟩
end Go.Proofs.Ytmbcfijhlpeddaa
