/- EntryPrints: for any two entries: the first one's line, that it is read as that entry, or why there is none; and whether they are the same. -/
import Derived.Test.YtakhgjhnljbfiaaGreatDoorLive24
import Derived.Test.YtakhgjhnljbfiaaGreatDoorEntq
import Derived.Test.YtakhgjhnljbfiaaGreatDoorEntr
import Derived.Test.YtakhgjhnljbfiaaGreatDoorOpene
import Derived.BigRegion
import Derived.Deep.DeepCutAuto
import Derived.Deep.DrawnRows
import Derived.Deep.RegionHeld
namespace Go.Proofs.YtakhgjhnljbfiaaGreatDoor
open Go.ChangeShapes Go.WideShapes Go.ChangeAt Go.RowKit
set_option linter.unusedVariables false
set_option linter.unusedSimpArgs false
theorem box10 (W : World) (a b c d : Int) (v : Value) (a' b' c' d' : Int) (v' : Value) (T : TypeId) : ∃ w0 : World, w0 = W.alloc (.cells #[.int .i64 a, .int .i64 b, .int .i64 c, .int .i64 d, v, .int .i64 a', .int .i64 b', .int .i64 c', .int .i64 d', v'] T) ∧ w0.heap[W.heap.size]? = some (.cells #[.int .i64 a, .int .i64 b, .int .i64 c, .int .i64 d, v, .int .i64 a', .int .i64 b', .int .i64 c', .int .i64 d', v'] T (0, 0)) ∧ Below W.heap.size W w0 ∧ w0.heap.size = W.heap.size + 1 :=
  ⟨_, rfl, heap_alloc_new _ _, (Below.refl _ _).alloc (Nat.le_refl _) _, by simp⟩
namespace entryPrints
attribute [local go_sem ↓] Go.wp_at_zero Go.wp_at_succ
set_option maxRecDepth 100000 in
set_option maxHeartbeats 16000000 in
theorem walk (W : World) (ea0 eb0 dk0 dn0 : Int) (s0 : Value) (t0 : Fo) (hK0 : Kids W W.heap.size s0 t0) (wf0 : t0.wf) (wa0 : -9223372036854775808 ≤ ea0 ∧ ea0 ≤ 9223372036854775807) (wb0 : -9223372036854775808 ≤ eb0 ∧ eb0 ≤ 9223372036854775807) (wk0 : -9223372036854775808 ≤ dk0 ∧ dk0 ≤ 9223372036854775807) (wn0 : -9223372036854775808 ≤ dn0 ∧ dn0 ≤ 9223372036854775807) (hN0 : t0.cnt + 1 ≤ 1048576) (ea1 eb1 dk1 dn1 : Int) (s1 : Value) (t1 : Fo) (hK1 : Kids W W.heap.size s1 t1) (wf1 : t1.wf) (wa1 : -9223372036854775808 ≤ ea1 ∧ ea1 ≤ 9223372036854775807) (wb1 : -9223372036854775808 ≤ eb1 ∧ eb1 ≤ 9223372036854775807) (wk1 : -9223372036854775808 ≤ dk1 ∧ dk1 ≤ 9223372036854775807) (wn1 : -9223372036854775808 ≤ dn1 ∧ dn1 ≤ 9223372036854775807) (hN1 : t1.cnt + 1 ≤ 1048576) (hm : ∃ m, W.cell? ⟨0, 0, none⟩ = some (.int .i64 m)) (hL : laidMet Tryz.prog Rows.entryPrintsUptoRow.laid W) :
    Calls Tryz.prog 3 #[.agg #[.int .i64 ea0, .int .i64 eb0, .int .i64 dk0, .int .i64 dn0, s0], .agg #[.int .i64 ea1, .int .i64 eb1, .int .i64 dk1, .int .i64 dn1, s1]] W fun e W' => e = .returned (.bool true) ∧ Below W.heap.size W W' := by
  have hT : Lib.TabIs Tryz.prog W "internal/strconv.uint64pow10" .u64 Lib.pow10Tab := pow10_head (laidMet.tail (laidMet.tail hL))
  have LV := Lib.hid (fun w (hb : Below W.heap.size W w) => live24 w (pow10_below hT hb))
  obtain ⟨p, m, c, rfl, hc1, hc2, -⟩ := hK0.shape
  obtain ⟨p', m', c', rfl, hc1', hc2', -⟩ := hK1.shape
  obtain ⟨w0, hw0, r0, hB0, hs0⟩ := box5 W ea0 eb0 dk0 dn0 (.slice p m c) 28
  obtain ⟨w1, hw1, r1, hB1, hs1⟩ := box5 w0 ea1 eb1 dk1 dn1 (.slice p' m' c') 28
  have r0 := (hB1.block _ (by omega)).trans r0
  rw [hs0] at r1
  have hB := hB0.trans (hB1.mono hB0.size)
  have HW1 := Lib.hid (show (W.alloc (.cells #[.int .i64 ea0, .int .i64 eb0, .int .i64 dk0, .int .i64 dn0, .slice p m c] 28)).alloc (.cells #[.int .i64 ea1, .int .i64 eb1, .int .i64 dk1, .int .i64 dn1, .slice p' m' c'] 28) = w1 by rw [hw1, hw0])
  have hsz : w1.heap.size = W.heap.size + 2 := by omega
  have HBW := Lib.hid (fun w' (hb : Below w1.heap.size w1 w') => hB.trans (hb.mono hB.size))
  have KX := Lib.hid (fun w' (hb : Below w1.heap.size w1 w') => (hK0.below (Nat.le_refl _) hB).carry (hb.mono (by omega)))
  have KY := Lib.hid (fun w' (hb : Below w1.heap.size w1 w') => (hK1.below (Nat.le_refl _) hB).carry (hb.mono (by omega)))
  have RX := Lib.hid (fun w' (hb : Below w1.heap.size w1 w') => (hb.block W.heap.size (by omega)).trans r0)
  have RY := Lib.hid (fun w' (hb : Below w1.heap.size w1 w') => (hb.block (W.heap.size + 1) (by omega)).trans r1)
  have LI := Lib.hid (fun w' (hb : Below w1.heap.size w1 w') => (show W.heap.size ≤ w'.heap.size by have := hb.size; omega))
  have MU := Lib.hid (fun g T w' (hb : Below w1.heap.size w1 w') (hg : g < w'.heap.size) h => r24_much2 t0 t1 p p' m c m' c' ea0 eb0 dk0 dn0 ea1 eb1 dk1 dn1 W.heap.size g T w' hN0 hN1 (KX.out _ hb) (KY.out _ hb) (LI.out _ hb) hg h)
  have PR := Lib.hid (fun w' (hb : Below w1.heap.size w1 w') => e_print t0 (.slice p m c) ea0 eb0 dk0 dn0 W.heap.size w' (by omega) (KX.out _ hb) (LI.out _ hb) wa0 wk0 wn0 wf0 (pow10_below hT (HBW.out _ hb)))
  have RC := Lib.hid (fun w' (hb : Below w1.heap.size w1 w') => r24_check t0 (.slice p m c) ea0 eb0 dk0 dn0 W.heap.size w' (by omega) (KX.out _ hb) (LI.out _ hb) wa0 wk0 wn0 wf0)
  have CH := Lib.hid (fun w' (hb : Below w1.heap.size w1 w') => e_check t0 (.slice p m c) ea0 eb0 dk0 dn0 W.heap.size w' (by omega) (KX.out _ hb) (LI.out _ hb) wa0 wk0 wn0 wf0)
  have SXY := Lib.hid (fun w' (hb : Below w1.heap.size w1 w') => e_same t0 t1 (.slice p m c) (.slice p' m' c') ea0 eb0 dk0 dn0 ea1 eb1 dk1 dn1 W.heap.size w' (KX.out _ hb) (KY.out _ hb) (LI.out _ hb))
  have RXY := Lib.hid (fun w' (hb : Below w1.heap.size w1 w') => r24_same t0 t1 (.slice p m c) (.slice p' m' c') ea0 eb0 dk0 dn0 ea1 eb1 dk1 dn1 W.heap.size w' (KX.out _ hb) (KY.out _ hb) (LI.out _ hb))
  have SXX := Lib.hid (fun w' (hb : Below w1.heap.size w1 w') => (by
    have h := e_same t0 t0 (.slice p m c) (.slice p m c) ea0 eb0 dk0 dn0 ea0 eb0 dk0 dn0 W.heap.size w' (KX.out _ hb) (KX.out _ hb) (LI.out _ hb)
    rw [cmpN_self, decide_eq_true (show (ea0 = ea0 ∧ eb0 = eb0) ∧ (0 : Int) = 0 from ⟨⟨rfl, rfl⟩, rfl⟩)] at h
    exact h : Calls Tryz.prog 12 #[.agg #[.int .i64 ea0, .int .i64 eb0, .int .i64 dk0, .int .i64 dn0, .slice p m c], .agg #[.int .i64 ea0, .int .i64 eb0, .int .i64 dk0, .int .i64 dn0, .slice p m c]] w' fun e w'' => e = .returned (.bool true) ∧ Below w'.heap.size w' w''))
  have PA := Lib.hid (fun w' (hb : Below w1.heap.size w1 w') s hs => e_parse s hs w' (hm_belowd hm (HBW.out _ hb)))
  have LN := Lib.hid (fun w' (hb : Below w1.heap.size w1 w') (h : fori ea0 eb0 dn0 (chkd dk0 dn0 t0) = 0) => (by
    obtain ⟨⟨ha1, ha2⟩, hb01, hck, hna⟩ := fori_zero h
    obtain ⟨hbg, hok⟩ := chk_okT hck
    exact r24_line t0 (.slice p m c) ea0 eb0 dk0 dn0 W.heap.size w' (by unfold bigT at hbg; omega) (KX.out _ hb) (LI.out _ hb) (by omega) (by omega) hok : Calls Tryz.prog 15 #[.agg #[.int .i64 ea0, .int .i64 eb0, .int .i64 dk0, .int .i64 dn0, .slice p m c]] w' fun e w'' => e = .returned (.string (lnS ea0 eb0 dk0 dn0 t0)) ∧ Below w'.heap.size w' w''))
  have EN := Lib.hid (fun (s : ByteArray) (h : s.data.toList = lnB ea0 eb0 dk0 dn0 t0) (hf : fori ea0 eb0 dn0 (chkd dk0 dn0 t0) = 0) => ln_ent h hf)
  have ES := Lib.hid (lnS_list ea0 eb0 dk0 dn0 t0)
  generalize decide ((ea0 = ea1 ∧ eb0 = eb1) ∧ cmpN dk0 dn0 t0 dk1 dn1 t1 = 0) = z at *
  clear hT hL hK0 hK1 hw0 hw1 wf0 wf1 wa0 wb0 wk0 wn0 wa1 wb1 wk1 wn1 hN0 hN1 hm hB0 hB1 hs0 hs1 hB
  obtain ⟨w2, hw2, r2, hb2, hs2⟩ := box10 w1 ea0 eb0 dk0 dn0 (.slice p m c) ea1 eb1 dk1 dn1 (.slice p' m' c') 28
  have MU2 := MU.out w1.heap.size 28 w2 hb2 (by omega) r2
  obtain ⟨x0, x1, x2, x3, x4⟩ := cells5 r0
  obtain ⟨y0, y1, y2, y3, y4⟩ := cells5 r1
  have HW2 := Lib.hid hw2
  have HB2 := Lib.hid hb2
  clear r0 r1 hw2 hb2 r2 MU hsz hs2
  cases hmu : (decide (80 < t0.cnt + 1) || decide (80 < t1.cnt + 1))
  case true =>
    rw [hmu] at MU2
    clear hmu
    go_enter Tryz.func3, Tryz.ntmps3
    go_upto_region 1 with fail
    rw [HW1.out]
    go_wp2_with fail
    rw [← HW2.out]
    refine MU2.mono ?_
    rintro e w3 ⟨rfl, hb3⟩
    have HB3 := Lib.hid (HBW.out _ (HB2.out.trans (hb3.mono HB2.out.size)))
    clear MU2 hb3 x0 x1 x2 x3 x4 y0 y1 y2 y3 y4
    go_wp2_with fail
    refine (LV.out _ HB3.out).mono ?_
    rintro e w4 ⟨rfl, hb4⟩
    go_wp2_with fail
    go_ret
    exact ⟨rfl, HB3.out.trans (hb4.mono HB3.out.size)⟩
  case false =>
    rw [hmu] at MU2
    clear hmu
    go_enter Tryz.func3, Tryz.ntmps3
    go_upto_region 1 with fail
    rw [HW1.out]
    go_wp2_with fail
    rw [← HW2.out]
    refine MU2.mono ?_
    rintro e w3 ⟨rfl, hb3⟩
    have HB3 := Lib.hid (HB2.out.trans (hb3.mono HB2.out.size))
    have PR3 := PR.out _ HB3.out
    clear MU2 hb3 x0 x1 x2 x3 x4 y0 y1 y2 y3 y4 HW2 HB2
    obtain ⟨x0, x1, x2, x3, x4⟩ := cells5 (RX.out _ HB3.out)
    go_wp2_with fail
    refine PR3.mono ?_
    rintro e w4 ⟨hb4, hcase⟩
    have HB4 := Lib.hid (HB3.out.trans (hb4.mono HB3.out.size))
    obtain ⟨s, rfl, HS⟩ : ∃ s : ByteArray, e = .returned (.tuple #[.string s, .int .i64 (fori ea0 eb0 dn0 (chkd dk0 dn0 t0))]) ∧ Hid ((fori ea0 eb0 dn0 (chkd dk0 dn0 t0) ≠ 0 ∧ s = ⟨#[]⟩) ∨ (fori ea0 eb0 dn0 (chkd dk0 dn0 t0) = 0 ∧ s.data.toList = lnB ea0 eb0 dk0 dn0 t0)) := by
      rcases hcase with ⟨h, rfl⟩ | ⟨h, s, hs, rfl⟩
      · exact ⟨_, rfl, Lib.hid (.inl ⟨h, rfl⟩)⟩
      · exact ⟨s, by rw [h], Lib.hid (.inr ⟨h, hs⟩)⟩
    have RC4 := RC.out _ HB4.out
    generalize fori ea0 eb0 dn0 (chkd dk0 dn0 t0) = K at *
    clear PR3 hcase hb4 x0 x1 x2 x3 x4 PR RC
    obtain ⟨x0, x1, x2, x3, x4⟩ := cells5 (RX.out _ HB4.out)
    go_wp2_with fail
    refine RC4.mono ?_
    rintro e w5 ⟨rfl, hb5⟩
    have HB5 := Lib.hid (HB4.out.trans (hb5.mono HB4.out.size))
    clear RC4 hb5 x0 x1 x2 x3 x4
    have MK := Lib.hid (fun w' (hb : Below w1.heap.size w1 w') => (show w'.cell? ⟨W.heap.size, 0, none⟩ = some (.int .i64 ea0) ∧ w'.cell? ⟨W.heap.size, 1, none⟩ = some (.int .i64 eb0) ∧ w'.cell? ⟨W.heap.size, 2, none⟩ = some (.int .i64 dk0) ∧ w'.cell? ⟨W.heap.size, 3, none⟩ = some (.int .i64 dn0) ∧ w'.cell? ⟨W.heap.size, 4, none⟩ = some (.slice p m c) ∧ w'.cell? ⟨(W.heap.size + 1), 0, none⟩ = some (.int .i64 ea1) ∧ w'.cell? ⟨(W.heap.size + 1), 1, none⟩ = some (.int .i64 eb1) ∧ w'.cell? ⟨(W.heap.size + 1), 2, none⟩ = some (.int .i64 dk1) ∧ w'.cell? ⟨(W.heap.size + 1), 3, none⟩ = some (.int .i64 dn1) ∧ w'.cell? ⟨(W.heap.size + 1), 4, none⟩ = some (.slice p' m' c') ∧ Below w1.heap.size w1 w' from by
      obtain ⟨x0, x1, x2, x3, x4⟩ := cells5 (RX.out _ hb)
      obtain ⟨y0, y1, y2, y3, y4⟩ := cells5 (RY.out _ hb)
      exact ⟨x0, x1, x2, x3, x4, y0, y1, y2, y3, y4, hb⟩))
    have KP := Lib.hid (fun (wa w' : World) (hS : wa.cell? ⟨W.heap.size, 0, none⟩ = some (.int .i64 ea0) ∧ wa.cell? ⟨W.heap.size, 1, none⟩ = some (.int .i64 eb0) ∧ wa.cell? ⟨W.heap.size, 2, none⟩ = some (.int .i64 dk0) ∧ wa.cell? ⟨W.heap.size, 3, none⟩ = some (.int .i64 dn0) ∧ wa.cell? ⟨W.heap.size, 4, none⟩ = some (.slice p m c) ∧ wa.cell? ⟨(W.heap.size + 1), 0, none⟩ = some (.int .i64 ea1) ∧ wa.cell? ⟨(W.heap.size + 1), 1, none⟩ = some (.int .i64 eb1) ∧ wa.cell? ⟨(W.heap.size + 1), 2, none⟩ = some (.int .i64 dk1) ∧ wa.cell? ⟨(W.heap.size + 1), 3, none⟩ = some (.int .i64 dn1) ∧ wa.cell? ⟨(W.heap.size + 1), 4, none⟩ = some (.slice p' m' c') ∧ Below w1.heap.size w1 wa) (hb : Below wa.heap.size wa w') => MK.out w' (hS.2.2.2.2.2.2.2.2.2.2.trans (hb.mono hS.2.2.2.2.2.2.2.2.2.2.size)))
    go_wp2_with fail
    generalize hY : W.heap.size + 1 = Y at *
    generalize hX : W.heap.size = X at *
    go_region_held3 (fun w' => w'.cell? ⟨X, 0, none⟩ = some (.int .i64 ea0) ∧ w'.cell? ⟨X, 1, none⟩ = some (.int .i64 eb0) ∧ w'.cell? ⟨X, 2, none⟩ = some (.int .i64 dk0) ∧ w'.cell? ⟨X, 3, none⟩ = some (.int .i64 dn0) ∧ w'.cell? ⟨X, 4, none⟩ = some (.slice p m c) ∧ w'.cell? ⟨Y, 0, none⟩ = some (.int .i64 ea1) ∧ w'.cell? ⟨Y, 1, none⟩ = some (.int .i64 eb1) ∧ w'.cell? ⟨Y, 2, none⟩ = some (.int .i64 dk1) ∧ w'.cell? ⟨Y, 3, none⟩ = some (.int .i64 dn1) ∧ w'.cell? ⟨Y, 4, none⟩ = some (.slice p' m' c') ∧ Below w1.heap.size w1 w') (first | exact MK.out _ (HB5.out.drew) | assumption | (refine KP.out _ _ ?_ hb; first | assumption | exact MK.out _ (HB5.out.drew))) (first | (go_at_call 11; (with_reducible refine (CH.out _ (by go_split_ands; assumption)).mono ?_); rintro e w' ⟨rfl, hb⟩) | (go_at_call 12; (first | with_reducible refine (SXY.out _ (by go_split_ands; assumption)).mono ?_ | with_reducible refine (SXX.out _ (by go_split_ands; assumption)).mono ?_); rintro e w' ⟨rfl, hb⟩) | (go_at_call 13; (with_reducible refine (RXY.out _ (by go_split_ands; assumption)).mono ?_); rintro e w' ⟨rfl, hb⟩))
    rename_i hSS
    obtain ⟨-, -, -, -, -, -, -, -, -, -, hBB⟩ := hSS
    have HB6 := Lib.hid hBB
    clear hBB MK KP CH SXY RXY SXX HB5 HB4 HB3
    rcases HS.out with ⟨hk, hs⟩ | ⟨hk, hs⟩
    · have d1 : (K == 0) = false := by rw [beq_eq_false_iff_ne]; exact hk
      have d1' : (K != 0) = true := by simp [bne, d1]
      subst hs
      go_wp2_with fail
      refine (LV.out _ (HBW.out _ HB6.out)).mono ?_
      rintro e w7 ⟨rfl, hb7⟩
      have HB7 := Lib.hid ((HBW.out _ HB6.out).trans (hb7.mono (by have := (HBW.out _ HB6.out).size; omega)))
      clear hb7
      go_wp2_with fail
      go_ret
      exact ⟨rfl, by rw [hX]; exact HB7.out⟩
    · obtain ⟨he, hec, hsz⟩ := EN.out s hs hk
      have PA6 := PA.out _ HB6.out s hsz
      have LN6 := Lib.hid (fun w' hb => LN.out w' hb hk)
      have HE := Lib.hid he
      have HEC := Lib.hid hec
      have hse : s = lnS ea0 eb0 dk0 dn0 t0 := ba_ext (hs.trans ES.out.symm)
      have hbl := bl_eq (x := s) (y := lnS ea0 eb0 dk0 dn0 t0)
      rw [decide_eq_true hse] at hbl
      obtain ⟨tx, htx⟩ : ∃ tx, lnS ea0 eb0 dk0 dn0 t0 = tx := ⟨_, rfl⟩
      have LN7 := Lib.hid (fun w' hb => (by have h := LN6.out w' hb; rw [htx] at h; exact h : Calls Tryz.prog 15 #[.agg #[.int .i64 ea0, .int .i64 eb0, .int .i64 dk0, .int .i64 dn0, .slice p m c]] w' fun e w'' => e = .returned (.string tx) ∧ Below w'.heap.size w' w''))
      rw [htx] at hbl
      subst hk
      clear he hec hs hse htx LN6 LN EN ES PA HS
      go_wp2_with fail
      refine PA6.mono ?_
      rintro e w7 ⟨hb7, hcase⟩
      rcases hcase with ⟨h, -⟩ | ⟨-, a, b, k, mm, ks, v, ht, hK, rfl⟩
      · exact absurd HEC.out h
      obtain ⟨rfl, rfl, rfl, rfl, rfl⟩ := HE.out.uniq ht
      obtain ⟨va, vn, vc, rfl⟩ : ∃ a n c, v = .slice a n c := by
        obtain ⟨a, c, rfl, _⟩ := hK
        exact ⟨_, _, _, rfl⟩
      obtain ⟨w8, hw8, r8, hb8, hs8⟩ := box5 w7 ea0 eb0 dk0 dn0 (.slice va vn vc) 28
      have HB7 := Lib.hid (HB6.out.trans (hb7.mono HB6.out.size))
      have HB8 := Lib.hid (HB7.out.trans (hb8.mono HB7.out.size))
      have HK8 := Lib.hid (hK.below (Nat.le_refl _) hb8)
      have l78 : w7.heap.size < w8.heap.size := by omega
      have LN8 := LN7.out w8 HB8.out
      have HW8 := Lib.hid hw8
      have R8 := Lib.hid r8
      clear PA6 hb7 ht hK hw8 r8 hb8 hs8 HE HEC LN7
      obtain ⟨x0, x1, x2, x3, x4⟩ := cells5 (RX.out _ HB8.out)
      go_upto_region 10 with fail
      rw [← HW8.out]
      go_wp2_with fail
      refine LN8.mono ?_
      rintro e w9 ⟨rfl, hb9⟩
      have HB9 := Lib.hid (HB8.out.trans (hb9.mono HB8.out.size))
      have hz9 := hb9.size
      have SM := r24_same1 t0 t0 (.slice va vn vc) (.slice p m c) ea0 eb0 dk0 dn0 dk0 dn0 w9.heap.size w9 ((HK8.out.below (by omega) hb9).mono (by omega)) ((KX.out _ HB9.out).mono (LI.out _ HB9.out)) (Nat.le_refl _)
      rw [cmpN_self, decide_eq_true (rfl : (0 : Int) = 0)] at SM
      obtain ⟨z0, z1, z2, z3, z4⟩ := cells5 ((hb9.block w7.heap.size l78).trans R8.out)
      clear LN8 hb9 x0 x1 x2 x3 x4 HK8 R8 HW8
      obtain ⟨x0, x1, x2, x3, x4⟩ := cells5 (RX.out _ HB9.out)
      go_wp2_with fail
      refine SM.mono ?_
      rintro e w10 ⟨rfl, hb10⟩
      have HB10 := Lib.hid (HBW.out _ (HB9.out.trans (hb10.mono HB9.out.size)))
      clear SM hb10 x0 x1 x2 x3 x4 z0 z1 z2 z3 z4
      go_wp2_with fail
      refine (LV.out _ HB10.out).mono ?_
      rintro e w11 ⟨rfl, hb11⟩
      go_wp2_with fail
      go_ret
      exact ⟨rfl, by rw [hX]; exact HB10.out.trans (hb11.mono (by have := HB10.out.size; omega))⟩
end entryPrints
end Go.Proofs.YtakhgjhnljbfiaaGreatDoor
