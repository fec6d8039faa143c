/- dup.Call; dup.Each of calls. -/
import Derived.Test.YthnpbfboedgmpaaSla
namespace Go.Proofs.Ythnpbfboedgmpaa
open Go.ChangeShapes Go.WideShapes Go.ChangeAt Go.RowKit
set_option linter.unusedVariables false
set_option linter.unusedSimpArgs false
theorem s7_ex {K : Nat → Prop} {w : World} {b : Nat} {x0 x1 x2 x3 x4 x5 x6 : Value} (h : ¬ K b) : Ex K w (s7 w b x0 x1 x2 x3 x4 x5 x6) := by
  unfold s7
  exact ((((((Ex.set h).trans (Ex.set h)).trans (Ex.set h)).trans (Ex.set h)).trans (Ex.set h)).trans (Ex.set h)).trans (Ex.set h)
theorem ch7_below {W w : World} {B g o : Nat} {a0 a1 a2 a3 a4 a5 a6 : Value} (h : Below B W w) (hb : B ≤ g) :
    Below B W (((((((w.setCell ⟨g, o, none⟩ a0).setCell ⟨g, o + 1, none⟩ a1).setCell ⟨g, o + 2, none⟩ a2).setCell ⟨g, o + 3, none⟩ a3).setCell ⟨g, o + 4, none⟩ a4).setCell ⟨g, o + 5, none⟩ a5).setCell ⟨g, o + 6, none⟩ a6) :=
  ((((((h.setCell (p := ⟨g, o, none⟩) hb a0).setCell (p := ⟨g, o + 1, none⟩) hb a1).setCell (p := ⟨g, o + 2, none⟩) hb a2).setCell (p := ⟨g, o + 3, none⟩) hb a3).setCell (p := ⟨g, o + 4, none⟩) hb a4).setCell (p := ⟨g, o + 5, none⟩) hb a5).setCell (p := ⟨g, o + 6, none⟩) hb a6
set_option maxRecDepth 100000 in
set_option maxHeartbeats 8000000 in
theorem dup_call (c : Cl) (x : Value) (W : World) (h : RowX W x c.xs) (hn : c.xs.length ≤ 2000000) :
    Calls Try.prog 18 #[c.val x] W fun e w' => ∃ x', e = .returned (c.val x') ∧ XK (fun t => W.heap.size ≤ t) w' x' c.xs ∧ Below W.heap.size W w' := by
  obtain ⟨kd, n, dir, s, who, ar, xs⟩ := c
  obtain ⟨p, k, rfl, -⟩ := id h
  simp only at h hn
  obtain ⟨w0, hw0, r0, hB0, hs0⟩ := boxG W #[.int .i64 kd, .int .i64 n, .int .i64 dir, .string s, .int .i64 who, .int .i64 ar, .slice p xs.length k] 50
  obtain ⟨w1, hw1, r1, hB1, hs1⟩ := boxG w0 #[.int .i64 0, .int .i64 0, .int .i64 0, .string ⟨#[]⟩, .int .i64 0, .int .i64 0, .slice none 0 0] 50
  rw [hs0] at r1
  have HB1 := Lib.hid (hB0.trans (hB1.mono hB0.size))
  have CL := Lib.hid (sc_clone2 (.slice p xs.length k) xs w1 (h.below HB1.out) hn)
  have HR := Lib.hid (fun (w : World) (hb : Below w1.heap.size w1 w) => And.intro ((hb.block W.heap.size (by omega)).trans ((hB1.block _ (by omega)).trans r0)) ((hb.block (W.heap.size + 1) (by omega)).trans r1))
  have HSZ := Lib.hid (show W.heap.size + 2 = w1.heap.size by omega)
  obtain ⟨m0, m1, m2, m3, m4, m5, m6⟩ := cells7 (HR.out w1 (Below.refl _ _)).1
  clear h hn r0 r1 hB0 hB1
  show Calls Try.prog 18 #[.agg #[.int .i64 kd, .int .i64 n, .int .i64 dir, .string s, .int .i64 who, .int .i64 ar, .slice p xs.length k]] W _
  go_enter Try.func18, Try.ntmps18
  go_wp2_with fail
  clear hw0 hw1 hs0 hs1 m0 m1 m2 m3 m4 m5 m6
  refine CL.out.mono ?_
  rintro e x2 ⟨xv, rfl, hxk, hb2⟩
  obtain ⟨q, k2, rfl, -⟩ := id hxk.1
  have HXK := Lib.hid hxk
  have HB2 := Lib.hid (HB1.out.trans (hb2.mono HB1.out.size))
  obtain ⟨hr0, hr1⟩ := HR.out x2 hb2
  obtain ⟨m0, m1, m2, m3, m4, m5, m6⟩ := cells7 hr0
  obtain ⟨f0, f1, f2, f3, f4, f5, f6⟩ := frz7 hr0
  obtain ⟨n0, n1, n2, n3, n4, n5, n6⟩ := cells7 hr1
  obtain ⟨g0, g1, g2, g3, g4, g5, g6⟩ := frz7 hr1
  have HY := Lib.hid (show (x2.setCell ⟨W.heap.size, 6, none⟩ (.slice q xs.length k2)).heap[W.heap.size + 1]? = some (.cells #[.int .i64 0, .int .i64 0, .int .i64 0, .string ⟨#[]⟩, .int .i64 0, .int .i64 0, .slice none 0 0] 50 (0, 0)) from by
    rw [heap_setCell_other _ _ _ _ (by show W.heap.size + 1 ≠ W.heap.size; omega)]
    exact hr1)
  clear hxk hb2 hr0 hr1
  go_wp2_with fail
  refine call_ret (c := ⟨kd, n, dir, s, who, ar, xs⟩) rfl _ _ (W.heap.size + 1) (.slice q xs.length k2) rfl rfl (s7_row HY.out) ?_
  have hz := HSZ.out
  exact ⟨_, rfl, (HXK.out.keep ((Ex.set (by omega)).trans (s7_ex (by omega)))).mono (fun t _ (ht : w1.heap.size ≤ t) => by omega), s7_below (HB2.out.setCell (p := ⟨W.heap.size, 6, none⟩) (Nat.le_refl _) _) (Nat.le_succ _)⟩
set_option maxRecDepth 100000 in
set_option maxHeartbeats 8000000 in
theorem each_call (v : Value) (l : List Cl) (W : World) (h : RowC W v l) (hn : l.length ≤ 2000000) (hx : ∀ c ∈ l, c.xs.length ≤ 2000000) :
    Calls Try.prog 17 #[v, .func (.func 18) #[] #[]] W fun e w' => ∃ v', e = .returned v' ∧ RCK (fun t => W.heap.size ≤ t) w' v' l ∧ Below W.heap.size W w' := by
  obtain ⟨p, c0, rfl, hrow⟩ := id h
  obtain ⟨cur0, hcs0, hmk⟩ := make_call l.length (by omega) W
  obtain ⟨w0, hw0, r0, hB0, hs0⟩ := boxG W cur0 50
  have HE0 := Lib.hid (show EC w0 W.heap.size l 0 from ⟨cur0, r0, hcs0, fun j c hj => absurd hj (Nat.not_lt_zero _)⟩)
  have HOK := Lib.hid (show ∀ c ∈ l, c.ok from fun c hc => by
    obtain ⟨j, hj, rfl⟩ := List.getElem_of_mem hc
    rcases hrow with h0 | ⟨b, o, -, -, hcl⟩
    · rw [h0] at hj; simp at hj
    · exact (hcl j _ (List.getElem?_eq_getElem hj)).1)
  have HROW := Lib.hid hrow
  have HB0 := Lib.hid hB0
  have HN := Lib.hid hn
  have HX := Lib.hid hx
  have hn0 : (0 : Int) ≤ (l.length : Int) := by omega
  clear h hrow hcs0 r0 hB0 hn hx
  go_enter Try.func17, Try.ntmps17
  go_wp2_with fail
  clear hmk hw0 hs0
  go_loopw [6, 7, 13] (fun _ _ j wr => ∃ k : Nat, j = .int .i64 k ∧ Hid (k ≤ l.length) ∧ Hid (EC wr W.heap.size l k) ∧ Hid (Below W.heap.size W wr)) (fun _ _ j _ => l.length - (intOf j).toNat)
  case atStart => exact ⟨0, rfl, Lib.hid (Nat.zero_le _), HE0, HB0⟩
  case round =>
    obtain ⟨k, rfl, HK, HE, HB⟩ := hrel
    obtain ⟨x1, rfl⟩ : ∃ w, w = wr := ⟨_, rfl⟩
    by_cases hk : k < l.length
    · obtain ⟨c, hc⟩ : ∃ c, l[k]? = some c := ⟨_, List.getElem?_eq_getElem hk⟩
      have hk0 : (0 : Int) ≤ (k : Int) := by omega
      have hki : (k : Int) < (l.length : Int) := by omega
      have HKL := Lib.hid hk
      have WK := Lib.hid (show wrap64 ((k : Int) + 1) = ((k + 1 : Nat) : Int) by have := HN.out; simp only [wrap64]; omega)
      have HXC := Lib.hid (HX.out c (List.mem_of_getElem? hc))
      have HC := Lib.hid hc
      rcases HROW.out with h0 | ⟨b, o, rfl, hb, hcl⟩
      · rw [h0] at hk; simp at hk
      obtain ⟨-, i0, i1, i2, i3, i4, i5, xv, i6, hxv⟩ := hcl k c hc
      obtain ⟨xp, xk, rfl, -⟩ := id hxv
      have m0 := (HB.out.cell (p := ⟨b, o + k * 7, none⟩) hb).trans i0
      have m1 := (HB.out.cell (p := ⟨b, o + k * 7 + 1, none⟩) hb).trans i1
      have m2 := (HB.out.cell (p := ⟨b, o + k * 7 + 2, none⟩) hb).trans i2
      have m3 := (HB.out.cell (p := ⟨b, o + k * 7 + 3, none⟩) hb).trans i3
      have m4 := (HB.out.cell (p := ⟨b, o + k * 7 + 4, none⟩) hb).trans i4
      have m5 := (HB.out.cell (p := ⟨b, o + k * 7 + 5, none⟩) hb).trans i5
      have m6 := (HB.out.cell (p := ⟨b, o + k * 7 + 6, none⟩) hb).trans i6
      obtain ⟨x2, hx2, r2, hb2, hs2⟩ := boxG x1 #[.int .i64 c.kd, .int .i64 c.n, .int .i64 c.dir, .string c.s, .int .i64 c.who, .int .i64 c.at', .slice xp c.xs.length xk] 50
      have HB2 := Lib.hid (HB.out.trans (hb2.mono HB.out.size))
      have HE2 := Lib.hid (HE.out.below hb2)
      have DC := Lib.hid (dup_call c (.slice xp c.xs.length xk) x2 (hxv.below HB2.out) HXC.out)
      obtain ⟨t0, t1, t2, t3, t4, t5, t6⟩ := cells7 r2
      clear i0 i1 i2 i3 i4 i5 i6 hxv hk hc hcl r2 hb2 hs2
      go_wp2_with fail
      clear m0 m1 m2 m3 m4 m5 m6 t0 t1 t2 t3 t4 t5 t6 hx2
      refine DC.out.mono ?_
      rintro e x3 ⟨xv', rfl, hxk, hb3⟩
      obtain ⟨q, k2, rfl, -⟩ := id hxk.1
      have HE3 := Lib.hid (HE2.out.below hb3)
      have HB3 := Lib.hid (HB2.out.trans (hb3.mono HB2.out.size))
      have HXK := Lib.hid (hxk.mono (K' := fun t => W.heap.size < t) (fun t _ (ht : x2.heap.size ≤ t) => Nat.lt_of_lt_of_le HE2.out.lt ht))
      obtain ⟨cur, hr, hs, -⟩ := HE3.out
      obtain ⟨u0, u1, u2, u3, u4, u5, u6, ⟨c0', c1, c2, c3, c4, c5, c6⟩, ⟨f0, f1, f2, f3, f4, f5, f6⟩⟩ := rowcells7 (b := k * 7) hr (by have := HKL.out; omega)
      have HES := Lib.hid (HE3.out.step HC.out HXK.out)
      have HBS := Lib.hid (ch7_below (o := k * 7) (a0 := .int .i64 c.kd) (a1 := .int .i64 c.n) (a2 := .int .i64 c.dir) (a3 := .string c.s) (a4 := .int .i64 c.who) (a5 := .int .i64 c.at') (a6 := .slice q c.xs.length k2) HB3.out (Nat.le_refl W.heap.size))
      clear hr hs hxk hb3
      unfold Cl.val
      go_wp2_with fail
      go_roundw
      case rel => exact ⟨k + 1, by first | rw [WK.out] | simp, Lib.hid HKL.out, HES, HBS⟩
      case measure => first | (rw [WK.out]; have := HKL.out; simp only [intOf]; omega) | (have := HKL.out; simp only [intOf]; omega)
    · have h9 : k = l.length := by have := HK.out; omega
      subst h9
      have hki : ¬ (l.length : Int) < (l.length : Int) := by omega
      clear hk
      go_wp2_with fail
      go_ret
      exact ⟨_, rfl, HE.out.rck HOK.out, HB.out⟩
end Go.Proofs.Ythnpbfboedgmpaa
