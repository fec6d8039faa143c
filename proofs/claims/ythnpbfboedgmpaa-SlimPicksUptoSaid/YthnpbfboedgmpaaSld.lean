/- slim.Clone, slim.Head. -/
import Derived.Test.YthnpbfboedgmpaaSlc
import Derived.Deep.Cut
namespace Go.Proofs.Ythnpbfboedgmpaa
open Go.ChangeShapes Go.WideShapes Go.ChangeAt Go.RowKit
set_option linter.unusedVariables false
set_option linter.unusedSimpArgs false
theorem s5_exL {K : Nat → Prop} {w : World} {b : Nat} {x0 x1 x2 x3 x4 : Value} (h : ¬ K b) : Ex K w (((((w.setCell ⟨b, 0, none⟩ x0).setCell ⟨b, 1, none⟩ x1).setCell ⟨b, 2, none⟩ x2).setCell ⟨b, 3, none⟩ x3).setCell ⟨b, 4, none⟩ x4) :=
  ((((Ex.set h).trans (Ex.set h)).trans (Ex.set h)).trans (Ex.set h)).trans (Ex.set h)
/-- What a script is told as, of new memory. -/
def ScrG (H : Nat) (W : World) (st rm : Int) (cs : List (List Cl)) (ps ts : List Int) (e : Ending) (w' : World) : Prop :=
  ∃ c k pp pk tp tk, e = .returned (.agg #[.int .i64 st, .int .i64 rm, .slice c cs.length k, .slice pp ps.length pk, .slice tp ts.length tk]) ∧ RKK (fun t => H ≤ t) w' (.slice c cs.length k) cs ∧ PK (fun t => H ≤ t) w' (.slice pp ps.length pk) ps ∧ PK (fun t => H ≤ t) w' (.slice tp ts.length tk) ts ∧ Below H W w'
theorem RKK.val {K : Nat → Prop} {w : World} {v : Value} {cs : List (List Cl)} (h : RKK K w v cs) : ∃ p c, v = .slice p cs.length c := by
  obtain ⟨p, c, rfl, -⟩ := h; exact ⟨p, c, rfl⟩
theorem PK.val {K : Nat → Prop} {w : World} {v : Value} {xs : List Int} (h : PK K w v xs) : ∃ p c, v = .slice p xs.length c := by
  obtain ⟨p, c, rfl, -⟩ := h; exact ⟨p, c, rfl⟩
theorem PK.rowI {K : Nat → Prop} {w : World} {p : Option Addr} {n c : Nat} {xs : List Int} (h : PK K w (.slice p n c) xs) : RowI w p xs.length xs := by
  obtain ⟨p', c', e, hr, -⟩ := h
  simp only [Value.slice.injEq] at e
  obtain ⟨rfl, -, -⟩ := e
  exact hr
structure Sml (cs : List (List Cl)) (ps ts : List Int) : Prop where
  c : cs.length ≤ 2000000
  l : ∀ l ∈ cs, l.length ≤ 2000000
  x : ∀ l ∈ cs, ∀ c ∈ l, c.xs.length ≤ 2000000
  p : ps.length ≤ 2000000
  t : ts.length ≤ 2000000
set_option maxRecDepth 100000 in
set_option maxHeartbeats 8000000 in
theorem slim_clone (st rm : Int) (cp pp tp : Option Addr) (ck pk tk : Nat) (cs : List (List Cl)) (ps ts : List Int) (W : World) (hC : RowCC W (.slice cp cs.length ck) cs) (hP : RowI W pp ps.length ps) (hT : RowI W tp ts.length ts) (hs : Sml cs ps ts) :
    Calls Try.prog 6 #[.agg #[.int .i64 st, .int .i64 rm, .slice cp cs.length ck, .slice pp ps.length pk, .slice tp ts.length tk]] W (ScrG W.heap.size W st rm cs ps ts) := by
  obtain ⟨w0, hw0, r0, hB0, hs0⟩ := boxG W #[.int .i64 st, .int .i64 rm, .slice cp cs.length ck, .slice pp ps.length pk, .slice tp ts.length tk] 25
  obtain ⟨w1, hw1, r1, hB1, hs1⟩ := boxG w0 #[.int .i64 0, .int .i64 0, .slice none 0 0, .slice none 0 0, .slice none 0 0] 25
  rw [hs0] at r1
  have HB1 := Lib.hid (hB0.trans (hB1.mono hB0.size))
  have ER_ := Lib.hid (each_rows _ cs w1 (hC.below HB1.out) hs.c hs.l hs.x)
  have HP := Lib.hid hP
  have HT := Lib.hid hT
  have HS := Lib.hid hs
  have HSZ := Lib.hid (show W.heap.size + 2 = w1.heap.size by omega)
  have HR1 := Lib.hid (And.intro ((hB1.block W.heap.size (by omega)).trans r0) r1)
  obtain ⟨m0, m1, m2, m3, m4⟩ := sc_cells5 HR1.out.1
  clear hC hP hT hs r0 r1 hB0 hB1
  go_enter Try.func6, Try.ntmps6
  go_wp2_with fail
  clear hw0 hw1 hs0 hs1 m0 m1 m2 m3 m4
  refine ER_.out.mono ?_
  rintro e x2 ⟨cv, rfl, hk2, hb2⟩
  obtain ⟨c2, k2, rfl⟩ := hk2.val
  have HK2 := Lib.hid hk2
  have HB2 := Lib.hid (HB1.out.trans (hb2.mono HB1.out.size))
  have q0 : x2.heap[W.heap.size]? = _ := (hb2.block W.heap.size (by have := HSZ.out; omega)).trans HR1.out.1
  have q1 : x2.heap[W.heap.size + 1]? = _ := (hb2.block (W.heap.size + 1) (by have := HSZ.out; omega)).trans HR1.out.2
  obtain ⟨m0, m1, m2, m3, m4⟩ := sc_cells5 q0
  obtain ⟨f0, f1, f2, f3, f4⟩ := frz5 q0
  have Q2 := Lib.hid (show (x2.setCell ⟨W.heap.size, 2, none⟩ (.slice c2 cs.length k2)).heap[W.heap.size]? = some (.cells #[.int .i64 st, .int .i64 rm, .slice c2 cs.length k2, .slice pp ps.length pk, .slice tp ts.length tk] 25 (0, 0)) from row_setC q0 _)
  have R2 := Lib.hid ((heap_setCell_other x2 ⟨W.heap.size, 2, none⟩ (W.heap.size + 1) (.slice c2 cs.length k2) (by show W.heap.size + 1 ≠ W.heap.size; omega)).trans q1)
  have HX2 := Lib.hid hb2.size
  clear hk2 hb2 q0 q1
  go_upto_region 2 with fail
  obtain ⟨y2, hy2⟩ : ∃ y, x2.setCell ⟨W.heap.size, 2, none⟩ (.slice c2 cs.length k2) = y := ⟨_, rfl⟩
  have HBY2 := Lib.hid (show Below W.heap.size W y2 by rw [← hy2]; exact HB2.out.setCell (p := ⟨W.heap.size, 2, none⟩) (Nat.le_refl _) _)
  have HKY2 := Lib.hid (show RKK (fun t => w1.heap.size ≤ t) y2 (.slice c2 cs.length k2) cs by rw [← hy2]; exact HK2.out.keep (Ex.set (by have := HSZ.out; omega)))
  have HZ2 := Lib.hid (show w1.heap.size ≤ y2.heap.size by rw [← hy2]; simpa using HX2.out)
  rw [hy2] at Q2 R2
  rw [hy2]
  clear hy2 m0 m1 m2 m3 m4 f0 f1 f2 f3 f4
  have C3 := Lib.hid (iclone pp pk ps y2 (HP.out.below HBY2.out) HS.out.p)
  obtain ⟨m0, m1, m2, m3, m4⟩ := sc_cells5 Q2.out
  go_wp2_with fail
  refine C3.out.mono ?_
  rintro e x3 ⟨pv, rfl, hp3, hb3⟩
  obtain ⟨p3, k3, rfl⟩ := hp3.val
  have HB3 := Lib.hid (HBY2.out.trans (hb3.mono HBY2.out.size))
  have q0 : x3.heap[W.heap.size]? = _ := (hb3.block W.heap.size (by have h1 := HSZ.out; have h2 := HZ2.out; omega)).trans Q2.out
  have q1 : x3.heap[W.heap.size + 1]? = _ := (hb3.block (W.heap.size + 1) (by have h1 := HSZ.out; have h2 := HZ2.out; omega)).trans R2.out
  have Q3 := Lib.hid (show (x3.setCell ⟨W.heap.size, 3, none⟩ (.slice p3 ps.length k3)).heap[W.heap.size]? = some (.cells #[.int .i64 st, .int .i64 rm, .slice c2 cs.length k2, .slice p3 ps.length k3, .slice tp ts.length tk] 25 (0, 0)) from row_setC q0 _)
  have R3 := Lib.hid ((heap_setCell_other x3 ⟨W.heap.size, 3, none⟩ (W.heap.size + 1) (.slice p3 ps.length k3) (by show W.heap.size + 1 ≠ W.heap.size; omega)).trans q1)
  have HK3 := Lib.hid (HKY2.out.keep (Ex.of_below hb3))
  have HP3 := Lib.hid (hp3.mono (K' := fun t => w1.heap.size ≤ t) (fun t _ (ht : y2.heap.size ≤ t) => Nat.le_trans HZ2.out ht))
  have HX3 := Lib.hid (Nat.le_trans HZ2.out hb3.size)
  clear m0 m1 m2 m3 m4
  obtain ⟨m0, m1, m2, m3, m4⟩ := sc_cells5 q0
  obtain ⟨f0, f1, f2, f3, f4⟩ := frz5 q0
  clear hp3 hb3 q0 q1
  go_upto_region 3 with fail
  obtain ⟨y3, hy3⟩ : ∃ y, x3.setCell ⟨W.heap.size, 3, none⟩ (.slice p3 ps.length k3) = y := ⟨_, rfl⟩
  have HBY3 := Lib.hid (show Below W.heap.size W y3 by rw [← hy3]; exact HB3.out.setCell (p := ⟨W.heap.size, 3, none⟩) (Nat.le_refl _) _)
  have HKY3 := Lib.hid (show RKK (fun t => w1.heap.size ≤ t) y3 (.slice c2 cs.length k2) cs by rw [← hy3]; exact HK3.out.keep (Ex.set (by have := HSZ.out; omega)))
  have HPY3 := Lib.hid (show PK (fun t => w1.heap.size ≤ t) y3 (.slice p3 ps.length k3) ps by rw [← hy3]; exact HP3.out.keep (Ex.set (by have := HSZ.out; omega)))
  have HZ3 := Lib.hid (show w1.heap.size ≤ y3.heap.size by rw [← hy3]; simpa using HX3.out)
  rw [hy3] at Q3 R3
  rw [hy3]
  clear hy3 m0 m1 m2 m3 m4 f0 f1 f2 f3 f4
  have C4 := Lib.hid (iclone tp tk ts y3 (HT.out.below HBY3.out) HS.out.t)
  obtain ⟨m0, m1, m2, m3, m4⟩ := sc_cells5 Q3.out
  go_wp2_with fail
  refine C4.out.mono ?_
  rintro e x4 ⟨tv, rfl, hp4, hb4⟩
  obtain ⟨t4, k4, rfl⟩ := hp4.val
  have HB4 := Lib.hid (HBY3.out.trans (hb4.mono HBY3.out.size))
  have q0 : x4.heap[W.heap.size]? = _ := (hb4.block W.heap.size (by have h1 := HSZ.out; have h2 := HZ3.out; omega)).trans Q3.out
  have q1 : x4.heap[W.heap.size + 1]? = _ := (hb4.block (W.heap.size + 1) (by have h1 := HSZ.out; have h2 := HZ3.out; omega)).trans R3.out
  have R4 := Lib.hid ((heap_setCell_other x4 ⟨W.heap.size, 4, none⟩ (W.heap.size + 1) (.slice t4 ts.length k4) (by show W.heap.size + 1 ≠ W.heap.size; omega)).trans q1)
  have HK4 := Lib.hid (HKY3.out.keep (Ex.of_below hb4))
  have HP4 := Lib.hid (HPY3.out.keep (Ex.of_below hb4))
  have HT4 := Lib.hid (hp4.mono (K' := fun t => w1.heap.size ≤ t) (fun t _ (ht : y3.heap.size ≤ t) => Nat.le_trans HZ3.out ht))
  clear m0 m1 m2 m3 m4
  obtain ⟨m0, m1, m2, m3, m4⟩ := sc_cells5 q0
  obtain ⟨f0, f1, f2, f3, f4⟩ := frz5 q0
  obtain ⟨n0, n1, n2, n3, n4⟩ := sc_cells5 q1
  obtain ⟨g0, g1, g2, g3, g4⟩ := frz5 q1
  clear hp4 hb4 q0 q1
  go_wp2_with fail
  refine bodyPost_ret (results_cell_row (p := 2) (ty := 25) rfl _ _ _ 25 #[.int .i64 st, .int .i64 rm, .slice c2 cs.length k2, .slice p3 ps.length k3, .slice t4 ts.length k4] (0, 0) _ rfl (s5_row R4.out) Try.underlying25 rfl (by kernel_rfl)) rfl ?_
  have hz := HSZ.out
  have hE : ∀ (a b c d e : Value), Ex (fun t => w1.heap.size ≤ t) x4 ((((((x4.setCell ⟨W.heap.size, 4, none⟩ (.slice t4 ts.length k4)).setCell ⟨W.heap.size + 1, 0, none⟩ a).setCell ⟨W.heap.size + 1, 1, none⟩ b).setCell ⟨W.heap.size + 1, 2, none⟩ c).setCell ⟨W.heap.size + 1, 3, none⟩ d).setCell ⟨W.heap.size + 1, 4, none⟩ e) := fun a b c d e => (Ex.set (by omega)).trans (s5_exL (by omega))
  have hM : ∀ (w : World) (t : Nat), t < w.heap.size → w1.heap.size ≤ t → W.heap.size ≤ t := fun w t _ ht => by omega
  exact ⟨c2, k2, p3, k3, t4, k4, rfl, (HK4.out.keep (hE _ _ _ _ _)).mono (hM _), (HP4.out.keep (hE _ _ _ _ _)).mono (hM _), (HT4.out.keep (hE _ _ _ _ _)).mono (hM _), s5_below (HB4.out.setCell (p := ⟨W.heap.size, 4, none⟩) (Nat.le_refl _) _) (Nat.le_succ _)⟩
end Go.Proofs.Ythnpbfboedgmpaa
