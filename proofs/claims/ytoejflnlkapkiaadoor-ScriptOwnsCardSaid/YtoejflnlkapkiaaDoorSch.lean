/- script.Own. -/
import Derived.Test.YtoejflnlkapkiaaDoorScg
import Derived.Deep.RegionWith
namespace Go.Proofs.YtoejflnlkapkiaaDoor
open Go.ChangeShapes Go.WideShapes Go.ChangeAt Go.RowKit
set_option linter.unusedVariables false
set_option linter.unusedSimpArgs false
/-- What a call uses. -/
def ownC (c : Cl) : Cl :=
  if c.kd = 1 ∨ c.kd = 2 ∨ c.kd = 3 then ⟨c.kd, c.n, c.dir, ⟨#[]⟩, 0, 0, []⟩
  else if c.kd = 4 then ⟨c.kd, 0, 0, c.s, 0, 0, []⟩
  else if c.kd = 6 then ⟨c.kd, 0, 0, ⟨#[]⟩, c.who, c.at', c.xs⟩
  else if c.kd = 7 then ⟨c.kd, 0, 0, ⟨#[]⟩, c.who, c.at', []⟩
  else ⟨c.kd, 0, 0, ⟨#[]⟩, 0, 0, []⟩
theorem ownC_idem (c : Cl) : ownC (ownC c) = ownC c := by
  obtain ⟨kd, n, dir, s, who, ar, xs⟩ := c
  unfold ownC
  simp only
  by_cases h1 : kd = 1 ∨ kd = 2 ∨ kd = 3
  · simp only [h1, if_true]
  by_cases h4 : kd = 4
  · simp only [h1, h4, if_true, if_false]
    simp
  by_cases h6 : kd = 6
  · subst h6; simp
  by_cases h7 : kd = 7
  · subst h7; simp
  · simp only [h1, h4, h6, h7, if_false]
def OwnOk (W : World) (c : Cl) (e : Ending) (w' : World) : Prop := ∃ x', e = .returned ((ownC c).val x') ∧ RowX w' x' (ownC c).xs ∧ Below W.heap.size W w'
theorem call_ret {fn : Func} {p : Tmp} (h : fn.results = #[.cell p 49]) (a : Act) (w : World) (g : Nat) (c : Cl) (x : Value) (hp : a.tmps.getD p undef = .pointer (some ⟨g, 0, none⟩)) (hd : a.defers = [])
    (hg : w.heap[g]? = some (.cells #[.int .i64 c.kd, .int .i64 c.n, .int .i64 c.dir, .string c.s, .int .i64 c.who, .int .i64 c.at', x] 49 (0, 0))) {Q : Ending → World → Prop} (hQ : Q (.returned (c.val x)) w) :
    bodyPost Tryd.prog fn Q .ret a w :=
  bodyPost_ret (results_cell_row h _ _ g 49 _ (0, 0) _ hp hg Tryd.underlying49 rfl (by kernel_rfl)) hd hQ
/-- Three cells are stored. -/
theorem set456 {w : World} {b : Nat} {T : TypeId} {a0 a1 a2 a3 a4 a5 a6 u v z : Value} (h : w.heap[b]? = some (.cells #[a0, a1, a2, a3, a4, a5, a6] T (0, 0))) :
    (((w.setCell ⟨b, 4, none⟩ u).setCell ⟨b, 5, none⟩ v).setCell ⟨b, 6, none⟩ z).heap[b]? = some (.cells #[a0, a1, a2, a3, u, v, z] T (0, 0)) := by
  have h1 := row_setC (o := 4) h u
  have h2 := row_setC (o := 5) h1 v
  have h3 := row_setC (o := 6) h2 z
  exact h3
theorem below456 {W w : World} {b : Nat} {u v z : Value} (h : Below W.heap.size W w) (hb : W.heap.size ≤ b) : Below W.heap.size W (((w.setCell ⟨b, 4, none⟩ u).setCell ⟨b, 5, none⟩ v).setCell ⟨b, 6, none⟩ z) :=
  ((h.setCell (p := ⟨b, 4, none⟩) hb u).setCell (p := ⟨b, 5, none⟩) hb v).setCell (p := ⟨b, 6, none⟩) hb z
/-- All seven are. -/
def s7 (w : World) (b : Nat) (a0 a1 a2 a3 a4 a5 a6 : Value) : World := ((((((w.setCell ⟨b, 0, none⟩ a0).setCell ⟨b, 1, none⟩ a1).setCell ⟨b, 2, none⟩ a2).setCell ⟨b, 3, none⟩ a3).setCell ⟨b, 4, none⟩ a4).setCell ⟨b, 5, none⟩ a5).setCell ⟨b, 6, none⟩ a6
theorem s7_row {w : World} {b : Nat} {T : TypeId} {c0 c1 c2 c3 c4 c5 c6 a0 a1 a2 a3 a4 a5 a6 : Value} (h : w.heap[b]? = some (.cells #[c0, c1, c2, c3, c4, c5, c6] T (0, 0))) : (s7 w b a0 a1 a2 a3 a4 a5 a6).heap[b]? = some (.cells #[a0, a1, a2, a3, a4, a5, a6] T (0, 0)) := by
  unfold s7
  have h0 := row_setC (o := 0) h a0
  have h1 := row_setC (o := 1) h0 a1
  have h2 := row_setC (o := 2) h1 a2
  have h3 := row_setC (o := 3) h2 a3
  have h4 := row_setC (o := 4) h3 a4
  have h5 := row_setC (o := 5) h4 a5
  have h6 := row_setC (o := 6) h5 a6
  rw [h6]
  simp only [List.setIfInBounds_toArray, List.set_cons_zero, List.set_cons_succ]
theorem s7_below {W w : World} {b B : Nat} {a0 a1 a2 a3 a4 a5 a6 : Value} (h : Below B W w) (hb : B ≤ b) : Below B W (s7 w b a0 a1 a2 a3 a4 a5 a6) :=
  ((((((h.setCell (p := ⟨b, 0, none⟩) hb a0).setCell (p := ⟨b, 1, none⟩) hb a1).setCell (p := ⟨b, 2, none⟩) hb a2).setCell (p := ⟨b, 3, none⟩) hb a3).setCell (p := ⟨b, 4, none⟩) hb a4).setCell (p := ⟨b, 5, none⟩) hb a5).setCell (p := ⟨b, 6, none⟩) hb a6
/-- A store into another block. -/
theorem row_setX {w : World} {a : Option Addr} {n : Nat} {xs : List Int} (h : Row w a n xs) {b o : Nat} {v : Value} (hne : ∀ q, a = some q → q.block ≠ b) : Row (w.setCell ⟨b, o, none⟩ v) a n xs := by
  refine ⟨h.len, ?_, h.wf, h.small⟩
  rcases h.reads with h0 | ⟨g, off, hp, hl, hc⟩
  · exact .inl h0
  · have hgb : g ≠ b := hne _ hp
    refine .inr ⟨g, off, hp, by simp; exact hl, fun i hi => ?_⟩
    exact (World.cell?_of_block (a := ⟨g, off + i, none⟩) (heap_setCell_other w ⟨b, o, none⟩ g v hgb)).trans (hc i hi)
theorem tri (W : World) (o0 o1 o2 : Obj) : (((W.alloc o0).alloc o1).alloc o2).heap[W.heap.size + 1]? = some o1 ∧ Below W.heap.size W (((W.alloc o0).alloc o1).alloc o2) := by
  have h1 : (W.alloc o0).heap.size = W.heap.size + 1 := by simp
  refine ⟨?_, (((Below.refl _ _).alloc (Nat.le_refl _) _).alloc (by simp) _).alloc (by simp; omega) _⟩
  rw [Below.heap_alloc _ _ _ (by simp), ← h1]
  exact heap_alloc_new _ _
set_option maxRecDepth 100000 in
set_option maxHeartbeats 4000000 in
theorem sc_own (c : Cl) (x : Value) (W : World) (h : RowX W x c.xs) (hn : c.xs.length ≤ 1000000) : Calls Tryd.prog 16 #[c.val x] W (OwnOk W c) := by
  obtain ⟨kd, n, dir, s, who, ar, xs⟩ := c
  obtain ⟨p, k, rfl, hr⟩ := h
  have HR := Lib.hid hr
  simp only at hr hn
  show Calls Tryd.prog 16 #[.agg #[.int .i64 kd, .int .i64 n, .int .i64 dir, .string s, .int .i64 who, .int .i64 ar, .slice p xs.length k]] W (OwnOk W ⟨kd, n, dir, s, who, ar, xs⟩)
  clear hr
  by_cases h1 : kd = 1
  · subst h1
    have ho : ownC ⟨1, n, dir, s, who, ar, xs⟩ = ⟨1, n, dir, ⟨#[]⟩, 0, 0, []⟩ := rfl
    go_enter Tryd.func16, Tryd.ntmps16
    go_wp2_with fail
    refine call_ret (c := ⟨1, n, dir, ⟨#[]⟩, 0, 0, []⟩) rfl _ _ (W.heap.size + 1) (.slice none 0 0) rfl rfl (tri _ _ _ _).1 ?_
    exact ⟨.slice none 0 0, by rw [ho], by rw [ho]; exact row_nilX _, (tri _ _ _ _).2⟩
  by_cases h2 : kd = 2
  · subst h2
    have ho : ownC ⟨2, n, dir, s, who, ar, xs⟩ = ⟨2, n, dir, ⟨#[]⟩, 0, 0, []⟩ := rfl
    go_enter Tryd.func16, Tryd.ntmps16
    go_wp2_with fail
    refine call_ret (c := ⟨2, n, dir, ⟨#[]⟩, 0, 0, []⟩) rfl _ _ (W.heap.size + 1) (.slice none 0 0) rfl rfl (tri _ _ _ _).1 ?_
    exact ⟨.slice none 0 0, by rw [ho], by rw [ho]; exact row_nilX _, (tri _ _ _ _).2⟩
  by_cases h3 : kd = 3
  · subst h3
    have ho : ownC ⟨3, n, dir, s, who, ar, xs⟩ = ⟨3, n, dir, ⟨#[]⟩, 0, 0, []⟩ := rfl
    go_enter Tryd.func16, Tryd.ntmps16
    go_wp2_with fail
    refine call_ret (c := ⟨3, n, dir, ⟨#[]⟩, 0, 0, []⟩) rfl _ _ (W.heap.size + 1) (.slice none 0 0) rfl rfl (tri _ _ _ _).1 ?_
    exact ⟨.slice none 0 0, by rw [ho], by rw [ho]; exact row_nilX _, (tri _ _ _ _).2⟩
  by_cases h4 : kd = 4
  · subst h4
    have ho : ownC ⟨4, n, dir, s, who, ar, xs⟩ = ⟨4, 0, 0, s, 0, 0, []⟩ := rfl
    go_enter Tryd.func16, Tryd.ntmps16
    go_wp2_with fail
    refine call_ret (c := ⟨4, 0, 0, s, 0, 0, []⟩) rfl _ _ (W.heap.size + 1) (.slice none 0 0) rfl rfl (tri _ _ _ _).1 ?_
    exact ⟨.slice none 0 0, by rw [ho], by rw [ho]; exact row_nilX _, (tri _ _ _ _).2⟩
  by_cases h7 : kd = 7
  · subst h7
    have ho : ownC ⟨7, n, dir, s, who, ar, xs⟩ = ⟨7, 0, 0, ⟨#[]⟩, who, ar, []⟩ := rfl
    go_enter Tryd.func16, Tryd.ntmps16
    go_wp2_with fail
    refine call_ret (c := ⟨7, 0, 0, ⟨#[]⟩, who, ar, []⟩) rfl _ _ (W.heap.size + 1) (.slice none 0 0) rfl rfl (tri _ _ _ _).1 ?_
    exact ⟨.slice none 0 0, by rw [ho], by rw [ho]; exact row_nilX _, (tri _ _ _ _).2⟩
  by_cases h6 : kd = 6
  · subst h6
    have ho : ownC ⟨6, n, dir, s, who, ar, xs⟩ = ⟨6, 0, 0, ⟨#[]⟩, who, ar, xs⟩ := rfl
    have CL := Lib.hid (fun (w : World) (hb : Below W.heap.size W w) => sc_clone (.slice p xs.length k) xs w ⟨p, k, rfl, HR.out.below hb⟩ hn)
    go_enter Tryd.func16, Tryd.ntmps16
    go_wp2_with fail
    have HBT := Lib.hid (tri W (.cells #[.int .i64 6, .int .i64 n, .int .i64 dir, .string s, .int .i64 who, .int .i64 ar, .slice p xs.length k] 49) (.cells #[.int .i64 0, .int .i64 0, .int .i64 0, .string ⟨#[]⟩, .int .i64 0, .int .i64 0, .slice none 0 0] 49) (.cells #[.int .i64 6, .int .i64 0, .int .i64 0, .string ⟨#[]⟩, .int .i64 0, .int .i64 0, .slice none 0 0] 49)).2
    have hg0 := Lib.hid (show (((W.alloc (.cells #[.int .i64 6, .int .i64 n, .int .i64 dir, .string s, .int .i64 who, .int .i64 ar, .slice p xs.length k] 49)).alloc (.cells #[.int .i64 0, .int .i64 0, .int .i64 0, .string ⟨#[]⟩, .int .i64 0, .int .i64 0, .slice none 0 0] 49)).alloc (.cells #[.int .i64 6, .int .i64 0, .int .i64 0, .string ⟨#[]⟩, .int .i64 0, .int .i64 0, .slice none 0 0] 49)).heap[W.heap.size]? = some (.cells #[.int .i64 6, .int .i64 n, .int .i64 dir, .string s, .int .i64 who, .int .i64 ar, .slice p xs.length k] 49 (0, 0)) from by
      rw [Below.heap_alloc _ _ _ (by simp; omega), Below.heap_alloc _ _ _ (by simp)]; exact heap_alloc_new _ _)
    have hg1 := Lib.hid (tri W (.cells #[.int .i64 6, .int .i64 n, .int .i64 dir, .string s, .int .i64 who, .int .i64 ar, .slice p xs.length k] 49) (.cells #[.int .i64 0, .int .i64 0, .int .i64 0, .string ⟨#[]⟩, .int .i64 0, .int .i64 0, .slice none 0 0] 49) (.cells #[.int .i64 6, .int .i64 0, .int .i64 0, .string ⟨#[]⟩, .int .i64 0, .int .i64 0, .slice none 0 0] 49)).1
    have hg2 := Lib.hid (show (((W.alloc (.cells #[.int .i64 6, .int .i64 n, .int .i64 dir, .string s, .int .i64 who, .int .i64 ar, .slice p xs.length k] 49)).alloc (.cells #[.int .i64 0, .int .i64 0, .int .i64 0, .string ⟨#[]⟩, .int .i64 0, .int .i64 0, .slice none 0 0] 49)).alloc (.cells #[.int .i64 6, .int .i64 0, .int .i64 0, .string ⟨#[]⟩, .int .i64 0, .int .i64 0, .slice none 0 0] 49)).heap[W.heap.size + 1 + 1]? = some (.cells #[.int .i64 6, .int .i64 0, .int .i64 0, .string ⟨#[]⟩, .int .i64 0, .int .i64 0, .slice none 0 0] 49 (0, 0)) from by
      have h1 : ((W.alloc (.cells #[.int .i64 6, .int .i64 n, .int .i64 dir, .string s, .int .i64 who, .int .i64 ar, .slice p xs.length k] 49)).alloc (.cells #[.int .i64 0, .int .i64 0, .int .i64 0, .string ⟨#[]⟩, .int .i64 0, .int .i64 0, .slice none 0 0] 49)).heap.size = W.heap.size + 1 + 1 := by simp
      rw [← h1]; exact heap_alloc_new _ _)
    generalize ((W.alloc (.cells #[.int .i64 6, .int .i64 n, .int .i64 dir, .string s, .int .i64 who, .int .i64 ar, .slice p xs.length k] 49)).alloc (.cells #[.int .i64 0, .int .i64 0, .int .i64 0, .string ⟨#[]⟩, .int .i64 0, .int .i64 0, .slice none 0 0] 49)).alloc (.cells #[.int .i64 6, .int .i64 0, .int .i64 0, .string ⟨#[]⟩, .int .i64 0, .int .i64 0, .slice none 0 0] 49) = w3 at *
    have HZ3 := Lib.hid (show W.heap.size + 1 + 1 < w3.heap.size from Nat.lt_of_not_le (fun hle => by have h := hg2.out; rw [Array.getElem?_eq_none hle] at h; cases h))
    obtain ⟨x0, x1, x2, x3, x4, x5, x6⟩ := cells7 hg0.out
    have CL3 := Lib.hid (fun (u : World) (hu : Below w3.heap.size w3 u) => (show Calls Tryd.prog 33 #[.slice p xs.length k] u fun e w' => ∃ q k2, e = .returned (.slice q xs.length k2) ∧ Row w' q xs.length xs ∧ (∀ a, q = some a → w3.heap.size ≤ a.block) ∧ Below w3.heap.size w3 w' from
      (CL.out u (HBT.out.trans (hu.mono HBT.out.size))).mono (by rintro e w' ⟨x', rfl, ⟨q, k2, rfl, hx⟩, hq, hb⟩; exact ⟨q, k2, rfl, hx, fun a ha => Nat.le_trans hu.size (hq a _ _ (by rw [ha])), hu.trans (hb.mono hu.size)⟩)))
    have KP := Lib.hid (fun (w6 : World) (hb6 : Below w3.heap.size w3 w6) => cells7 ((hb6.block _ (by have := HZ3.out; omega)).trans hg0.out))
    have OF := Lib.hid (fun (w6 : World) (hb6 : Below w3.heap.size w3 w6) (i : Nat) => frozen_of_row w6 (W.heap.size + 1 + 1) i _ _ ((hb6.block _ HZ3.out).trans hg2.out))
    have KY := Lib.hid (fun (w6 : World) (hb6 : Below w3.heap.size w3 w6) => cells7 ((hb6.block _ HZ3.out).trans hg2.out))
    clear CL
    go_region_with (go_at_call 33; go_loud (with_reducible refine (CL3.out w3.drew ((Below.refl _ _).drew)).mono ?_; rintro e w6 ⟨q, k2', rfl, hx', hq6, hB6⟩; obtain ⟨k0, k1, k2, k3, k4, k5, k6⟩ := KP.out w6 hB6; obtain ⟨l0, l1, l2, l3, l4, l5, l6⟩ := KY.out w6 hB6; have f4 := OF.out w6 hB6 4; have f5 := OF.out w6 hB6 5; have f6 := OF.out w6 hB6 6; have HX6 := Lib.hid hx'; have HQ6 := Lib.hid hq6; have HB6 := Lib.hid hB6; clear hx' hB6 hq6))
    all_goals
      obtain ⟨w7, hw7⟩ : ∃ w7, ((w6.setCell ⟨W.heap.size + 1 + 1, 4, none⟩ (.int .i64 who)).setCell ⟨W.heap.size + 1 + 1, 5, none⟩ (.int .i64 ar)).setCell ⟨W.heap.size + 1 + 1, 6, none⟩ (.slice q xs.length k2') = w7 := ⟨_, rfl⟩
      have r7 : w7.heap[W.heap.size + 1 + 1]? = some (.cells #[.int .i64 6, .int .i64 0, .int .i64 0, .string ⟨#[]⟩, .int .i64 who, .int .i64 ar, .slice q xs.length k2'] 49 (0, 0)) := by
        rw [← hw7]; exact set456 ((HB6.out.block _ HZ3.out).trans hg2.out)
      have q7 : w7.heap[W.heap.size + 1]? = some (.cells #[.int .i64 0, .int .i64 0, .int .i64 0, .string ⟨#[]⟩, .int .i64 0, .int .i64 0, .slice none 0 0] 49 (0, 0)) := by
        rw [← hw7, heap_setCell_other _ _ _ _ (by show W.heap.size + 1 ≠ W.heap.size + 1 + 1; omega), heap_setCell_other _ _ _ _ (by show W.heap.size + 1 ≠ W.heap.size + 1 + 1; omega), heap_setCell_other _ _ _ _ (by show W.heap.size + 1 ≠ W.heap.size + 1 + 1; omega)]
        exact (HB6.out.block _ (by have := HZ3.out; omega)).trans hg1.out
      have HX7 := Lib.hid (show Row w7 q xs.length xs from by
        have hne : ∀ a, q = some a → a.block ≠ W.heap.size + 1 + 1 := fun a ha => by have h1 := HQ6.out a ha; have h2 := HZ3.out; omega
        rw [← hw7]; exact row_setX (row_setX (row_setX HX6.out hne) hne) hne)
      have HB7 := Lib.hid (show Below W.heap.size W w7 by rw [← hw7]; exact below456 (HBT.out.trans (HB6.out.mono HBT.out.size)) (by omega))
      have HR7 := Lib.hid q7
      have HNQ := Lib.hid (show ∀ a, q = some a → a.block ≠ W.heap.size + 1 from fun a ha => by have h1 := HQ6.out a ha; have h2 := HZ3.out; omega)
      obtain ⟨m0, m1, m2, m3, m4, m5, m6⟩ := cells7 r7
      obtain ⟨n0, n1, n2, n3, n4, n5, n6⟩ := cells7 q7
      have g0 := frozen_of_row w7 (W.heap.size + 1) 0 _ _ q7
      have g1 := frozen_of_row w7 (W.heap.size + 1) 1 _ _ q7
      have g2 := frozen_of_row w7 (W.heap.size + 1) 2 _ _ q7
      have g3 := frozen_of_row w7 (W.heap.size + 1) 3 _ _ q7
      have g4 := frozen_of_row w7 (W.heap.size + 1) 4 _ _ q7
      have g5 := frozen_of_row w7 (W.heap.size + 1) 5 _ _ q7
      have g6 := frozen_of_row w7 (W.heap.size + 1) 6 _ _ q7
      rw [hw7]
      clear k0 k1 k2 k3 k4 k5 k6 l0 l1 l2 l3 l4 l5 l6 f4 f5 f6 r7 q7 hw7 x0 x1 x2 x3 x4 x5 x6 HX6 HQ6 HB6 KY KP OF CL3 hg0 hg1 hg2 HZ3 HBT
      go_wp2_with fail
      refine call_ret (c := ⟨6, 0, 0, ⟨#[]⟩, who, ar, xs⟩) rfl _ _ (W.heap.size + 1) (.slice q xs.length k2') rfl rfl (s7_row HR7.out) ?_
      have hfin : RowX (s7 w7 (W.heap.size + 1) (.int .i64 6) (.int .i64 0) (.int .i64 0) (.string ⟨#[]⟩) (.int .i64 who) (.int .i64 ar) (.slice q xs.length k2')) (.slice q xs.length k2') xs := ⟨q, k2', rfl, by
        unfold s7
        exact row_setX (row_setX (row_setX (row_setX (row_setX (row_setX (row_setX HX7.out HNQ.out) HNQ.out) HNQ.out) HNQ.out) HNQ.out) HNQ.out) HNQ.out⟩
      exact ⟨.slice q xs.length k2', by rw [ho], by rw [ho]; exact hfin, s7_below HB7.out (by omega)⟩
  · have e1 : (kd == 1) = false := by simp [h1]
    have e2 : (kd == 2) = false := by simp [h2]
    have e3 : (kd == 3) = false := by simp [h3]
    have e4 : (kd == 4) = false := by simp [h4]
    have e6 : (kd == 6) = false := by simp [h6]
    have e7 : (kd == 7) = false := by simp [h7]
    have ho : ownC ⟨kd, n, dir, s, who, ar, xs⟩ = ⟨kd, 0, 0, ⟨#[]⟩, 0, 0, []⟩ := by unfold ownC; simp only [h1, h2, h3, h4, h6, h7, false_or, if_false]
    clear h1 h2 h3 h4 h6 h7
    go_enter Tryd.func16, Tryd.ntmps16
    go_wp2_with fail
    refine call_ret (c := ⟨kd, 0, 0, ⟨#[]⟩, 0, 0, []⟩) rfl _ _ (W.heap.size + 1) (.slice none 0 0) rfl rfl (tri _ _ _ _).1 ?_
    exact ⟨.slice none 0 0, by rw [ho], by rw [ho]; exact row_nilX _, (tri _ _ _ _).2⟩
end Go.Proofs.YtoejflnlkapkiaaDoor
