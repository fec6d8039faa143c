/- The reference of layer 32: Front, Get. -/
import Derived.Test.YtncpikaegcookaaLs2
namespace Go.Proofs.Ytncpikaegcookaa
open Go.ChangeShapes Go.WideShapes Go.ChangeAt Go.RowKit
set_option linter.unusedVariables false
set_option linter.unusedSimpArgs false
theorem delN_len (s : List (Int × Int)) (k : Int) : (delN s k).length ≤ s.length := by
  cases hv : vidx s k with
  | none => rw [delN_none hv]; exact Nat.le_refl _
  | some j => rw [delN_some hv, List.length_eraseIdx]; split <;> omega
theorem owns_lit1 (w : World) (k : Int) : Owns (w.alloc (.cells #[.int .i64 k] 3)) w.heap.size 3 .i64 (.slice (some ⟨w.heap.size, 0, none⟩) 1 1) [k] :=
  World.ownsRow_lit w #[.int .i64 k] 1 (Nat.le_refl _) (by unfold maxLen; omega) rfl
/-- A cell that is no int, or that stays what it is, is set. -/
theorem reads_slot {w : World} {p : Option Addr} {xs : List Int} {a : Addr} {u v : Value} (h : Reads .i64 w p xs) (hc : w.cell? a = some u) (hu : ∀ x, u = .int .i64 x → v = u) : Reads .i64 (w.setCell a v) p xs := by
  rcases h with h | ⟨b, o, rfl, hb, hh⟩
  · exact .inl h
  · refine .inr ⟨b, o, rfl, by simpa using hb, fun i hi => ?_⟩
    have h1 := hh i hi
    by_cases e : a = ⟨b, o + i, none⟩
    · subst e
      rw [h1] at hc
      have hu2 := hu _ (Option.some.inj hc).symm
      rw [World.cell?_setCell_same _ _ _ h1, hu2, hc]
    · rw [World.cell?_setCell_other _ _ _ _ e]; exact h1
theorem LR.slot {w : World} {s : List (Int × Int)} {pk : Option Addr} {ck : Nat} {pv : Option Addr} {cv : Nat} {a : Addr} {u v : Value} (h : LR w s pk ck pv cv) (hc : w.cell? a = some u) (hu : ∀ x, u = .int .i64 x → v = u) : LR (w.setCell a v) s pk ck pv cv :=
  ⟨reads_slot h.k hc hu, reads_slot h.v hc hu, h.ck, h.cv, h.n⟩
theorem reads_far {w : World} {p : Option Addr} {xs : List Int} {B X o : Nat} {u : Value} (h : Reads .i64 w p xs) (hf : Fresh B p) (hX : X < B) : Reads .i64 (w.setCell ⟨X, o, none⟩ u) p xs := by
  rcases h with h | ⟨b, o', rfl, hb, hh⟩
  · exact .inl h
  · have hbB : B ≤ b := hf _ rfl
    exact .inr ⟨b, o', rfl, by simpa using hb, fun i hi => (World.cell?_setCell_other _ _ _ _ (by intro e; cases e; omega)).trans (hh i hi)⟩
theorem LR.far {w : World} {s : List (Int × Int)} {pk : Option Addr} {ck : Nat} {pv : Option Addr} {cv : Nat} {B X o : Nat} {u : Value} (h : LR w s pk ck pv cv) (hk : Fresh B pk) (hv : Fresh B pv) (hX : X < B) : LR (w.setCell ⟨X, o, none⟩ u) s pk ck pv cv :=
  ⟨reads_far h.k hk hX, reads_far h.v hv hX, h.ck, h.cv, h.n⟩
theorem LR.put3 {w : World} {s : List (Int × Int)} {pk : Option Addr} {ck : Nat} {pv : Option Addr} {cv : Nat} {g : Nat} {r : Int} {p q p' q' : Option Addr} {n c m d n' c' m' d' : Nat} {T : TypeId} (h : LR w s pk ck pv cv)
    (hd : w.heap[g]? = some (.cells #[.int .i64 r, .slice p n c, .slice q m d] T (0, 0))) :
    LR (((w.setCell ⟨g, 0, none⟩ (.int .i64 r)).setCell ⟨g, 1, none⟩ (.slice p' n' c')).setCell ⟨g, 2, none⟩ (.slice q' m' d')) s pk ck pv cv := by
  obtain ⟨c0, c1, c2, -, -, -⟩ := row_cells3 hd
  refine ((h.slot c0 (fun _ _ => rfl)).slot (u := .slice p n c) ?_ (fun x e => by cases e)).slot (u := .slice q m d) ?_ (fun x e => by cases e)
  · rw [World.cell?_setCell_other _ _ _ _ (by intro e; cases e)]; exact c1
  · rw [World.cell?_setCell_other _ _ _ _ (by intro e; cases e), World.cell?_setCell_other _ _ _ _ (by intro e; cases e)]; exact c2
set_option maxRecDepth 100000 in
set_option maxHeartbeats 8000000 in
theorem r32_front (room : Int) (s : List (Int × Int)) (pk : Option Addr) (ck : Nat) (pv : Option Addr) (cv : Nat) (k v : Int) (W : World) (h : LR W s pk ck pv cv) (hn : s.length ≤ 65) :
    Calls Try.prog 25 #[lrv room s.length pk ck pv cv, .int .i64 k, .int .i64 v] W fun e w' => (∃ pk ck pv cv, e = .returned (lrv room ((k, v) :: delN s k).length pk ck pv cv) ∧ LR w' ((k, v) :: delN s k) pk ck pv cv ∧ Fresh W.heap.size pk ∧ Fresh W.heap.size pv) ∧ Below W.heap.size W w' := by
  have H := Lib.hid h
  clear h
  unfold lrv
  obtain ⟨x0, hx0, r0, r1, hB, hs⟩ := clone_start W (.int .i64 room) (.slice pk s.length ck) (.slice pv s.length cv) (.int .i64 0) (.slice none 0 0) (.slice none 0 0) 32
  have HD := Lib.hid (show DS W x0 (.int .i64 room) (.slice pk s.length ck) (.slice pv s.length cv) from ⟨r0, r1, hB⟩)
  have CP := Lib.hid (r32_del room s pk ck pv cv k x0 (H.out.below hB))
  unfold lrv at CP
  go_enter Try.func25, Try.ntmps25
  go_upto_region 1 with fail
  rw [← hx0]
  clear hx0 hB hs
  obtain ⟨g0, g1, g2, f0, f1, f2⟩ := row_cells3 r0
  have hl := g_lt r0
  clear r0 r1
  go_wp2_with fail
  refine (CP.out).mono ?_
  rintro e x1 ⟨⟨pd, cd, pe, ce, rfl, h1, -, -⟩, hb1⟩
  have HD1 := Lib.hid (HD.out.next hb1)
  have HN := Lib.hid (show (delN s k).length ≤ 65 from Nat.le_trans (delN_len s k) hn)
  obtain ⟨s1, hs1⟩ : ∃ s1, delN s k = s1 := ⟨_, rfl⟩
  rw [hs1] at h1 HN ⊢
  have HS1 := Lib.hid hs1
  have H1 := Lib.hid h1
  clear g0 g1 g2 f0 f1 f2 hb1 hl h1 hs1 hn
  obtain ⟨g0, g1, g2, f0, f1, f2⟩ := row_cells3 HD1.out.d0
  have hl0 := g_lt HD1.out.d0
  obtain ⟨q0, q1, q2, e0, e1, e2⟩ := row_cells3 HD1.out.d1
  have hl1 := g_lt HD1.out.d1
  go_upto_region 2 with fail
  obtain ⟨x2, hx2⟩ : ∃ x2, x2 = ((x1.setCell ⟨W.heap.size, 0, none⟩ (.int .i64 room)).setCell ⟨W.heap.size, 1, none⟩ (.slice pd s1.length cd)).setCell ⟨W.heap.size, 2, none⟩ (.slice pe s1.length ce) := ⟨_, rfl⟩
  have HD2 := Lib.hid (show DS W x2 (.int .i64 room) (.slice pd s1.length cd) (.slice pe s1.length ce) from by
    rw [hx2]
    exact ⟨row_put3 HD1.out.d0, by rw [heap_setCell_other _ _ _ _ (by show W.heap.size + 1 ≠ W.heap.size; omega), heap_setCell_other _ _ _ _ (by show W.heap.size + 1 ≠ W.heap.size; omega), heap_setCell_other _ _ _ _ (by show W.heap.size + 1 ≠ W.heap.size; omega)]; exact HD1.out.d1, below_put3 HD1.out.be (Nat.le_refl _) _ _ _⟩)
  have H2 := Lib.hid (show LR x2 s1 pd cd pe ce by rw [hx2]; exact H1.out.put3 HD1.out.d0)
  rw [← hx2]
  clear hx2 g0 g1 g2 f0 f1 f2 q0 q1 q2 e0 e1 e2 hl0 hl1
  obtain ⟨g0, g1, g2, f0, f1, f2⟩ := row_cells3 HD2.out.d0
  have hl0 := g_lt HD2.out.d0
  have hl1 := g_lt HD2.out.d1
  go_upto_region 3 with (at_builtin; refine append_all (ys := [k]) (zs := s1.map Prod.fst) (B := x2.heap.size) (v := .slice (some ⟨x2.heap.size, 0, none⟩) 1 1) Try.underlying30 info_i64 rfl _ _ rfl rfl (owns_lit1 x2 k) rfl (by rw [List.length_map]) (readsI_below H2.out.k ((Below.refl _ _).alloc (Nat.le_refl _) _)) (by simp) (by have := HN.out; simp; omega) ?_; intro v1 y1 hO1 hb1; have HOa := Lib.hid (show Owns y1 x2.heap.size 3 .i64 v1 (((k, v) :: s1).map Prod.fst) from hO1); have HY := Lib.hid (((Below.refl _ _).alloc (Nat.le_refl _) _).trans hb1); clear hO1 hb1; obtain ⟨pa, ca, hv, -, hca, hcb⟩ := HOa.out.shape; rw [List.length_map] at hv hca; subst hv; have HaC := Lib.hid (And.intro hca hcb); clear hca hcb; have hgy := (HY.out.cell (p := ⟨W.heap.size, 1, none⟩) hl0).trans g1; have hfy : y1.frozen? ⟨W.heap.size, 1, none⟩ = false := frozen_of_row _ _ _ _ _ ((HY.out.block _ hl0).trans HD2.out.d0))
  obtain ⟨x3, hx3⟩ : ∃ x3, x3 = y1.setCell ⟨W.heap.size, 1, none⟩ (.slice pa (s1.length + 1) ca) := ⟨_, rfl⟩
  have HDa := Lib.hid (HD2.out.next HY.out)
  have HD3 := Lib.hid (show DS W x3 (.int .i64 room) (.slice pa (s1.length + 1) ca) (.slice pe s1.length ce) from by rw [hx3]; exact ⟨by rw [row_setCell3 HDa.out.d0]; rfl, by rw [heap_setCell_other _ _ _ _ (by show W.heap.size + 1 ≠ W.heap.size; omega)]; exact HDa.out.d1, HDa.out.be.setCell (p := ⟨W.heap.size, 1, none⟩) (Nat.le_refl _) _⟩)
  have HOa3 := Lib.hid (show Owns x3 x2.heap.size 3 .i64 (.slice pa (s1.length + 1) ca) (((k, v) :: s1).map Prod.fst) from by rw [hx3]; exact HOa.out.set hl0)
  have H3v := Lib.hid (show Reads .i64 x3 pe (s1.map Prod.snd) from by rw [hx3]; exact reads_slot (readsI_below H2.out.v HY.out) hgy (fun x e => by cases e))
  have H23 := Lib.hid (show x2.heap.size ≤ x3.heap.size by rw [hx3]; have := HY.out.size; simpa using this)
  have HL2 := Lib.hid hl1
  rw [← hx3]
  clear hx3 g0 g1 g2 f0 f1 f2 hgy hfy hl0 hl1
  obtain ⟨g0, g1, g2, f0, f1, f2⟩ := row_cells3 HD3.out.d0
  have hl0 := g_lt HD3.out.d0
  have hl1 := g_lt HD3.out.d1
  go_upto_region 4 with (at_builtin; refine append_all (ys := [v]) (zs := s1.map Prod.snd) (B := x3.heap.size) (v := .slice (some ⟨x3.heap.size, 0, none⟩) 1 1) Try.underlying30 info_i64 rfl _ _ rfl rfl (owns_lit1 x3 v) rfl (by rw [List.length_map]) (readsI_below H3v.out ((Below.refl _ _).alloc (Nat.le_refl _) _)) (by simp) (by have := HN.out; simp; omega) ?_; intro v2 y2 hO2 hb2; have HOb := Lib.hid (show Owns y2 x3.heap.size 3 .i64 v2 (((k, v) :: s1).map Prod.snd) from hO2); have HY2 := Lib.hid (((Below.refl _ _).alloc (Nat.le_refl _) _).trans hb2); clear hO2 hb2; obtain ⟨pb, cb, hv, -, hca, hcb⟩ := HOb.out.shape; rw [List.length_map] at hv hca; subst hv; have HbC := Lib.hid (And.intro hca hcb); clear hca hcb; have hgy := (HY2.out.cell (p := ⟨W.heap.size, 2, none⟩) hl0).trans g2; have hfy : y2.frozen? ⟨W.heap.size, 2, none⟩ = false := frozen_of_row _ _ _ _ _ ((HY2.out.block _ hl0).trans HD3.out.d0))
  obtain ⟨x4, hx4⟩ : ∃ x4, x4 = y2.setCell ⟨W.heap.size, 2, none⟩ (.slice pb (s1.length + 1) cb) := ⟨_, rfl⟩
  have HDb := Lib.hid (HD3.out.next HY2.out)
  have HD4 := Lib.hid (show DS W x4 (.int .i64 room) (.slice pa (s1.length + 1) ca) (.slice pb (s1.length + 1) cb) from by rw [hx4]; exact ⟨by rw [row_setCell3 HDb.out.d0]; rfl, by rw [heap_setCell_other _ _ _ _ (by show W.heap.size + 1 ≠ W.heap.size; omega)]; exact HDb.out.d1, HDb.out.be.setCell (p := ⟨W.heap.size, 2, none⟩) (Nat.le_refl _) _⟩)
  have HOa4 := Lib.hid (show Owns x4 x2.heap.size 3 .i64 (.slice pa (s1.length + 1) ca) (((k, v) :: s1).map Prod.fst) from by rw [hx4]; exact (HOa3.out.below HY2.out).set (Nat.lt_trans (Nat.lt_succ_self _) HL2.out))
  have HOb4 := Lib.hid (show Owns x4 x3.heap.size 3 .i64 (.slice pb (s1.length + 1) cb) (((k, v) :: s1).map Prod.snd) from by rw [hx4]; exact HOb.out.set hl0)
  have HL3 := Lib.hid hl1
  rw [← hx4]
  clear hx4 g0 g1 g2 f0 f1 f2 hgy hfy hl0 hl1
  obtain ⟨g0, g1, g2, f0, f1, f2⟩ := row_cells3 HD4.out.d0
  obtain ⟨q0, q1, q2, e0, e1, e2⟩ := row_cells3 HD4.out.d1
  have hl0 := g_lt HD4.out.d0
  have hl1 := g_lt HD4.out.d1
  have HZ := Lib.hid (row_put3 (a := .int .i64 room) (b := .slice pa (s1.length + 1) ca) (c := .slice pb (s1.length + 1) cb) HD4.out.d1)
  have HZB := Lib.hid (below_put3 (g := W.heap.size + 1) HD4.out.be (by omega) (.int .i64 room) (.slice pa (s1.length + 1) ca) (.slice pb (s1.length + 1) cb))
  have HOa7 := Lib.hid (((HOa4.out.set (X := W.heap.size + 1) (o := 0) (u := .int .i64 room) HL2.out).set (X := W.heap.size + 1) (o := 1) (u := .slice pa (s1.length + 1) ca) HL2.out).set (X := W.heap.size + 1) (o := 2) (u := .slice pb (s1.length + 1) cb) HL2.out)
  have HOb7 := Lib.hid (((HOb4.out.set (X := W.heap.size + 1) (o := 0) (u := .int .i64 room) HL3.out).set (X := W.heap.size + 1) (o := 1) (u := .slice pa (s1.length + 1) ca) HL3.out).set (X := W.heap.size + 1) (o := 2) (u := .slice pb (s1.length + 1) cb) HL3.out)
  go_wp2_with fail
  refine bodyPost_ret (results_cell_row (p := 6) (ty := 32) rfl _ _ _ 32 #[.int .i64 room, .slice pa (s1.length + 1) ca, .slice pb (s1.length + 1) cb] (0, 0) _ rfl HZ.out Try.underlying32 rfl (by kernel_rfl)) rfl ?_
  exact ⟨⟨pa, ca, pb, cb, by rw [HS1.out], by rw [HS1.out]; exact ⟨HOa7.out.reads, HOb7.out.reads, HaC.out, HbC.out, by have := HN.out; rw [List.length_cons]; omega⟩, HOa7.out.fresh.mono HD2.out.be.size, HOb7.out.fresh.mono (Nat.le_trans HD2.out.be.size H23.out)⟩, HZB.out⟩
end Go.Proofs.Ytncpikaegcookaa
