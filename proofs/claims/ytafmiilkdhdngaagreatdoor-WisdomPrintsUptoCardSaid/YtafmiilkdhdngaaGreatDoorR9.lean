/- Put together by program (merge2.py): Cloneg Rangeb Stk. -/
import Derived.Deep.RegionWith
import Derived.Deep.DeepCutAuto
import Derived.RangeFuncFrom
import Derived.RangeFuncNested
import Derived.RangeFuncBound
import Derived.RangeFuncCalls
import Derived.RangeFuncLeaves
import Derived.Shelf.Abstract
import Derived.Shelf.RegionOpen
import Derived.WalkKit
import Derived.OwnWalkIn
import Derived.TacticsInMore
import Derived.LoopNIn
import Derived.LoopIn
import Derived.Test.YtafmiilkdhdngaaGreatDoorD11
import Derived.Test.YtafmiilkdhdngaaGreatDoorR7
import Derived.Test.YtafmiilkdhdngaaGreatDoorR8
/- package desc's Clone, for every tree. -/
namespace Go.Proofs.YtafmiilkdhdngaaGreatDoor
open Go.ChangeShapes Go.WideShapes Go.ChangeAt Go.RowKit
set_option linter.unusedVariables false
set_option linter.unusedSimpArgs false
/-- All nodes below one, level by level, in a block of new memory. -/
structure Cloned (w : World) (F : Nat) (f : Fo) (q : List Nd) : Prop where
  blk : F < w.heap.size
  room : ∀ x, x < f.cnt * 3 → (w.cell? ⟨F, x, none⟩).isSome = true
  free : ∀ x, w.frozen? ⟨F, x, none⟩ = false
  laid : Laid w F f.len q (fun _ => True)
  top : Ly q f 0
  full : Full f.len q
  rises : Rises f.len q
  len : q.length = f.cnt
theorem Cloned.kids {w : World} {F lim : Nat} {f : Fo} {q : List Nd} (h : Cloned w F f q) (hF : F < lim) (hC : f.cnt ≤ 1048576) : Kids w lim (kidv F 0 f.len) f := by
  have h1 := h.top.len
  have h2 := h.len
  refine kidv_kids (by unfold maxLen; omega) ?_
  exact laid_at hF h.laid h.full f 0 h.top (fun _ _ _ _ => trivial)
theorem Cloned.below {w w' : World} {F : Nat} {f : Fo} {q : List Nd} (h : Cloned w F f q) (hb : w'.heap[F]? = w.heap[F]?) (hz : w.heap.size ≤ w'.heap.size) : Cloned w' F f q := by
  have hc : ∀ x, w'.cell? ⟨F, x, none⟩ = w.cell? ⟨F, x, none⟩ := fun x => World.cell?_of_block hb
  refine ⟨Nat.lt_of_lt_of_le h.blk hz, fun x hx => by rw [hc]; exact h.room x hx, fun x => (World.frozen?_of_block (a := ⟨F, x, none⟩) hb).trans (h.free x), fun j d hj hq => ?_, h.top, h.full, h.rises, h.len⟩
  obtain ⟨a, b, c⟩ := h.laid j d hj hq
  exact ⟨(hc _).trans a, (hc _).trans b, (hc _).trans c⟩
theorem kidv_form (F s n : Nat) : ∃ a c, kidv F s n = .slice a n c := by
  cases n with
  | zero => exact ⟨_, _, rfl⟩
  | succ n => exact ⟨_, _, rfl⟩
/-- The state of Clone's loop. -/
structure ClR (W w : World) (F b C : Nat) (k n : Int) (f : Fo) (q : List Nd) (i : Nat) : Prop where
  lv : Lv f q i
  fl : Fl w F W.heap.size C f.len q i
  bx : Bx w b 40 (.slice (some ⟨F, 0, none⟩) q.length C)
  d0 : w.heap[W.heap.size]? = some (.cells #[.int .i64 k, .int .i64 n, kidv F 0 f.len] 42 (0, 0))
  d1 : w.heap[W.heap.size + 1]? = some (.cells #[.int .i64 0, .int .i64 0, .slice none 0 0] 42 (0, 0))
  be : Below W.heap.size W w
theorem ClR.step {W w w0 w6 : World} {F C : Nat} {k n : Int} {f : Fo} {q : List Nd} {i : Nat} (h : ClR W w F (F + 1) C k n f q i) (h0 : w0.heap = w.heap) (hb0 : Below W.heap.size w w0) {d : Nd} (hd : q[i]? = some d) (hF : Fl w6 F W.heap.size C f.len (q ++ d.ks.top) i) (hZ : Bx w6 (F + 1) 40 (.slice (some ⟨F, 0, none⟩) (q.length + d.ks.len) C))
    (hX : ∀ X, X ≠ F → X ≠ F + 1 → X < w0.heap.size → w6.heap[X]? = w0.heap[X]?) (hB : ∀ B, B ≤ F → B ≤ F + 1 → Below B w0 w6) (hW : W.heap.size + 1 < F) (hz : F < w.heap.size) : ClR W (w6.setCell ⟨F, i * 3 + 2, none⟩ (kidv F q.length d.ks.len)) F (F + 1) C k n f (q ++ d.ks.top) (i + 1) := by
  have hlt := (List.getElem?_eq_some_iff.1 hd).1
  have hdi : (q ++ d.ks.top)[i]? = some d := by rw [List.getElem?_append_left hlt]; exact hd
  have hp : pos f.len (q ++ d.ks.top) i = q.length := by rw [pos_append _ _ _ _ h.lv.le]; exact h.lv.nx
  have hs := hF.store (by omega) hdi
  rw [hp] at hs
  have e6 : ∀ j, j ≠ F → (w6.setCell ⟨F, i * 3 + 2, none⟩ (kidv F q.length d.ks.len)).heap[j]? = w6.heap[j]? := fun j hj => heap_setCell_other _ _ _ _ hj
  refine ⟨h.lv.step hd, hs, ?_, ?_, ?_, ?_⟩
  · unfold Bx
    rw [e6 _ (by omega), List.length_append, Fo.top_len]
    exact hZ
  · rw [e6 _ (by omega), hX _ (by omega) (by omega) (by rw [h0]; omega), h0]; exact h.d0
  · rw [e6 _ (by omega), hX _ (by omega) (by omega) (by rw [h0]; omega), h0]; exact h.d1
  · exact (h.be.trans (hb0.trans (hB W.heap.size (by omega) (by omega)))).setCell (p := ⟨F, i * 3 + 2, none⟩) (show W.heap.size ≤ F by omega) _
theorem ClR.done {W w : World} {F b C : Nat} {k n : Int} {f : Fo} {q : List Nd} (h : ClR W w F b C k n f q q.length) (hC : f.cnt = C) (hc : C ≤ 1048576) : Cloned w F f q := by
  obtain ⟨h1, h2, h3⟩ := h.lv.done (by omega)
  refine ⟨h.fl.blk, fun x hx => h.fl.room x (by omega), h.fl.free, fun j d _ hj => ?_, h.lv.top, h2, h3, h1⟩
  obtain ⟨a, b⟩ := h.fl.num j d hj
  exact ⟨a, b, h.fl.new j d hj (List.getElem?_eq_some_iff.1 hj).1⟩
theorem make_descs (w : World) (C : Nat) (hC : C ≤ 1048576) : ∃ w', (Instr.makeSlice 40 (.int .i64 0) (.int .i64 C)).run Tryz.prog w = .ok (.slice (some ⟨w.heap.size, 0, none⟩) 0 C) w' ∧ Below w.heap.size w w' ∧ w'.heap.size = w.heap.size + 1 ∧ ∀ lim m, Fl w' w.heap.size lim C m [] 0 := by
  obtain ⟨i, hi, hz, hs, hb⟩ := info_parts (show (Tryz.prog.info? 42).map (fun i => (i.zero, i.size, i.bytes)) = some (some (.agg #[.int .i64 0, .int .i64 0, .slice none 0 0]), 3, 40) by kernel_rfl)
  have hr := run_make w 40 42 i _ Tryz.underlying40 hi hz .i64 .i64 0 (C : Int) (by omega) (by omega) (by rw [hb]; omega) (by omega)
  rw [hs] at hr
  refine ⟨_, hr, (Below.refl _ _).alloc (Nat.le_refl _) _, World.size_alloc _ _, fun lim m => ?_⟩
  have hn := heap_alloc_new w (.cells (madeCells (Value.cells (.agg #[.int .i64 0, .int .i64 0, .slice none 0 0])) ((C : Int).toNat * 3)) 42)
  refine ⟨by simp, fun x hx => ?_, fun x => frozen_of_row _ _ _ _ _ hn, fun j d h => by simp at h, fun j d h => by simp at h, fun j d h => by simp at h⟩
  rw [cell_of_row _ _ _ _ _ _ hn, Array.getElem?_eq_getElem (by rw [size_madeCells]; simp; omega)]
  rfl
set_option maxRecDepth 100000 in
set_option maxHeartbeats 4000000 in
theorem desc_clone_of (k n : Int) (v : Value) (f : Fo) (lim : Nat) (W : World) (hK : Kids W lim v f) (hl : lim ≤ W.heap.size) (hC : f.cnt ≤ 1048576)
    (ND : ∀ w, Below W.heap.size W w → Calls Tryz.prog 80 #[.agg #[.int .i64 k, .int .i64 n, v]] w fun e w' => e = .returned (.int .i64 ((f.cnt : Int) + 1)) ∧ Below w.heap.size w w') :
    Calls Tryz.prog 60 #[.agg #[.int .i64 k, .int .i64 n, v]] W fun e w' => ∃ F q, e = .returned (.agg #[.int .i64 k, .int .i64 n, kidv F 0 f.len]) ∧ Cloned w' F f q ∧ W.heap.size ≤ F ∧ Below W.heap.size W w' := by
  obtain ⟨w0, hw0, r0, r1, hB, hs⟩ := clone_start W (.int .i64 k) (.int .i64 n) v (.int .i64 0) (.int .i64 0) (.slice none 0 0) 42
  have l0 : W.heap.size < w0.heap.size := by omega
  have l1 : W.heap.size + 1 < w0.heap.size := by omega
  have hK0 := (hK.mono hl).below (Nat.le_refl _) hB
  have ND := Lib.hid (ND w0 hB)
  obtain ⟨C, hCC⟩ : ∃ C, f.cnt = C := ⟨_, rfl⟩
  rw [hCC] at ND hC
  have wC : IntKind.i64.wrap ((C : Int) + 1 - 1) = (C : Int) := by rw [show (C : Int) + 1 - 1 = (C : Int) by omega]; exact IntWalk.i64_in _ (by omega)
  obtain ⟨p, m, c, rfl, hc1, hc2, HM⟩ := hK.shape
  have HK := Lib.hid hK0
  clear hK hK0
  go_enter Tryz.func60, Tryz.ntmps60
  go_wp2_with fail
  rw [← hw0]
  clear hw0
  refine (ND.out).mono ?_
  rintro e w1 ⟨rfl, b1⟩
  obtain ⟨w2, mk, b2, s2, hF⟩ := make_descs w1 C hC
  obtain ⟨w3, hw3⟩ : ∃ w3, w2.alloc (.cells #[.slice (some ⟨w1.heap.size, 0, none⟩) 0 C] 40) = w3 := ⟨_, rfl⟩
  have b3 : Below w1.heap.size w1 w3 := by rw [← hw3]; exact b2.alloc b2.size _
  have z0 : Bx w3 w2.heap.size 40 (.slice (some ⟨w1.heap.size, 0, none⟩) 0 C) := by rw [← hw3]; exact Bx.new w2 40 _ _ rfl
  have hF3 : Fl w3 w1.heap.size W.heap.size C f.len [] 0 := by
    rw [← hw3]
    exact (hF W.heap.size f.len).below (by have := b1.size; omega) ((Below.refl _ _).alloc (Nat.le_refl _) _)
  have b4 := b1.trans (b3.mono b1.size)
  have s0 := (b4.block _ l0).trans r0
  have s1 := (b4.block _ l1).trans r1
  have hB3 := hB.trans (b4.mono hB.size)
  have hK3 := HK.out.carry (b4.mono hB.size)
  have m0 : W.heap.size + 1 < w1.heap.size := by have := b1.size; omega
  obtain ⟨b, hb⟩ : ∃ b, w2.heap.size = b := ⟨_, rfl⟩
  rw [hb] at z0
  obtain ⟨F, hFF⟩ : ∃ F, w1.heap.size = F := ⟨_, rfl⟩
  rw [hFF] at z0 hF3 m0 mk hw3
  have hbF : b = F + 1 := by omega
  have m2 : b < w3.heap.size := z0.lt
  subst hbF
  obtain ⟨ka, kc, hkv⟩ := kidv_form F 0 f.len
  have HP := clone_part f (.slice p m c) w3 F (F + 1) W.heap.size C f.len 0 [] hF3 z0 hK3 (by omega) (by omega) (by omega) (by have := Fo.top_kin f; simp; omega) (Nat.zero_le _) hC
  rw [show ([] : List Nd).length = 0 from rfl, hkv] at HP
  have HP := Lib.hid HP
  clear b1 b2 b3 b4 r0 r1 hB l0 l1 hs HK z0 hF3 hK3
  obtain ⟨x0, x1, x2, f0, f1, f2⟩ := row_cells3 s0
  obtain ⟨y0, y1, y2, g0, g1, g2⟩ := row_cells3 s1
  go_wp2_with fail
  with_reducible refine (HP.out).mono ?_
  rintro e w4 ⟨rfl, hF4, z4, s4, hX4, hB4⟩
  have t0 := (hX4 W.heap.size (by omega) (by omega) (by omega)).trans s0
  have t1 := (hX4 (W.heap.size + 1) (by omega) (by omega) (by omega)).trans s1
  have hB4 := hB3.trans (hB4 W.heap.size (by omega) (by omega))
  obtain ⟨w5, hw5⟩ : ∃ w5, w4.setCell ⟨W.heap.size, 2, none⟩ (.slice ka f.len kc) = w5 := ⟨_, rfl⟩
  have e5 : ∀ j, j ≠ W.heap.size → w5.heap[j]? = w4.heap[j]? := fun j hj => by rw [← hw5]; exact heap_setCell_other _ _ _ _ hj
  have hB5 : Below W.heap.size w4 w5 := by rw [← hw5]; exact (Below.refl _ _).setCell (p := ⟨W.heap.size, 2, none⟩) (Nat.le_refl _) _
  have H5 : ClR W w5 F (F + 1) C k n f f.top 0 := by
    refine ⟨Lv.start f, ?_, ?_, ?_, (e5 _ (by omega)).trans t1, hB4.trans hB5⟩
    · exact (by simpa using hF4 : Fl w4 F W.heap.size C f.len f.top 0).keep (e5 _ (by omega)) hB5
    · unfold Bx
      rw [e5 _ (by omega)]
      rw [Fo.top_len]
      have := z4
      rw [Nat.zero_add] at this
      exact this
    · rw [← hw5, row_setCell3 t0, hkv]; rfl
  clear x0 x1 x2 f0 f1 f2 y0 y1 y2 g0 g1 g2 s0 s1 hB3 hw3 hF4 z4 s4 hX4 hB4 hB5 e5 mk hF
  obtain ⟨x0, x1, x2, f0, f1, f2⟩ := row_cells3 t0
  go_wp2_with fail
  clear x0 x1 x2 f0 f1 f2 t0 t1 hw5
  have H5 := Lib.hid H5
  go_loopw [5] (fun x wr => ∃ (i : Nat) (q : List Nd), x = .int .i64 i ∧ Hid (ClR W wr F (F + 1) C k n f q i)) (fun x _ => C - (intOf x).toNat)
  case atStart => exact ⟨0, _, rfl, H5⟩
  case round =>
    clear H5
    obtain ⟨i, q, rfl, H⟩ := hrel
    have zb := H.out.bx.cell
    obtain ⟨L, hL⟩ : ∃ L, q.length = L := ⟨_, rfl⟩
    rw [hL] at zb
    by_cases hi : i < L
    · have d1 : decide ((i : Int) < (L : Int)) = true := decide_eq_true (by omega)
      obtain ⟨d, hd⟩ : ∃ d, q[i]? = some d := ⟨q[i]'(by omega), List.getElem?_eq_getElem (by omega)⟩
      obtain ⟨v, hv, hKv⟩ := H.out.fl.old i d hd (Nat.le_refl _)
      obtain ⟨a', c', rfl, hc1', hc2'⟩ := hKv.form
      obtain ⟨ja, jc, hjv⟩ := kidv_form F L d.ks.len
      have hr := H.out.lv.room hd
      rw [hL, hCC] at hr
      have fF : wr.frozen? ⟨F, i * 3 + 2, none⟩ = false := H.out.fl.free _
      have HPd := Lib.hid (fun (u : World) (hu1 : u.heap = wr.heap) (hu2 : Below W.heap.size wr u) => clone_part d.ks (.slice a' d.ks.len c') u F (F + 1) W.heap.size C f.len i q (H.out.fl.keep (by rw [hu1]) hu2) (by unfold Bx; rw [hu1]; exact H.out.bx) (hKv.carry hu2) (by omega) (by omega) (by omega) (by omega) (by omega) hC)
      rw [hL, hjv] at HPd
      have a1 : i < L + d.ks.len := by omega
      have lC : L ≤ C := by omega
      have lC2 : L + d.ks.len ≤ C := by omega
      have HX := Lib.hid hd
      clear hKv hd
      go_wp2_with fail
      go_region_with (go_at_call 81; with_reducible refine (HPd.out wr.drew rfl ((Below.refl _ _).drew)).mono ?_; rintro e w6 ⟨rfl, hF6, z6, s6, hX6, hB6⟩; obtain ⟨v6, hv6, -⟩ := hF6.old i d (by rw [List.getElem?_append_left (by omega)]; exact HX.out) (Nat.le_refl _); have zc6 := z6.cell; have f6 : w6.frozen? ⟨F, i * 3 + 2, none⟩ = false := hF6.free _; have H6 := Lib.hid hF6; have Z6 := Lib.hid z6; have X6 := Lib.hid hX6; have B6 := Lib.hid hB6; clear hF6 z6 hX6 hB6)
      all_goals
        have HN := Lib.hid (show ClR W (w6.setCell ⟨F, i * 3 + 2, none⟩ (.slice ja d.ks.len jc)) F (F + 1) C k n f (q ++ d.ks.top) (i + 1) by
          have := H.out.step (w0 := wr.drew) rfl ((Below.refl _ _).drew) HX.out H6.out (by rw [hL]; exact Z6.out) X6.out B6.out m0 H.out.fl.blk
          rw [hL, hjv] at this
          exact this)
        clear hv6 zc6 f6 zb hv fF
        go_wp2_with fail
        go_roundw
        case rel => exact ⟨i + 1, _, by go_num, HN⟩
        case measure => (first | (simp [intOf]; done) | (simp [intOf]; omega) | (simp only [intOf]; omega))
    · have hiL : i = L := by have := H.out.lv.le; omega
      have d1 : decide ((i : Int) < (L : Int)) = false := decide_eq_false (by omega)
      obtain ⟨x0, x1, x2, f0, f1, f2⟩ := row_cells3 H.out.d0
      obtain ⟨y0, y1, y2, g0, g1, g2⟩ := row_cells3 H.out.d1
      rw [hkv] at x2
      have hD := (show ClR W wr F (F + 1) C k n f q q.length by rw [hL, ← hiL]; exact H.out).done hCC hC
      have hD := Lib.hid hD
      have HR := Lib.hid (show (((wr.setCell ⟨W.heap.size + 1, 0, none⟩ (.int .i64 k)).setCell ⟨W.heap.size + 1, 1, none⟩ (.int .i64 n)).setCell ⟨W.heap.size + 1, 2, none⟩ (.slice ka f.len kc)).heap[W.heap.size + 1]? = some (.cells #[.int .i64 k, .int .i64 n, .slice ka f.len kc] 42 (0, 0)) by rw [row_setCell3 (row_setCell3 (row_setCell3 H.out.d1 _) _) _]; rfl)
      have HB := Lib.hid (((H.out.be.setCell (p := ⟨W.heap.size + 1, 0, none⟩) (show W.heap.size ≤ W.heap.size + 1 by omega) (.int .i64 k)).setCell (p := ⟨W.heap.size + 1, 1, none⟩) (show W.heap.size ≤ W.heap.size + 1 by omega) (.int .i64 n)).setCell (p := ⟨W.heap.size + 1, 2, none⟩) (show W.heap.size ≤ W.heap.size + 1 by omega) (.slice ka f.len kc))
      have HC := Lib.hid (show Cloned (((wr.setCell ⟨W.heap.size + 1, 0, none⟩ (.int .i64 k)).setCell ⟨W.heap.size + 1, 1, none⟩ (.int .i64 n)).setCell ⟨W.heap.size + 1, 2, none⟩ (.slice ka f.len kc)) F f q from hD.out.below (by rw [heap_setCell_other _ _ _ _ (by show F ≠ W.heap.size + 1; omega), heap_setCell_other _ _ _ _ (by show F ≠ W.heap.size + 1; omega), heap_setCell_other _ _ _ _ (by show F ≠ W.heap.size + 1; omega)]) (by simp))
      clear hD H
      go_wp2_with fail
      refine bodyPost_ret (results_cell_row (p := 2) (ty := 42) rfl _ _ _ 42 #[.int .i64 k, .int .i64 n, .slice ka f.len kc] (0, 0) _ rfl HR.out Tryz.underlying42 rfl (by kernel_rfl)) rfl ?_
      exact ⟨F, q, by rw [hkv], HC.out, by omega, HB.out⟩
end Go.Proofs.YtafmiilkdhdngaaGreatDoor
/- A range over a function whose iterator writes, behind a yield, into memory that it laid itself. -/
namespace Go.Proofs.YtafmiilkdhdngaaGreatDoor
open Go.ChangeShapes Go.WideShapes Go.ChangeAt Go.RowKit
set_option linter.unusedVariables false
set_option linter.unusedSimpArgs false
/-- What is said of blocks before B alone. -/
def Low {β : Type} (B : Nat) (J : β → World → Prop) : Prop := ∀ s A C, J s A → Below B A C → J s C
theorem Low.le {β : Type} {B B' : Nat} {J : β → World → Prop} (h : Low B J) (hB : B ≤ B') : Low B' J := fun s A C hj hb => h s A C hj (hb.mono hB)
theorem Low.and {β : Type} {B : Nat} {J K : β → World → Prop} (h : Low B J) (g : Low B K) : Low B (fun s W => J s W ∧ K s W) := fun s A C hj hb => ⟨h s A C hj.1 hb, g s A C hj.2 hb⟩
theorem low_block {β : Type} {B l : Nat} {o : Obj} (hl : l < B) : Low B (fun (_ : β) W => W.heap[l]? = some o) := fun _ _ _ hj hb => (hb.block l hl).trans hj
theorem low_put {β : Type} {B l : Nat} {J : β → World → Prop} (h : Low B J) {s : β} {W : World} (o : Obj) (hj : J s W) (hB : B ≤ l) (hl : l < W.heap.size) : J s (W.putObj l o) :=
  h s _ _ hj ((Below.refl B W).grown (grownBy_putObj' W l o) (by omega) (fun k e => by cases e; exact hB))
/-- The iterator's contract: what it does itself, between its yields, is to memory from its call on. -/
def SeqLow {α : Type} (F : Fence) (n : Nat) (P : Program) (g : Nat) (lb : Array Value) (enc : α → Array Value) (Kp : World → World → Prop) (S Sp : List α → Prop) (N : Nat) (w : World) : Prop :=
  ∀ (l : Nat) (J Jx : List α → World → Prop) (W : World), Below w.heap.size w W → Low W.heap.size J → Low W.heap.size Jx →
    (∀ pre x V, J pre V → pre.length < N → YieldAt F (n - 1) P l (enc x) V fun e V' => (e = .returned (.bool true) ∧ J (pre ++ [x]) V' ∧ Kp V V') ∨ (e = .returned (.bool false) ∧ Jx (pre ++ [x]) V')) →
    J [] W → CallsIn F n P g (#[.func (.yield l) #[] #[]] ++ lb) W fun e W' => (∃ v, e = .returned v) ∧ ((∃ xs, S xs ∧ J xs W') ∨ ∃ pre, Sp pre ∧ Jx pre W')
variable {F : Fence} {n : Nat} {P : Program}
theorem wp_range_low {α : Type} {g : Operand} {ps : Array Tmp} {assign body : Code} {Q : Exit → Act → World → Prop} {a : Act} {w : World}
    (hro : F.round = none) (h1 : 1 ≤ n) {gf : Nat} {lb : Array Value} (hg : a.eval g = .func (.func gf) #[] lb) (hFg : F.fn gf) (eg : ∀ args w, (callFunc gf args).run P w = .ok (.enter gf args) w)
    {enc : α → Array Value} {Kp : World → World → Prop} {S Sp : List α → Prop} {N : Nat} {w0 : World} (hseq : SeqLow F (n - 1) P gf lb enc Kp S Sp N w0)
    (hKt : ∀ A B C : World, Kp A B → Kp B C → Kp A C) (hKb : ∀ (W : World) (l : Nat) (o o' : Obj), w.heap.size ≤ l → W.heap[l]? = some o → o.isCells = false → Kp W (W.putObj l o')) (hb0 : Below w0.heap.size w0 w) (hps : ∀ x, (enc x).size = ps.size)
    (I : List α → World → Prop) (Ix : Code → List α → World → Prop) (hI : Low w.heap.size I) (hIx : ∀ c, Low w.heap.size (Ix c)) (h0 : I [] w) (a₁ : α → Act)
    (hassign : ∀ (l : Nat) (x : α) (W : World) (K : Act → World → Prop), K (a₁ x) W →
      assign.wpIn (F.inRound l) (n - 1 - 1) P (Exit.then K (fun _ _ _ => False)) { tmps := (ps.zip (enc x)).foldl (fun t (p, v) => t.setIfInBounds p v) a.tmps, defers := [] } W)
    (hbody : ∀ (l : Nat) (pre : List α) (x : α) (W : World), I pre W → pre.length < N → body.wpIn (F.inRound l) (n - 1 - 1) P (ownPostK Kp I Ix (pre ++ [x]) W) (a₁ x) W)
    (hdone : ∀ (D : Nat) (xs : List α) (W : World), w.heap.size ≤ D → S xs → I xs W → W.heap[D]? = some (.deferred (some [])) → Q .normal { a with defers := { target := .collected D, args := #[] } :: a.defers } W)
    (hstop : ∀ (D : Nat) (c : Code) (pre : List α) (W : World), w.heap.size ≤ D → Sp pre → Ix c pre W → W.heap[D]? = some (.deferred (some [])) → c.wpIn F n P Q { a with defers := { target := .collected D, args := #[] } :: a.defers } W) :
    (Code.rangeFunc g ps assign body).wpIn F n P Q a w := by
  refine wpIn_rangeFunc (fun fn hfn => ?_)
  rw [hro]
  -- the loop as an object, by its state and what is to be done behind it
  let ob : LoopState → Option Code → Loop := fun st pe => { state := st, pending := pe, fn, tmps := a.tmps, params := ps, assign, body, defers := w.heap.size }
  obtain ⟨L, hL⟩ : ∃ L, w.heap.size + 1 = L := ⟨_, rfl⟩
  obtain ⟨W1, hW1⟩ : ∃ W1, (w.alloc (.deferred (some []))).alloc (.loop (ob .ready none)) = W1 := ⟨_, rfl⟩
  have s1 : W1.heap.size = L + 1 := by rw [← hW1, ← hL]; simp
  have hl1 : W1.heap[L]? = some (.loop (ob .ready none)) := by
    have := World.alloc_heap_new (w.alloc (.deferred (some []))) (.loop (ob .ready none))
    rwa [World.size_alloc, hW1, hL] at this
  have hd1 : W1.heap[w.heap.size]? = some (.deferred (some [])) := by
    rw [← hW1]; exact (Below.heap_alloc _ _ _ (by simp)).trans (World.alloc_heap_new w _)
  have b1 : Below w.heap.size w W1 := by rw [← hW1]; exact ((Below.refl _ w).alloc (Nat.le_refl _) _).alloc (by simp) _
  refine ⟨L, [{ target := .collected w.heap.size, args := #[] }], W1, { target := .fn (.func gf) lb, args := #[.func (.yield L) #[] #[]] }, W1, gf, #[.func (.yield L) #[] #[]] ++ lb, W1, ?_, ?_, ?_, ?_, fun _ => h1, ?_⟩
  · rw [← hW1, ← hL]; exact run_enterLoop_outer _ _ _ _ _
  · simp only [resolve, hg]; simp [go_sem]
  · intro f' hf'; simp [Target.leads] at hf'; subst hf'; exact hFg
  · simp [invoke, go_sem, eg]
  have hlow : ∀ (st : LoopState) (pe : Option Code), Low (β := List α) W1.heap.size (fun _ W => W.heap[L]? = some (.loop (ob st pe)) ∧ W.heap[w.heap.size]? = some (.deferred (some []))) := fun _ _ => (low_block (by omega)).and (low_block (by omega))
  refine (hseq L (fun pre W => I pre W ∧ W.heap[L]? = some (.loop (ob .ready none)) ∧ W.heap[w.heap.size]? = some (.deferred (some [])))
    (fun pre W => ∃ c, Ix c pre W ∧ W.heap[L]? = some (.loop (ob .done (some c))) ∧ W.heap[w.heap.size]? = some (.deferred (some [])))
    W1 (hb0.trans (b1.mono hb0.size)) ((hI.le (by omega)).and (hlow _ _)) (fun s A C hj hb => by
      obtain ⟨c, h1, h2⟩ := hj
      exact ⟨c, (hIx c).le (by omega) s A C h1 hb, hlow _ _ s A C h2 hb⟩) ?_ ⟨hI [] w W1 h0 b1, hl1, hd1⟩).mono ?_
  · -- one round
    rintro pre x V ⟨hi, hl, hd⟩ hn
    have hsz : L < V.heap.size := (Array.getElem?_eq_some_iff.1 hl).1
    obtain ⟨V1, hV1⟩ : ∃ V1, V.putObj L (.loop { ob .ready none with state := .busy }) = V1 := ⟨_, rfl⟩
    have hl1' : V1.heap[L]? = some (.loop { ob .ready none with state := .busy }) := by rw [← hV1]; exact World.putObj_heap_same hsz
    have hd1' : V1.heap[w.heap.size]? = some (.deferred (some [])) := by rw [← hV1]; exact (World.putObj_heap_other (by omega)).trans hd
    have k1 : Kp V V1 := by rw [← hV1]; exact hKb _ _ _ _ (by omega) hl rfl
    have i1 : I pre V1 := by rw [← hV1]; exact low_put hI _ hi (by omega) hsz
    refine ⟨fn, _, assign, body, run_yield (P := P) (args := enc x) hl (hps x), roundIn_of_wpIn hfn (hassign _ x V _ ⟨V1, by rw [← hV1]; exact run_beginRound hl rfl, ?_⟩)⟩
    -- behind the body: the loop's object is as it was; its end is written
    have fin : ∀ (j : Option Code) (V2 : World), KeepsOthers V1 V2 → ∃ V3, (Instr.endRound L j).run P V2 = .ok (.bool j.isNone) V3 ∧ V2.putObj L (.loop (ob (if j.isNone then .ready else .done) j)) = V3 ∧
        V2.heap[L]? = some (.loop { ob .ready none with state := .busy }) ∧ V3.heap[L]? = some (.loop (ob (if j.isNone then .ready else .done) j)) ∧ V3.heap[w.heap.size]? = some (.deferred (some [])) := fun j V2 hk => by
      have e := hk.same _ _ hl1' rfl
      exact ⟨_, run_endRound (P := P) j e, rfl, e, World.putObj_heap_same (Array.getElem?_eq_some_iff.1 e).1, (World.putObj_heap_other (by omega)).trans (hk.same _ _ hd1' rfl)⟩
    have out : ∀ (c : Code) (V2 : World), KeepsOthers V1 V2 → Ix c (pre ++ [x]) V2 → ∃ b V3, (Instr.endRound L (some c)).run P V2 = .ok b V3 ∧ ((Ending.returned b = .returned (.bool true) ∧ (I (pre ++ [x]) V3 ∧ V3.heap[L]? = some (.loop (ob .ready none)) ∧ V3.heap[w.heap.size]? = some (.deferred (some []))) ∧ Kp V V3) ∨
        (Ending.returned b = .returned (.bool false) ∧ ∃ c, Ix c (pre ++ [x]) V3 ∧ V3.heap[L]? = some (.loop (ob .done (some c))) ∧ V3.heap[w.heap.size]? = some (.deferred (some [])))) := fun c V2 hk hi => by
      obtain ⟨V3, r, e, hl2, hl3, hd3⟩ := fin (some c) V2 hk
      exact ⟨_, V3, r, .inr ⟨rfl, c, by rw [← e]; exact low_put (hIx c) _ hi (by omega) (Array.getElem?_eq_some_iff.1 hl2).1, hl3, hd3⟩⟩
    refine wpIn_mono (hbody _ pre x V1 i1 hn) ?_
    rintro e a3 V2 hp
    cases e with
    | normal =>
      obtain ⟨hk, hkp, hi2⟩ := hp
      obtain ⟨V3, r, e, hl2, hl3, hd3⟩ := fin none V2 hk
      exact ⟨_, V3, r, .inl ⟨rfl, ⟨by rw [← e]; exact low_put hI _ hi2 (by omega) (Array.getElem?_eq_some_iff.1 hl2).1, hl3, hd3⟩, hKt _ _ _ (hKt _ _ _ k1 hkp) (by rw [← e]; exact hKb _ _ _ _ (by omega) hl2 rfl)⟩⟩
    | ret => exact out .ret V2 hp.1 hp.2
    | exit i => exact out (.exit i) V2 hp.1 hp.2
    | goto t => exact out (.goto t) V2 hp.1 hp.2
    | panic ch => exact hp.elim
    | outgrown => exact hp.elim
  · rintro e W2 ⟨⟨v, rfl⟩, (⟨xs, hS, hi, hl, hd⟩ | ⟨pre, hSp, c, hi, hl, hd⟩)⟩
    · exact ⟨none, _, run_endLoop (P := P) hl (by simp [ob]), hdone _ xs _ (Nat.le_refl _) hS (low_put hI _ hi (by omega) (Array.getElem?_eq_some_iff.1 hl).1) ((World.putObj_heap_other (by omega)).trans hd)⟩
    · exact ⟨some c, _, run_endLoop (P := P) hl (by simp [ob]), hstop _ c pre _ (Nat.le_refl _) hSp (low_put (hIx c) _ hi (by omega) (Array.getElem?_eq_some_iff.1 hl).1) ((World.putObj_heap_other (by omega)).trans hd)⟩
end Go.Proofs.YtafmiilkdhdngaaGreatDoor
/- A stack of rows of nodes: a row of slices of the call's own that grows and is cut. -/
namespace Go.Proofs.YtafmiilkdhdngaaGreatDoor
open Go.ChangeShapes Go.WideShapes Go.ChangeAt Go.RowKit
set_option linter.unusedVariables false
set_option linter.unusedSimpArgs false
theorem info_rows : (Tryz.prog.info? 40).map (fun i => (i.zero, i.size, i.bytes)) = some (some (.slice none 0 0), 1, 24) := by kernel_rfl
/-- The number of all nodes of some rows. -/
def cntL : List Fo → Nat
  | [] => 0
  | f :: l => f.cnt + cntL l
theorem cntL_app : ∀ l m : List Fo, cntL (l ++ m) = cntL l + cntL m
  | [], m => by simp [cntL]
  | f :: l, m => by simp only [List.cons_append, cntL, cntL_app l m]; omega
/-- The rows of the kids of the first i of a row's nodes, but for the empty ones. -/
def kidsTo (f : Fo) : Nat → List Fo
  | 0 => []
  | i + 1 => kidsTo f i ++ (if 0 < (f.kids i).len then [f.kids i] else [])
theorem kidsTo_len (f : Fo) : ∀ i, (kidsTo f i).length ≤ i
  | 0 => Nat.le_refl _
  | i + 1 => by have := kidsTo_len f i; rw [kidsTo, List.length_append]; split <;> simp <;> omega
theorem cnt_none {f : Fo} (h : f.len = 0) : f.cnt = 0 := by cases f with
  | nil => rfl
  | cons k n ks r => simp [Fo.len] at h
def kcnt (f : Fo) : Nat → Nat
  | 0 => 0
  | i + 1 => kcnt f i + (f.kids i).cnt
theorem kidsTo_cnt (f : Fo) : ∀ i, cntL (kidsTo f i) = kcnt f i
  | 0 => rfl
  | i + 1 => by
    rw [kidsTo, cntL_app, kidsTo_cnt f i, kcnt]
    split
    · simp [cntL]
    · rename_i h
      rw [cnt_none (f := f.kids i) (by omega)]; simp [cntL]
theorem kcnt_cons (k n : Int) (ks r : Fo) : ∀ i, kcnt (.cons k n ks r) (i + 1) = ks.cnt + kcnt r i
  | 0 => by simp [kcnt, Fo.kids]
  | i + 1 => by
    rw [kcnt, kcnt_cons k n ks r i, kcnt]
    simp only [Fo.kids]; omega
theorem kcnt_all : ∀ f : Fo, f.cnt = f.len + kcnt f f.len
  | .nil => rfl
  | .cons k n ks r => by
    have := kcnt_all r
    rw [Fo.len, kcnt_cons, Fo.cnt]; omega
/-- The stack v holds the rows l, of trees before lim. -/
def Stk (w : World) (lim B : Nat) (v : Value) (l : List Fo) : Prop := ∃ xs : List Value, w.ownsRow B 40 1 v l.length xs ∧ ∀ (i : Nat) (f : Fo), l[i]? = some f → ∃ a n c, xs[i]? = some (.slice a n c) ∧ Kids w lim (.slice a n c) f
theorem Stk.one {W : World} {lim B m c : Nat} {p : Option Addr} {f : Fo} (hK : Kids W lim (.slice p m c) f) (hl : lim ≤ W.heap.size) (hB : B ≤ W.heap.size) : Stk (W.alloc (.cells #[.slice p m c] 40)) lim B (.slice (some ⟨W.heap.size, 0, none⟩) 1 1) [f] := by
  refine ⟨[.slice p m c], ⟨rfl, .inr ⟨W.heap.size, 1, _, rfl, hB, heap_alloc_new W _, Nat.le_refl _, by unfold maxLen; omega, rfl, rfl⟩⟩, fun i g h => ?_⟩
  cases i with
  | zero =>
    cases h
    exact ⟨p, m, c, rfl, hK.below hl ((Below.refl _ _).alloc (Nat.le_refl _) _)⟩
  | succ i => cases h
/-- What leaves the trees and the stack's block as they are. -/
theorem Stk.kept {w w' : World} {lim B : Nat} {v : Value} {l : List Fo} (h : Stk w lim B v l) (hb : Below lim w w') (hk : ∀ k o, B ≤ k → w.heap[k]? = some o → o.isCells = true → w'.heap[k]? = some o) : Stk w' lim B v l := by
  obtain ⟨xs, ⟨h0, h1⟩, h2⟩ := h
  refine ⟨xs, ⟨h0, h1.imp id (fun ⟨g, cap, cur, e, hB, hg, h3⟩ => ⟨g, cap, cur, e, hB, hk g _ hB hg rfl, h3⟩)⟩, fun i f hi => ?_⟩
  obtain ⟨a, n, c, e, hK⟩ := h2 i f hi
  exact ⟨a, n, c, e, hK.carry hb⟩
/-- The last is taken away. -/
theorem Stk.pop {w : World} {lim B : Nat} {v : Value} {l : List Fo} {f : Fo} (h : Stk w lim B v (l ++ [f])) : ∃ g cap a n c, v = .slice (some ⟨g, 0, none⟩) (l.length + 1) cap ∧ l.length + 1 ≤ cap ∧ cap ≤ 9223372036854775807 ∧
    w.cell? ⟨g, l.length, none⟩ = some (.slice a n c) ∧ Kids w lim (.slice a n c) f ∧ Stk w lim B (.slice (some ⟨g, 0, none⟩) l.length cap) l := by
  obtain ⟨xs, ⟨h0, h1⟩, h2⟩ := h
  have hL : (l ++ [f]).length = l.length + 1 := by simp
  rw [hL] at h0 h1
  rcases h1 with ⟨-, hn⟩ | ⟨g, cap, cur, rfl, hB, hg, h3, h4, h5, h6⟩
  · omega
  · obtain ⟨a, n, c, e, hK⟩ := h2 l.length f (by simp)
    have hcur : ∀ j, j < l.length + 1 → cur[j]? = xs[j]? := fun j hj => by
      rw [← h6, List.getElem?_take, if_pos (by omega)]; simp
    refine ⟨g, cap, a, n, c, rfl, h3, by unfold maxLen at h4; omega, ?_, hK, xs.take l.length, ⟨by simp; omega, .inr ⟨g, cap, cur, rfl, hB, hg, by omega, h4, h5, ?_⟩⟩, fun i f' hi => ?_⟩
    · rw [cell_of_row w g l.length _ _ _ hg, hcur _ (by omega)]; exact e
    · rw [← h6, List.take_take]; congr 1; omega
    · have hlt : i < l.length := by
        rcases Nat.lt_or_ge i l.length with h | h
        · exact h
        · rw [List.getElem?_eq_none h] at hi; cases hi
      obtain ⟨a', n', c', e', hK'⟩ := h2 i f' (by rw [List.getElem?_append_left hlt]; exact hi)
      exact ⟨a', n', c', by rw [List.getElem?_take, if_pos hlt]; exact e', hK'⟩
/-- One row more. -/
theorem stk_push {F : Fence} {n : Nat} {ops : Array Oper} {rest : List Oper} {o : Oper} {a : Act} {Q : Exit → Act → World → Prop} {W : World} {lim B : Nat} {v : Value} {l : List Fo} {f : Fo} {p : Option Addr} {m c : Nat} (hgd : o.guard = none) (s x : Operand)
    (ho : o.op = .call { callee := .builtin .append, args := #[s, x], argTypes := #[155, 155] }) (hs : a.eval s = v) (hS : Stk W lim B v l) (hx : a.eval x = .slice (some ⟨W.heap.size, 0, none⟩) 1 1) (hK : Kids W lim (.slice p m c) f)
    (hl : lim ≤ B) (hB : B ≤ W.heap.size) (hlen : l.length < 1099511627776)
    (h : ∀ v' w', Stk w' lim B v' (l ++ [f]) → Below B W w' → (∃ g n c, v' = .slice (some g) n c) → wpListIn F n Tryz.prog ops Q rest (a.put o.dst v') w') : wpListIn F n Tryz.prog ops Q (o :: rest) a (W.alloc (.cells #[.slice p m c] 40)) := by
  have hn := heap_alloc_new W (.cells #[.slice p m c] 40)
  have bb := (Below.refl W.heap.size W).alloc (Nat.le_refl _) (.cells #[.slice p m c] 40)
  have hsz := World.size_alloc W (.cells #[.slice p m c] 40)
  obtain ⟨xs, hown, h2⟩ := hS
  have hown2 := hown.alloc (.cells #[.slice p m c] 40)
  generalize W.alloc (.cells #[.slice p m c] 40) = u at *
  obtain ⟨i0, hi⟩ : ∃ i, Tryz.prog.info? 40 = some i := by
    cases h0 : Tryz.prog.info? 40 with
    | none => have := info_rows; rw [h0] at this; cases this
    | some i => exact ⟨i, rfl⟩
  have h1 := info_rows
  rw [hi] at h1
  simp only [Option.map_some, Option.some.injEq, Prod.mk.injEq] at h1
  obtain ⟨hz, hsz1, hby⟩ := h1
  refine wpListIn_append_own u hgd s x 155 ho B 40 i0 (.slice none 0 0) 1 24 Tryz.underlying155 hi hz hsz1 hby rfl (by decide) v l.length xs hs hown2 ⟨W.heap.size, 0, none⟩ 1 1 [.slice p m c] hx rfl ?_ ?_ (by unfold maxLen; omega) (by omega) (by omega) ?_
  · intro j y hj
    cases j with
    | zero =>
      cases hj
      rw [show (⟨W.heap.size, 0, none⟩ : Addr).add 0 = ⟨W.heap.size, 0, none⟩ from rfl, cell_of_row _ _ _ _ _ _ hn]; rfl
    | succ j => cases hj
  · intro y hy
    simp only [List.mem_singleton] at hy
    subst hy; rfl
  · intro v' w' g1 g2 g3
    have hb2 : Below B u w' := ⟨g2.os, g2.tape, g2.output, g2.size, fun k hk => g2.block k (by omega) (fun e => by have := (World.ownsRow.lt hown2 k e.symm).1; omega)⟩
    have hb3 : Below B W w' := (bb.mono hB).trans hb2
    refine h v' w' ⟨xs ++ [.slice p m c], by rw [List.length_append]; exact g1, fun i f' hi' => ?_⟩ hb3 ?_
    · rcases Nat.lt_trichotomy i l.length with hlt | rfl | hgt
      · rw [List.getElem?_append_left hlt] at hi'
        obtain ⟨a', n', c', e', hK'⟩ := h2 i f' hi'
        exact ⟨a', n', c', by rw [List.getElem?_append_left (by have := hown.1; omega)]; exact e', hK'.carry (hb3.mono hl)⟩
      · rw [List.getElem?_append_right (Nat.le_refl _), Nat.sub_self] at hi'
        cases hi'
        exact ⟨p, m, c, by rw [List.getElem?_append_right (by have := hown.1; omega), show l.length - xs.length = 0 by have := hown.1; omega]; rfl, hK.carry (hb3.mono hl)⟩
      · rw [List.getElem?_eq_none (by simp; omega)] at hi'; cases hi'
    · rcases g1.2 with ⟨_, hn0⟩ | ⟨g, cap, cur, e, _⟩
      · omega
      · exact ⟨_, _, _, e⟩
/-- The least of some numbers. -/
theorem least_ex (p : Nat → Prop) (h : ∃ k, p k) : ∃ k, p k ∧ ∀ j, p j → k ≤ j := by
  obtain ⟨k, hk⟩ := h
  induction k using Nat.strongRecOn with
  | _ k ih =>
    by_cases hj : ∃ j, j < k ∧ p j
    · obtain ⟨j, h1, h2⟩ := hj
      exact ih j h1 h2
    · exact ⟨k, hk, fun j hpj => Nat.le_of_not_lt fun hlt => hj ⟨j, hlt, hpj⟩⟩
noncomputable def leastN (p : Nat → Prop) : Nat := Classical.epsilon fun k => p k ∧ ∀ j, p j → k ≤ j
theorem leastN_is {p : Nat → Prop} (h : ∃ k, p k) : p (leastN p) ∧ ∀ j, p j → leastN p ≤ j := Classical.epsilon_spec (least_ex p h)
end Go.Proofs.YtafmiilkdhdngaaGreatDoor
