/- package desc's Clone, for every tree. -/
import Derived.Test.YtfjioflggkmhcaaLv
import Derived.Test.YtfjioflggkmhcaaFlat
import Derived.Test.YtfjioflggkmhcaaClonel
import Derived.Deep.RegionWith
import Derived.Deep.DeepCutAuto
namespace Go.Proofs.Ytfjioflggkmhcaa
open Go.ChangeShapes Go.WideShapes Go.ChangeAt Go.RowKit
set_option linter.unusedVariables false
set_option linter.unusedSimpArgs false
/-- All nodes below one, level by level, in a block of new memory. -/
structure Cloned (w : World) (F : Nat) (f : Fo) (q : List Nd) : Prop where
  blk : F < w.heap.size
  room : ∀ x, x < f.cnt * 3 → (w.cell? ⟨F, x, none⟩).isSome = true
  free : ∀ x, w.frozen? ⟨F, x, none⟩ = false
  laid : Laid w F f.len q (fun _ => True)
  top : Ly q f 0
  full : Full f.len q
  rises : Rises f.len q
  len : q.length = f.cnt
theorem Cloned.kids {w : World} {F lim : Nat} {f : Fo} {q : List Nd} (h : Cloned w F f q) (hF : F < lim) (hC : f.cnt ≤ 1048576) : Kids w lim (kidv F 0 f.len) f := by
  have h1 := h.top.len
  have h2 := h.len
  refine kidv_kids (by unfold maxLen; omega) ?_
  exact laid_at hF h.laid h.full f 0 h.top (fun _ _ _ _ => trivial)
theorem Cloned.below {w w' : World} {F : Nat} {f : Fo} {q : List Nd} (h : Cloned w F f q) (hb : w'.heap[F]? = w.heap[F]?) (hz : w.heap.size ≤ w'.heap.size) : Cloned w' F f q := by
  have hc : ∀ x, w'.cell? ⟨F, x, none⟩ = w.cell? ⟨F, x, none⟩ := fun x => World.cell?_of_block hb
  refine ⟨Nat.lt_of_lt_of_le h.blk hz, fun x hx => by rw [hc]; exact h.room x hx, fun x => (World.frozen?_of_block (a := ⟨F, x, none⟩) hb).trans (h.free x), fun j d hj hq => ?_, h.top, h.full, h.rises, h.len⟩
  obtain ⟨a, b, c⟩ := h.laid j d hj hq
  exact ⟨(hc _).trans a, (hc _).trans b, (hc _).trans c⟩
theorem kidv_form (F s n : Nat) : ∃ a c, kidv F s n = .slice a n c := by
  cases n with
  | zero => exact ⟨_, _, rfl⟩
  | succ n => exact ⟨_, _, rfl⟩
/-- The state of Clone's loop. -/
structure ClR (W w : World) (F b C : Nat) (k n : Int) (f : Fo) (q : List Nd) (i : Nat) : Prop where
  lv : Lv f q i
  fl : Fl w F W.heap.size C f.len q i
  bx : Bx w b 22 (.slice (some ⟨F, 0, none⟩) q.length C)
  d0 : w.heap[W.heap.size]? = some (.cells #[.int .i64 k, .int .i64 n, kidv F 0 f.len] 24 (0, 0))
  d1 : w.heap[W.heap.size + 1]? = some (.cells #[.int .i64 0, .int .i64 0, .slice none 0 0] 24 (0, 0))
  be : Below W.heap.size W w
theorem ClR.step {W w w0 w6 : World} {F C : Nat} {k n : Int} {f : Fo} {q : List Nd} {i : Nat} (h : ClR W w F (F + 1) C k n f q i) (h0 : w0.heap = w.heap) (hb0 : Below W.heap.size w w0) {d : Nd} (hd : q[i]? = some d) (hF : Fl w6 F W.heap.size C f.len (q ++ d.ks.top) i) (hZ : Bx w6 (F + 1) 22 (.slice (some ⟨F, 0, none⟩) (q.length + d.ks.len) C))
    (hX : ∀ X, X ≠ F → X ≠ F + 1 → X < w0.heap.size → w6.heap[X]? = w0.heap[X]?) (hB : ∀ B, B ≤ F → B ≤ F + 1 → Below B w0 w6) (hW : W.heap.size + 1 < F) (hz : F < w.heap.size) : ClR W (w6.setCell ⟨F, i * 3 + 2, none⟩ (kidv F q.length d.ks.len)) F (F + 1) C k n f (q ++ d.ks.top) (i + 1) := by
  have hlt := (List.getElem?_eq_some_iff.1 hd).1
  have hdi : (q ++ d.ks.top)[i]? = some d := by rw [List.getElem?_append_left hlt]; exact hd
  have hp : pos f.len (q ++ d.ks.top) i = q.length := by rw [pos_append _ _ _ _ h.lv.le]; exact h.lv.nx
  have hs := hF.store (by omega) hdi
  rw [hp] at hs
  have e6 : ∀ j, j ≠ F → (w6.setCell ⟨F, i * 3 + 2, none⟩ (kidv F q.length d.ks.len)).heap[j]? = w6.heap[j]? := fun j hj => heap_setCell_other _ _ _ _ hj
  refine ⟨h.lv.step hd, hs, ?_, ?_, ?_, ?_⟩
  · unfold Bx
    rw [e6 _ (by omega), List.length_append, Fo.top_len]
    exact hZ
  · rw [e6 _ (by omega), hX _ (by omega) (by omega) (by rw [h0]; omega), h0]; exact h.d0
  · rw [e6 _ (by omega), hX _ (by omega) (by omega) (by rw [h0]; omega), h0]; exact h.d1
  · exact (h.be.trans (hb0.trans (hB W.heap.size (by omega) (by omega)))).setCell (p := ⟨F, i * 3 + 2, none⟩) (show W.heap.size ≤ F by omega) _
theorem ClR.done {W w : World} {F b C : Nat} {k n : Int} {f : Fo} {q : List Nd} (h : ClR W w F b C k n f q q.length) (hC : f.cnt = C) (hc : C ≤ 1048576) : Cloned w F f q := by
  obtain ⟨h1, h2, h3⟩ := h.lv.done (by omega)
  refine ⟨h.fl.blk, fun x hx => h.fl.room x (by omega), h.fl.free, fun j d _ hj => ?_, h.lv.top, h2, h3, h1⟩
  obtain ⟨a, b⟩ := h.fl.num j d hj
  exact ⟨a, b, h.fl.new j d hj (List.getElem?_eq_some_iff.1 hj).1⟩
theorem make_descs (w : World) (C : Nat) (hC : C ≤ 1048576) : ∃ w', (Instr.makeSlice 22 (.int .i64 0) (.int .i64 C)).run Try.prog w = .ok (.slice (some ⟨w.heap.size, 0, none⟩) 0 C) w' ∧ Below w.heap.size w w' ∧ w'.heap.size = w.heap.size + 1 ∧ ∀ lim m, Fl w' w.heap.size lim C m [] 0 := by
  obtain ⟨i, hi, hz, hs, hb⟩ := info_parts (show (Try.prog.info? 24).map (fun i => (i.zero, i.size, i.bytes)) = some (some (.agg #[.int .i64 0, .int .i64 0, .slice none 0 0]), 3, 40) by kernel_rfl)
  have hr := run_make w 22 24 i _ Try.underlying22 hi hz .i64 .i64 0 (C : Int) (by omega) (by omega) (by rw [hb]; omega) (by omega)
  rw [hs] at hr
  refine ⟨_, hr, (Below.refl _ _).alloc (Nat.le_refl _) _, World.size_alloc _ _, fun lim m => ?_⟩
  have hn := heap_alloc_new w (.cells (madeCells (Value.cells (.agg #[.int .i64 0, .int .i64 0, .slice none 0 0])) ((C : Int).toNat * 3)) 24)
  refine ⟨by simp, fun x hx => ?_, fun x => frozen_of_row _ _ _ _ _ hn, fun j d h => by simp at h, fun j d h => by simp at h, fun j d h => by simp at h⟩
  rw [cell_of_row _ _ _ _ _ _ hn, Array.getElem?_eq_getElem (by rw [size_madeCells]; simp; omega)]
  rfl
set_option maxRecDepth 100000 in
set_option maxHeartbeats 4000000 in
theorem desc_clone_of (k n : Int) (v : Value) (f : Fo) (lim : Nat) (W : World) (hK : Kids W lim v f) (hl : lim ≤ W.heap.size) (hC : f.cnt ≤ 1048576)
    (ND : ∀ w, Below W.heap.size W w → Calls Try.prog 17 #[.agg #[.int .i64 k, .int .i64 n, v]] w fun e w' => e = .returned (.int .i64 ((f.cnt : Int) + 1)) ∧ Below w.heap.size w w') :
    Calls Try.prog 21 #[.agg #[.int .i64 k, .int .i64 n, v]] W fun e w' => ∃ F q, e = .returned (.agg #[.int .i64 k, .int .i64 n, kidv F 0 f.len]) ∧ Cloned w' F f q ∧ W.heap.size ≤ F ∧ Below W.heap.size W w' := by
  obtain ⟨w0, hw0, r0, r1, hB, hs⟩ := clone_start W (.int .i64 k) (.int .i64 n) v (.int .i64 0) (.int .i64 0) (.slice none 0 0) 24
  have l0 : W.heap.size < w0.heap.size := by omega
  have l1 : W.heap.size + 1 < w0.heap.size := by omega
  have hK0 := (hK.mono hl).below (Nat.le_refl _) hB
  have ND := Lib.hid (ND w0 hB)
  obtain ⟨C, hCC⟩ : ∃ C, f.cnt = C := ⟨_, rfl⟩
  rw [hCC] at ND hC
  have wC : IntKind.i64.wrap ((C : Int) + 1 - 1) = (C : Int) := by rw [show (C : Int) + 1 - 1 = (C : Int) by omega]; exact IntWalk.i64_in _ (by omega)
  obtain ⟨p, m, c, rfl, hc1, hc2, HM⟩ := hK.shape
  have HK := Lib.hid hK0
  clear hK hK0
  go_enter Try.func21, Try.ntmps21
  go_wp2_with fail
  rw [← hw0]
  clear hw0
  refine (ND.out).mono ?_
  rintro e w1 ⟨rfl, b1⟩
  obtain ⟨w2, mk, b2, s2, hF⟩ := make_descs w1 C hC
  obtain ⟨w3, hw3⟩ : ∃ w3, w2.alloc (.cells #[.slice (some ⟨w1.heap.size, 0, none⟩) 0 C] 22) = w3 := ⟨_, rfl⟩
  have b3 : Below w1.heap.size w1 w3 := by rw [← hw3]; exact b2.alloc b2.size _
  have z0 : Bx w3 w2.heap.size 22 (.slice (some ⟨w1.heap.size, 0, none⟩) 0 C) := by rw [← hw3]; exact Bx.new w2 22 _ _ rfl
  have hF3 : Fl w3 w1.heap.size W.heap.size C f.len [] 0 := by
    rw [← hw3]
    exact (hF W.heap.size f.len).below (by have := b1.size; omega) ((Below.refl _ _).alloc (Nat.le_refl _) _)
  have b4 := b1.trans (b3.mono b1.size)
  have s0 := (b4.block _ l0).trans r0
  have s1 := (b4.block _ l1).trans r1
  have hB3 := hB.trans (b4.mono hB.size)
  have hK3 := HK.out.carry (b4.mono hB.size)
  have m0 : W.heap.size + 1 < w1.heap.size := by have := b1.size; omega
  obtain ⟨b, hb⟩ : ∃ b, w2.heap.size = b := ⟨_, rfl⟩
  rw [hb] at z0
  obtain ⟨F, hFF⟩ : ∃ F, w1.heap.size = F := ⟨_, rfl⟩
  rw [hFF] at z0 hF3 m0 mk hw3
  have hbF : b = F + 1 := by omega
  have m2 : b < w3.heap.size := z0.lt
  subst hbF
  obtain ⟨ka, kc, hkv⟩ := kidv_form F 0 f.len
  have HP := clone_part f (.slice p m c) w3 F (F + 1) W.heap.size C f.len 0 [] hF3 z0 hK3 (by omega) (by omega) (by omega) (by have := Fo.top_kin f; simp; omega) (Nat.zero_le _) hC
  rw [show ([] : List Nd).length = 0 from rfl, hkv] at HP
  have HP := Lib.hid HP
  clear b1 b2 b3 b4 r0 r1 hB l0 l1 hs HK z0 hF3 hK3
  obtain ⟨x0, x1, x2, f0, f1, f2⟩ := row_cells3 s0
  obtain ⟨y0, y1, y2, g0, g1, g2⟩ := row_cells3 s1
  go_wp2_with fail
  with_reducible refine (HP.out).mono ?_
  rintro e w4 ⟨rfl, hF4, z4, s4, hX4, hB4⟩
  have t0 := (hX4 W.heap.size (by omega) (by omega) (by omega)).trans s0
  have t1 := (hX4 (W.heap.size + 1) (by omega) (by omega) (by omega)).trans s1
  have hB4 := hB3.trans (hB4 W.heap.size (by omega) (by omega))
  obtain ⟨w5, hw5⟩ : ∃ w5, w4.setCell ⟨W.heap.size, 2, none⟩ (.slice ka f.len kc) = w5 := ⟨_, rfl⟩
  have e5 : ∀ j, j ≠ W.heap.size → w5.heap[j]? = w4.heap[j]? := fun j hj => by rw [← hw5]; exact heap_setCell_other _ _ _ _ hj
  have hB5 : Below W.heap.size w4 w5 := by rw [← hw5]; exact (Below.refl _ _).setCell (p := ⟨W.heap.size, 2, none⟩) (Nat.le_refl _) _
  have H5 : ClR W w5 F (F + 1) C k n f f.top 0 := by
    refine ⟨Lv.start f, ?_, ?_, ?_, (e5 _ (by omega)).trans t1, hB4.trans hB5⟩
    · exact (by simpa using hF4 : Fl w4 F W.heap.size C f.len f.top 0).keep (e5 _ (by omega)) hB5
    · unfold Bx
      rw [e5 _ (by omega)]
      rw [Fo.top_len]
      have := z4
      rw [Nat.zero_add] at this
      exact this
    · rw [← hw5, row_setCell3 t0, hkv]; rfl
  clear x0 x1 x2 f0 f1 f2 y0 y1 y2 g0 g1 g2 s0 s1 hB3 hw3 hF4 z4 s4 hX4 hB4 hB5 e5 mk hF
  obtain ⟨x0, x1, x2, f0, f1, f2⟩ := row_cells3 t0
  go_wp2_with fail
  clear x0 x1 x2 f0 f1 f2 t0 t1 hw5
  have H5 := Lib.hid H5
  go_loopw [5] (fun x wr => ∃ (i : Nat) (q : List Nd), x = .int .i64 i ∧ Hid (ClR W wr F (F + 1) C k n f q i)) (fun x _ => C - (intOf x).toNat)
  case atStart => exact ⟨0, _, rfl, H5⟩
  case round =>
    clear H5
    obtain ⟨i, q, rfl, H⟩ := hrel
    have zb := H.out.bx.cell
    obtain ⟨L, hL⟩ : ∃ L, q.length = L := ⟨_, rfl⟩
    rw [hL] at zb
    by_cases hi : i < L
    · have d1 : decide ((i : Int) < (L : Int)) = true := decide_eq_true (by omega)
      obtain ⟨d, hd⟩ : ∃ d, q[i]? = some d := ⟨q[i]'(by omega), List.getElem?_eq_getElem (by omega)⟩
      obtain ⟨v, hv, hKv⟩ := H.out.fl.old i d hd (Nat.le_refl _)
      obtain ⟨a', c', rfl, hc1', hc2'⟩ := hKv.form
      obtain ⟨ja, jc, hjv⟩ := kidv_form F L d.ks.len
      have hr := H.out.lv.room hd
      rw [hL, hCC] at hr
      have fF : wr.frozen? ⟨F, i * 3 + 2, none⟩ = false := H.out.fl.free _
      have HPd := Lib.hid (fun (u : World) (hu1 : u.heap = wr.heap) (hu2 : Below W.heap.size wr u) => clone_part d.ks (.slice a' d.ks.len c') u F (F + 1) W.heap.size C f.len i q (H.out.fl.keep (by rw [hu1]) hu2) (by unfold Bx; rw [hu1]; exact H.out.bx) (hKv.carry hu2) (by omega) (by omega) (by omega) (by omega) (by omega) hC)
      rw [hL, hjv] at HPd
      have a1 : i < L + d.ks.len := by omega
      have lC : L ≤ C := by omega
      have lC2 : L + d.ks.len ≤ C := by omega
      have HX := Lib.hid hd
      clear hKv hd
      go_wp2_with fail
      go_region_with (go_at_call 50; with_reducible refine (HPd.out wr.drew rfl ((Below.refl _ _).drew)).mono ?_; rintro e w6 ⟨rfl, hF6, z6, s6, hX6, hB6⟩; obtain ⟨v6, hv6, -⟩ := hF6.old i d (by rw [List.getElem?_append_left (by omega)]; exact HX.out) (Nat.le_refl _); have zc6 := z6.cell; have f6 : w6.frozen? ⟨F, i * 3 + 2, none⟩ = false := hF6.free _; have H6 := Lib.hid hF6; have Z6 := Lib.hid z6; have X6 := Lib.hid hX6; have B6 := Lib.hid hB6; clear hF6 z6 hX6 hB6)
      all_goals
        have HN := Lib.hid (show ClR W (w6.setCell ⟨F, i * 3 + 2, none⟩ (.slice ja d.ks.len jc)) F (F + 1) C k n f (q ++ d.ks.top) (i + 1) by
          have := H.out.step (w0 := wr.drew) rfl ((Below.refl _ _).drew) HX.out H6.out (by rw [hL]; exact Z6.out) X6.out B6.out m0 H.out.fl.blk
          rw [hL, hjv] at this
          exact this)
        clear hv6 zc6 f6 zb hv fF
        go_wp2_with fail
        go_roundw
        case rel => exact ⟨i + 1, _, by go_num, HN⟩
        case measure => (first | (simp [intOf]; done) | (simp [intOf]; omega) | (simp only [intOf]; omega))
    · have hiL : i = L := by have := H.out.lv.le; omega
      have d1 : decide ((i : Int) < (L : Int)) = false := decide_eq_false (by omega)
      obtain ⟨x0, x1, x2, f0, f1, f2⟩ := row_cells3 H.out.d0
      obtain ⟨y0, y1, y2, g0, g1, g2⟩ := row_cells3 H.out.d1
      rw [hkv] at x2
      have hD := (show ClR W wr F (F + 1) C k n f q q.length by rw [hL, ← hiL]; exact H.out).done hCC hC
      have hD := Lib.hid hD
      have HR := Lib.hid (show (((wr.setCell ⟨W.heap.size + 1, 0, none⟩ (.int .i64 k)).setCell ⟨W.heap.size + 1, 1, none⟩ (.int .i64 n)).setCell ⟨W.heap.size + 1, 2, none⟩ (.slice ka f.len kc)).heap[W.heap.size + 1]? = some (.cells #[.int .i64 k, .int .i64 n, .slice ka f.len kc] 24 (0, 0)) by rw [row_setCell3 (row_setCell3 (row_setCell3 H.out.d1 _) _) _]; rfl)
      have HB := Lib.hid (((H.out.be.setCell (p := ⟨W.heap.size + 1, 0, none⟩) (show W.heap.size ≤ W.heap.size + 1 by omega) (.int .i64 k)).setCell (p := ⟨W.heap.size + 1, 1, none⟩) (show W.heap.size ≤ W.heap.size + 1 by omega) (.int .i64 n)).setCell (p := ⟨W.heap.size + 1, 2, none⟩) (show W.heap.size ≤ W.heap.size + 1 by omega) (.slice ka f.len kc))
      have HC := Lib.hid (show Cloned (((wr.setCell ⟨W.heap.size + 1, 0, none⟩ (.int .i64 k)).setCell ⟨W.heap.size + 1, 1, none⟩ (.int .i64 n)).setCell ⟨W.heap.size + 1, 2, none⟩ (.slice ka f.len kc)) F f q from hD.out.below (by rw [heap_setCell_other _ _ _ _ (by show F ≠ W.heap.size + 1; omega), heap_setCell_other _ _ _ _ (by show F ≠ W.heap.size + 1; omega), heap_setCell_other _ _ _ _ (by show F ≠ W.heap.size + 1; omega)]) (by simp))
      clear hD H
      go_wp2_with fail
      refine bodyPost_ret (results_cell_row (p := 2) (ty := 24) rfl _ _ _ 24 #[.int .i64 k, .int .i64 n, .slice ka f.len kc] (0, 0) _ rfl HR.out Try.underlying24 rfl (by kernel_rfl)) rfl ?_
      exact ⟨F, q, by rw [hkv], HC.out, by omega, HB.out⟩
end Go.Proofs.Ytfjioflggkmhcaa
