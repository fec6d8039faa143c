/- Put together by program (merge2.py): Nodu Dtp. -/
import Derived.BigRegion
import Derived.Deep.DeepCutAuto
import Derived.Test.YtafmiilkdhdngaaGreatDoorR14
/- dtext's reader: one node. -/
namespace Go.Proofs.YtafmiilkdhdngaaGreatDoor
open Go.ChangeShapes Go.WideShapes Go.ChangeAt Go.RowKit
set_option linter.unusedVariables false
set_option linter.unusedSimpArgs false
theorem bset {w : World} {g o : Nat} {cs : Array Value} {T : TypeId} {fr : Nat × Nat} (h : w.heap[g]? = some (.cells cs T fr)) (v : Value) : (w.setCell ⟨g, o, none⟩ v).heap[g]? = some (.cells (cs.setIfInBounds o v) T fr) := by
  simp [World.setCell, Array.getElem?_modify, h]
theorem bcells {w : World} {g : Nat} {a b c : Value} {T : TypeId} (h : w.heap[g]? = some (.cells #[a, b, c] T (0, 0))) : w.cell? ⟨g, 0, none⟩ = some a ∧ w.cell? ⟨g, 1, none⟩ = some b ∧ w.cell? ⟨g, 2, none⟩ = some c ∧ w.frozen? ⟨g, 0, none⟩ = false ∧ w.frozen? ⟨g, 1, none⟩ = false ∧ w.frozen? ⟨g, 2, none⟩ = false :=
  ⟨by rw [cell_of_row _ _ _ _ _ _ h]; rfl, by rw [cell_of_row _ _ _ _ _ _ h]; rfl, by rw [cell_of_row _ _ _ _ _ _ h]; rfl, frozen_of_row _ _ _ _ _ h, frozen_of_row _ _ _ _ _ h, frozen_of_row _ _ _ _ _ h⟩
theorem res_cell_tmp {P : Program} {fn : Func} {p a : Tmp} {ty : TypeId} (h : fn.results = #[.cell p ty, .tmp a]) (tmps : Array Value) (w : World) (g : Nat) (t : TypeId) (cs : Array Value) (fr : Nat × Nat) (d : TypeDesc) (x : Value)
    (hp : tmps.getD p undef = .pointer (some ⟨g, 0, none⟩)) (ha : tmps.getD a undef = x) (hg : w.heap[g]? = some (.cells cs t fr))
    (hu : P.underlying ty = some d) (hd : (match d with | .struct _ | .array _ _ => true | _ => false) = true) (hi : (P.info? ty).map (·.size) = some cs.size) :
    (results fn tmps).run P w = .ok (.tuple #[.agg cs, x]) w := by
  have e : tmps[p]?.getD undef = .pointer (some ⟨g, 0, none⟩) := by simpa using hp
  have ea : tmps[a]?.getD undef = x := by simpa using ha
  simp [results, h, e, ea, asAddr, run_loadVar_row w g t ty cs fr d hg hu hd hi]
/-- A struct of three cells stored whole. -/
def s3 (w : World) (b : Nat) (x y z : Value) : World := ((w.setCell ⟨b, 0, none⟩ x).setCell ⟨b, 1, none⟩ y).setCell ⟨b, 2, none⟩ z
theorem s3_at {w : World} {b : Nat} {x y z x0 y0 z0 : Value} {T : TypeId} (h : w.heap[b]? = some (.cells #[x0, y0, z0] T (0, 0))) : (s3 w b x y z).heap[b]? = some (.cells #[x, y, z] T (0, 0)) := by
  unfold s3; rw [bset (bset (bset h _) _) _]; rfl
theorem s3_below {w : World} {b H : Nat} (x y z : Value) (h : H ≤ b) : Below H w (s3 w b x y z) := (((Below.refl _ _).setCell h _).setCell h _).setCell h _
theorem s3_other {w : World} {b i : Nat} (x y z : Value) (h : i ≠ b) : (s3 w b x y z).heap[i]? = w.heap[i]? := by
  unfold s3; rw [heap_setCell_other _ ⟨b, 2, none⟩ i _ h, heap_setCell_other _ ⟨b, 1, none⟩ i _ h, heap_setCell_other _ ⟨b, 0, none⟩ i _ h]
theorem s3_size (w : World) (b : Nat) (x y z : Value) : (s3 w b x y z).heap.size = w.heap.size := by unfold s3; simp
def zb : Obj := .cells #[.int .i64 0, .int .i64 0, .slice none 0 0] 42 (0, 0)
theorem node_fail {W w : World} {r g : Nat} {A : Option Addr} {n c : Nat} {ts : List ByteArray} {at_ q b : Nat} (hB : But W w r) (hR : Rdr w r g A n c ts q) (hrW : r < W.heap.size) (hgW : n = 0 ∨ g < W.heap.size) (hb : W.heap.size ≤ b) (hn : NT (ts.drop at_) = none) :
    NodeOk W r g A n c ts at_ (.returned (.tuple #[.agg #[.int .i64 0, .int .i64 0, .slice none 0 0], .bool false])) (s3 w b (.int .i64 0) (.int .i64 0) (.slice none 0 0)) := by
  have h := s3_below (w := w) (.int .i64 0) (.int .i64 0) (.slice none 0 0) hb
  exact ⟨hB.grow h, .inl ⟨hn, ⟨q, hR.below h hrW hgW⟩, rfl⟩⟩
theorem node_done {W w : World} {r g : Nat} {A : Option Addr} {n c : Nat} {ts : List ByteArray} {at_ q b : Nat} {k m : Int} {v : Value} {ks : Fo} {S : Nat → Prop} (hB : But W w r) (hR : Rdr w r g A n c ts q) (hrW : r < W.heap.size) (hgW : n = 0 ∨ g < W.heap.size) (hb : W.heap.size ≤ b) (hn : NT (ts.drop at_) = some ((k, m, ks), ts.drop q)) (haq : at_ < q)
    (hk : KidsS w S v ks) (hS : ∀ x, S x → W.heap.size ≤ x ∧ x < w.heap.size ∧ x ≠ b) :
    NodeOk W r g A n c ts at_ (.returned (.tuple #[.agg #[.int .i64 k, .int .i64 m, v], .bool true])) (s3 w b (.int .i64 k) (.int .i64 m) v) := by
  have h := s3_below (w := w) (.int .i64 k) (.int .i64 m) v hb
  exact ⟨hB.grow h, .inr ⟨k, m, ks, q, v, hn, haq, hR.below h hrW hgW, rfl, hk.carry (fun x hx => ⟨⟨(hS x hx).1, by rw [s3_size]; exact (hS x hx).2.1⟩, s3_other _ _ _ (hS x hx).2.2⟩)⟩⟩
theorem nt_short {ts : List ByteArray} {i : Nat} (h : ts.length ≤ i + 1) : NT (ts.drop i) = none := by
  refine Gr.N_none ?_
  have hl : (ts.drop i).length ≤ 1 := by rw [List.length_drop]; omega
  generalize ts.drop i = l at hl
  match l, hl with
  | [], _ => rfl
  | [_], _ => rfl
theorem wrd_some {k : Int} (h : 1 ≤ k ∧ k ≤ 7) : wrd k ≠ ⟨#[]⟩ := fun e => by
  have := wrd_len h
  rw [e] at this
  simp at this
theorem isN_some : ¬ IsN ⟨#[]⟩ := fun h => by
  have := h.1.1
  simp [ByteArray.size] at this
/-- The two texts of a head. -/
theorem two_at {ts : List ByteArray} {i : Nat} {t u : ByteArray} (h1 : ts.getD i ⟨#[]⟩ = t) (h2 : ts.getD (i + 1) ⟨#[]⟩ = u) (h : i + 2 ≤ ts.length) : ts.drop i = t :: u :: ts.drop (i + 2) := by
  have e1 : ts[i]? = some t := by rw [List.getElem?_eq_getElem (by omega), ← h1, List.getD, List.getElem?_eq_getElem (by omega)]; rfl
  have e2 : ts[i + 1]? = some u := by rw [List.getElem?_eq_getElem (by omega), ← h2, List.getD, List.getElem?_eq_getElem (by omega)]; rfl
  rw [drop_head e1, drop_head e2]

set_option maxRecDepth 100000 in
set_option maxHeartbeats 16000000 in
theorem d_node (r g : Nat) (A : Option Addr) (n c : Nat) (ts : List ByteArray) (hts : ∀ i, (ts.getD i ⟨#[]⟩).size ≤ 5000) (N : Nat) :
    ∀ (at_ : Nat) (W : World), n - at_ < N → Rdr W r g A n c ts at_ → Calls Tryz.prog 73 #[.pointer (some ⟨r, 0, none⟩)] W (NodeOk W r g A n c ts at_) := by
  induction N with
  | zero => intro at_ W h; omega
  | succ N ih =>
    intro at_ W hN hR
    have hrW := hR.lt
    have hgW : n = 0 ∨ g < W.heap.size := hR.hgl
    have hln := hR.hl
    have hat := hR.hm
    have hn5 := hR.hn
    obtain ⟨w0, hw0, -, -, -, hB0, hs0⟩ := box3 W 0 0 (.slice none 0 0) 42
    have r0 : w0.heap[W.heap.size]? = some (.cells #[.int .i64 0, .int .i64 0, .slice none 0 0] 42 (0, 0)) := by rw [hw0]; exact heap_alloc_new _ _
    have N1 := r_next (hR.belowAll hB0)
    obtain ⟨t1, ht1⟩ : ∃ t, ts.getD at_ ⟨#[]⟩ = t := ⟨_, rfl⟩
    obtain ⟨p1, hp1⟩ : ∃ p, (if at_ < n then at_ + 1 else at_) = p := ⟨_, rfl⟩
    rw [ht1, hp1] at N1
    obtain ⟨t2, ht2⟩ : ∃ t, ts.getD p1 ⟨#[]⟩ = t := ⟨_, rfl⟩
    obtain ⟨p2, hp2⟩ : ∃ p, (if p1 < n then p1 + 1 else p1) = p := ⟨_, rfl⟩
    have ht2s : t2.size ≤ 5000 := by rw [← ht2]; exact hts p1
    -- what the head is
    have hhead : ∀ k : Int, (1 ≤ k ∧ k ≤ 7) → wrd k = t1 → IsN t2 → p2 = at_ + 2 ∧ at_ + 2 ≤ n ∧ HT (ts.drop at_) = some (k, ((vl t2 t2.size : Nat) : Int), ts.drop p2) := fun k hk e1 e2 => by
      have ha : at_ < n := Nat.lt_of_not_le fun hx => wrd_some hk (by rw [e1, ← ht1, List.getD, List.getElem?_eq_none (by omega)]; rfl)
      rw [if_pos ha] at hp1
      have hb : p1 < n := Nat.lt_of_not_le fun hx => isN_some (by
        rw [← ht2, List.getD, List.getElem?_eq_none (by omega)] at e2
        exact e2)
      rw [if_pos hb] at hp2
      refine ⟨by omega, by omega, ?_⟩
      rw [two_at (t := t1) (u := t2) ht1 (by rw [hp1]; exact ht2) (by omega), ← e1, HT_yes hk e2, show at_ + 2 = p2 by omega]
    have hbad : ((∀ k : Int, 1 ≤ k → k ≤ 7 → wrd k ≠ t1) ∨ ¬ IsN t2) → NT (ts.drop at_) = none := fun h => by
      by_cases hx : at_ + 2 ≤ n
      · refine Gr.N_none ?_
        rw [if_pos (by omega)] at hp1
        rw [two_at (t := t1) (u := t2) ht1 (by rw [hp1]; exact ht2) (by omega)]
        rcases h with h | h
        · exact HT_word h
        · exact HT_num h
      · exact nt_short (by omega)
    have HH := Lib.hid hhead
    have HBD := Lib.hid hbad
    have SV := Lib.hid (d_several N r g A n c ts (fun at_ W h1 h2 => ih at_ W h1 h2))
    have HT2 := Lib.hid ht2
    have HP2 := Lib.hid hp2
    clear hhead hbad ih hp1 hp2 ht1 ht2
    go_enter Tryz.func73, Tryz.ntmps73
    go_wp2_with fail
    rw [← hw0]
    refine N1.mono ?_
    rintro e w1 ⟨hB1, hz1, rfl, hR1⟩
    have r1 : w1.heap[W.heap.size]? = some (.cells #[.int .i64 0, .int .i64 0, .slice none 0 0] 42 (0, 0)) := (hB1.o _ (by omega) (by omega)).trans r0
    have HB1 := Lib.hid ((But.of_below r hB0).trans hB1)
    have KO := d_kindOf t1 w1
    clear r0 hw0 hB0 hB1 N1
    go_wp2_with fail
    refine KO.mono ?_
    rintro e w1' ⟨rfl, hk0⟩
    obtain ⟨k, rfl, hk⟩ : ∃ k : Int, e = .returned (.int .i64 k) ∧ Hid ((1 ≤ k ∧ k ≤ 7 ∧ wrd k = t1) ∨ (k = 0 ∧ ∀ k : Int, 1 ≤ k → k ≤ 7 → wrd k ≠ t1)) := by
      rcases hk0 with ⟨k, h1, h2, h3, rfl⟩ | ⟨h, rfl⟩
      · exact ⟨k, rfl, Lib.hid (.inl ⟨h1, h2, h3⟩)⟩
      · exact ⟨0, rfl, Lib.hid (.inr ⟨rfl, h⟩)⟩
    clear KO hk0
    have hz1 : w1.heap.size = W.heap.size + 1 := by omega
    obtain ⟨w2, hw2, -, -, -, hB2, hs2⟩ := box3 w1 k 0 (.slice none 0 0) 42
    have q2 : w2.heap[W.heap.size + 1]? = some (.cells #[.int .i64 k, .int .i64 0, .slice none 0 0] 42 (0, 0)) := by rw [hw2, ← hz1]; exact heap_alloc_new _ _
    have r2 := (hB2.block _ (by omega)).trans r1
    have N2 := r_next (hR1.belowAll hB2)
    rw [HT2.out, HP2.out] at N2
    have HB2 := Lib.hid (HB1.out.trans (But.of_below r hB2))
    clear r1 HB1 hR1 hB2 HT2 HP2
    go_wp2_with fail
    rw [← hw2]
    refine N2.mono ?_
    rintro e w3 ⟨hB3, hz3, rfl, hR3⟩
    have NU := lex_num t2 ht2s w3
    have r3 := (hB3.o _ (by omega) (by omega)).trans r2
    have q3 := (hB3.o _ (by omega) (by omega)).trans q2
    have HB3 := Lib.hid (HB2.out.trans hB3)
    clear hw2 N2 q2 r2 HB2 hB3
    go_wp2_with fail
    refine NU.mono ?_
    rintro e w4 ⟨hb4, hnum⟩
    obtain ⟨m, er, rfl, hm⟩ : ∃ m er : Int, e = .returned (.tuple #[.int .i64 m, .int .i64 er]) ∧ Hid ((er = 10 ∧ ¬ IsN t2) ∨ (er = 0 ∧ IsN t2 ∧ m = ((vl t2 t2.size : Nat) : Int))) := by
      rcases hnum with ⟨h, rfl⟩ | ⟨h, rfl⟩
      · exact ⟨0, 10, rfl, Lib.hid (.inl ⟨rfl, h⟩)⟩
      · exact ⟨_, 0, rfl, Lib.hid (.inr ⟨rfl, h, rfl⟩)⟩
    have r4 := (hb4.block _ (by omega)).trans r3
    have q4 := (hb4.block _ (by omega)).trans q3
    have HB4 := Lib.hid (HB3.out.trans (But.of_below r hb4))
    have HR4 := Lib.hid (hR3.belowAll hb4)
    have hz4 := hb4.size
    obtain ⟨b1, hb1⟩ : ∃ b, W.heap.size + 1 = b := ⟨_, rfl⟩
    rw [hb1] at q4 ⊢
    have hle1 : W.heap.size < b1 := by omega
    have hlt4 : b1 < w4.heap.size := by omega
    clear NU r3 q3 HB3 hR3 hb4 hnum
    obtain ⟨x0, x1, x2, f0, f1, f2⟩ := bcells q4
    obtain ⟨y0, y1, y2, g0, g1, g2⟩ := bcells r4
    have HZ := Lib.hid (s3_at (x := .int .i64 0) (y := .int .i64 0) (z := .slice none 0 0) r4)
    by_cases hgood : (1 ≤ k ∧ k ≤ 7 ∧ wrd k = t1) ∧ (er = 0 ∧ IsN t2 ∧ m = ((vl t2 t2.size : Nat) : Int))
    case neg =>
      have hnone : Hid (NT (ts.drop at_) = none) := Lib.hid (HBD.out (by
        rcases hk.out with h | h
        · rcases hm.out with h2 | h2
          · exact .inr h2.2
          · exact absurd ⟨h, h2⟩ hgood
        · exact .inl h.2))
      have hcase : k = 0 ∨ (k ≠ 0 ∧ er = 10) := by
        rcases hk.out with h | h
        · rcases hm.out with h2 | h2
          · exact .inr ⟨by omega, h2.1⟩
          · exact absurd ⟨h, h2⟩ hgood
        · exact .inl h.1
      have FIN := Lib.hid (node_fail (b := W.heap.size) HB4.out HR4.out hrW hgW (Nat.le_refl _) hnone.out)
      clear hk hm hgood HBD HH SV HB4 HR4 hnone q4 r4
      unfold s3 at HZ FIN
      rcases hcase with rfl | ⟨hk0, rfl⟩
      · go_wp2_with fail
        refine bodyPost_ret (res_cell_tmp (p := 2) (a := 3) (ty := 42) rfl _ _ _ 42 #[.int .i64 0, .int .i64 0, .slice none 0 0] (0, 0) _ (.bool false) rfl rfl HZ.out Tryz.underlying42 rfl (by kernel_rfl)) rfl ?_
        exact FIN.out
      · have e1 : (k == 0) = false := by simp [hk0]
        go_wp2_with fail
        refine bodyPost_ret (res_cell_tmp (p := 2) (a := 3) (ty := 42) rfl _ _ _ 42 #[.int .i64 0, .int .i64 0, .slice none 0 0] (0, 0) _ (.bool false) rfl rfl HZ.out Tryz.underlying42 rfl (by kernel_rfl)) rfl ?_
        exact FIN.out
    case pos =>
      obtain ⟨⟨hk1, hk7, hkw⟩, rfl, hisn, hmv⟩ := hgood
      obtain ⟨hp, hp2n, hHT⟩ := HH.out k ⟨hk1, hk7⟩ hkw hisn
      rw [← hmv] at hHT
      have e1 : (k == 0) = false := by rw [beq_eq_false_iff_ne]; omega
      have HHT := Lib.hid hHT
      -- n laid
      obtain ⟨w5, hw5⟩ : ∃ w5, w4.setCell ⟨b1, 1, none⟩ (.int .i64 m) = w5 := ⟨_, rfl⟩
      have hb5 : Below (W.heap.size + 1) w4 w5 := by rw [← hw5]; exact (Below.refl _ _).setCell (show W.heap.size + 1 ≤ b1 by omega) _
      have q5 : w5.heap[b1]? = some (.cells #[.int .i64 k, .int .i64 m, .slice none 0 0] 42 (0, 0)) := by rw [← hw5, bset q4]; rfl
      have r5 := (hb5.block _ (Nat.lt_succ_self _)).trans r4
      have hz5 : w5.heap.size = w4.heap.size := by rw [← hw5]; simp
      have HB5 := Lib.hid (HB4.out.grow (hb5.mono (Nat.le_succ _)))
      have hR5 := HR4.out.below (hb5.mono (Nat.le_succ _)) hrW hgW
      have I5 := r_is hR5 opB
      clear hk hm HBD HH HB4 HR4 hHT hisn hmv hkw hk1 hk7 hb5 q4 r4 HZ
      by_cases hop : ts[p2]? = some opB
      · rw [decide_eq_true hop, if_pos hop] at I5
        have hlt : p2 < n := by
          have := (List.getElem?_eq_some_iff.1 hop).1; omega
        have HNT := Lib.hid (Gr.N_open (op := opB) (cl := clB) (cm := cmB) (z := ts.drop (p2 + 1)) (by rw [← drop_head hop]; exact HHT.out))
        clear hop HHT
        go_wp2_with fail
        refine I5.mono ?_
        rintro e w6 ⟨hB6, hz6, rfl, hR6⟩
        have q6 := (hB6.o _ (by omega) (by omega)).trans q5
        have r6 := (hB6.o _ (by omega) (by omega)).trans r5
        have HB6 := Lib.hid (HB5.out.trans hB6)
        have C6 := SV.out (p2 + 1) w6 (by omega) hR6
        clear x0 x1 x2 f0 f1 f2 y0 y1 y2 g0 g1 g2 hw5 I5 hB6 hR6 q5 r5 HB5 hR5 SV
        go_wp2_with fail
        refine C6.mono ?_
        rintro e w7 ⟨hB7, hcase⟩
        have hz7 := hB7.z
        have q7 := (hB7.o _ (by omega) (by omega)).trans q6
        have r7 := (hB7.o _ (by omega) (by omega)).trans r6
        have HB7 := Lib.hid (HB6.out.trans hB7)
        obtain ⟨x0, x1, x2, f0, f1, f2⟩ := bcells q7
        obtain ⟨y0, y1, y2, g0, g1, g2⟩ := bcells r7
        clear C6 hB7 q6 r6 HB6
        rcases hcase with ⟨hn7, ⟨q, hR7⟩, rfl⟩ | ⟨ks, q, v, hn7, hq7, hR7, rfl, hK7⟩
        · have FIN := Lib.hid (node_fail (b := W.heap.size) HB7.out hR7 hrW hgW (Nat.le_refl _) (show NT (ts.drop at_) = none by
            rw [show NT (ts.drop at_) = _ from HNT.out, show Gr.S HT opB clB cmB (ts.drop (p2 + 1)) = none from hn7]))
          have HZ := Lib.hid (s3_at (x := .int .i64 0) (y := .int .i64 0) (z := .slice none 0 0) r7)
          clear HNT hn7 hR7 HB7 q7 r7
          unfold s3 at HZ FIN
          go_wp2_with fail
          refine bodyPost_ret (res_cell_tmp (p := 2) (a := 3) (ty := 42) rfl _ _ _ 42 #[.int .i64 0, .int .i64 0, .slice none 0 0] (0, 0) _ (.bool false) rfl rfl HZ.out Tryz.underlying42 rfl (by kernel_rfl)) rfl ?_
          exact FIN.out
        · obtain ⟨va, vn, vc, rfl⟩ : ∃ a n c, v = .slice a n c := by
            obtain ⟨a, c, rfl, _⟩ := hK7
            exact ⟨_, _, _, rfl⟩
          have I7 := r_is hR7 clB
          have hqn := hR7.hm
          by_cases hcl : ts[q]? = some clB
          · rw [decide_eq_true hcl, if_pos hcl] at I7
            have HN7 := Lib.hid (show NT (ts.drop at_) = some ((k, m, ks), ts.drop (q + 1)) by
              rw [show NT (ts.drop at_) = _ from HNT.out, show Gr.S HT opB clB cmB (ts.drop (p2 + 1)) = some (ks, ts.drop q) from hn7, drop_head hcl]
              simp)
            have HK7 := Lib.hid hK7
            clear hcl HNT hn7 hR7 hK7
            go_wp2_with fail
            refine I7.mono ?_
            rintro e w8 ⟨hB8, hz8, rfl, hR8⟩
            have q8 := (hB8.o _ (by omega) (by omega)).trans q7
            have r8 := (hB8.o _ (by omega) (by omega)).trans r7
            have HB8 := Lib.hid (HB7.out.trans hB8)
            have hK8 : KidsS w8 (fun b => w6.heap.size ≤ b ∧ b < w8.heap.size) (.slice va vn vc) ks := HK7.out.carry (fun b hb => ⟨⟨hb.1, by omega⟩, hB8.o b hb.2 (by omega)⟩)
            clear x0 x1 x2 f0 f1 f2 y0 y1 y2 g0 g1 g2 I7 hB8 q7 r7 HB7 HK7
            obtain ⟨w9, hw9⟩ : ∃ w9, w8.setCell ⟨b1, 2, none⟩ (.slice va vn vc) = w9 := ⟨_, rfl⟩
            have hb9 : Below (W.heap.size + 1) w8 w9 := by rw [← hw9]; exact (Below.refl _ _).setCell (show W.heap.size + 1 ≤ b1 by omega) _
            have q9 : w9.heap[b1]? = some (.cells #[.int .i64 k, .int .i64 m, .slice va vn vc] 42 (0, 0)) := by rw [← hw9, bset q8]; rfl
            have r9 := (hb9.block _ (Nat.lt_succ_self _)).trans r8
            have hz9 : w9.heap.size = w8.heap.size := by rw [← hw9]; simp
            have hB9 := HB8.out.grow (hb9.mono (Nat.le_succ _))
            have hR9 := hR8.below (hb9.mono (Nat.le_succ _)) hrW hgW
            have hK9 : KidsS w9 (fun b => w6.heap.size ≤ b ∧ b < w9.heap.size) (.slice va vn vc) ks := hK8.carry (fun b hb => ⟨⟨hb.1, by omega⟩, by rw [← hw9]; exact heap_setCell_other w8 ⟨b1, 2, none⟩ b _ (show b ≠ b1 by omega)⟩)
            have FIN := Lib.hid (node_done (b := W.heap.size) hB9 hR9 hrW hgW (Nat.le_refl _) HN7.out (by omega) hK9 (fun x hx => ⟨by omega, hx.2, by omega⟩))
            have HZ := Lib.hid (s3_at (x := .int .i64 k) (y := .int .i64 m) (z := .slice va vn vc) r9)
            obtain ⟨e0, e1', e2, h0, h1, h2⟩ := bcells q8
            clear hB9 hR9 hK9 hK8 HB8 hR8 HN7 q8 r8 hb9
            obtain ⟨x0, x1, x2, f0, f1, f2⟩ := bcells q9
            obtain ⟨y0, y1, y2, g0, g1, g2⟩ := bcells r9
            clear q9 r9
            unfold s3 at HZ FIN
            go_wp2_with fail
            refine bodyPost_ret (res_cell_tmp (p := 2) (a := 3) (ty := 42) rfl _ _ _ 42 #[.int .i64 k, .int .i64 m, .slice va vn vc] (0, 0) _ (.bool true) rfl rfl HZ.out Tryz.underlying42 rfl (by kernel_rfl)) rfl ?_
            exact FIN.out
          · rw [decide_eq_false hcl, if_neg hcl] at I7
            have HN7 := Lib.hid (show NT (ts.drop at_) = none by
              rw [show NT (ts.drop at_) = _ from HNT.out, show Gr.S HT opB clB cmB (ts.drop (p2 + 1)) = some (ks, ts.drop q) from hn7]
              rcases hdr : ts.drop q with _ | ⟨t, y⟩
              · rfl
              · simp only []
                rw [if_neg (fun e => drop_not hcl y (by rw [hdr, e]))])
            clear hcl HNT hn7 hR7 hK7
            go_wp2_with fail
            refine I7.mono ?_
            rintro e w8 ⟨hB8, hz8, rfl, hR8⟩
            have r8 := (hB8.o _ (by omega) (by omega)).trans r7
            have FIN := Lib.hid (node_fail (b := W.heap.size) (HB7.out.trans hB8) hR8 hrW hgW (Nat.le_refl _) HN7.out)
            have HZ := Lib.hid (s3_at (x := .int .i64 0) (y := .int .i64 0) (z := .slice none 0 0) r8)
            clear x0 x1 x2 f0 f1 f2 y0 y1 y2 g0 g1 g2 I7 hB8 q7 r7 HB7 HN7 hR8
            obtain ⟨y0, y1, y2, g0, g1, g2⟩ := bcells r8
            clear r8
            unfold s3 at HZ FIN
            go_wp2_with fail
            refine bodyPost_ret (res_cell_tmp (p := 2) (a := 3) (ty := 42) rfl _ _ _ 42 #[.int .i64 0, .int .i64 0, .slice none 0 0] (0, 0) _ (.bool false) rfl rfl HZ.out Tryz.underlying42 rfl (by kernel_rfl)) rfl ?_
            exact FIN.out
      · rw [decide_eq_false hop, if_neg hop] at I5
        have HNT := Lib.hid (show NT (ts.drop at_) = some ((k, m, .nil), ts.drop p2) from Gr.N_leaf HHT.out (drop_not hop))
        clear hop HHT SV
        go_wp2_with fail
        refine I5.mono ?_
        rintro e w6 ⟨hB6, hz6, rfl, hR6⟩
        have q6 := (hB6.o _ (by omega) (by omega)).trans q5
        have r6 := (hB6.o _ (by omega) (by omega)).trans r5
        have FIN := Lib.hid (node_done (b := W.heap.size) (v := .slice none 0 0) (ks := .nil) (S := fun _ => False) (HB5.out.trans hB6) hR6 hrW hgW (Nat.le_refl _) HNT.out (by omega) ⟨none, 0, rfl, Nat.le_refl _, by unfold maxLen; omega, .inl rfl⟩ (fun _ h => h.elim))
        have HZ := Lib.hid (s3_at (x := .int .i64 k) (y := .int .i64 m) (z := .slice none 0 0) r6)
        clear x0 x1 x2 f0 f1 f2 y0 y1 y2 g0 g1 g2 hw5 I5 hB6 hR6 q5 r5 HB5 HNT hR5
        obtain ⟨x0, x1, x2, f0, f1, f2⟩ := bcells q6
        obtain ⟨y0, y1, y2, g0, g1, g2⟩ := bcells r6
        clear q6 r6
        unfold s3 at HZ FIN
        go_wp2_with fail
        refine bodyPost_ret (res_cell_tmp (p := 2) (a := 3) (ty := 42) rfl _ _ _ 42 #[.int .i64 k, .int .i64 m, .slice none 0 0] (0, 0) _ (.bool true) rfl rfl HZ.out Tryz.underlying42 rfl (by kernel_rfl)) rfl ?_
        exact FIN.out
end Go.Proofs.YtafmiilkdhdngaaGreatDoor
/- dtext.Parse: the tree whose text it is, or why there is none. -/
namespace Go.Proofs.YtafmiilkdhdngaaGreatDoor
open Go.ChangeShapes Go.WideShapes Go.ChangeAt Go.RowKit
set_option linter.unusedVariables false
set_option linter.unusedSimpArgs false
/-- A text is a tree's. -/
def Tree (s : ByteArray) (k m : Int) (ks : Fo) : Prop := (Fo.cons k m ks .nil).okT ∧ s.data.toList = txB (.cons k m ks .nil)
def bigT (ks : Fo) : Prop := 60 < ks.cnt + 1 ∨ 12 < ks.depth + 1
instance (ks : Fo) : Decidable (bigT ks) := by unfold bigT; infer_instance
theorem Tree.uniq {s : ByteArray} {k m k' m' : Int} {ks ks' : Fo} (h : Tree s k m ks) (h' : Tree s k' m' ks') : k = k' ∧ m = m' ∧ ks = ks' := txB_inj h.1 h'.1 (h.2.symm.trans h'.2)
open Classical in
/-- The error of a text. -/
noncomputable def prs (s : ByteArray) : Int := if 4096 < s.size then 12 else if ∃ k m ks, Tree s k m ks then (if ∃ k m ks, Tree s k m ks ∧ bigT ks then 12 else 0) else 10
theorem prs_long {s : ByteArray} (h : 4096 < s.size) : prs s = 12 := by unfold prs; rw [if_pos h]
theorem prs_none {s : ByteArray} (h : ¬ 4096 < s.size) (hn : ∀ k m ks, ¬ Tree s k m ks) : prs s = 10 := by
  unfold prs; rw [if_neg h, if_neg]
  rintro ⟨k, m, ks, ht⟩
  exact hn k m ks ht
theorem prs_big {s : ByteArray} {k m : Int} {ks : Fo} (h : ¬ 4096 < s.size) (ht : Tree s k m ks) (hb : bigT ks) : prs s = 12 := by
  unfold prs; rw [if_neg h, if_pos ⟨k, m, ks, ht⟩, if_pos ⟨k, m, ks, ht, hb⟩]
theorem prs_ok {s : ByteArray} {k m : Int} {ks : Fo} (h : ¬ 4096 < s.size) (ht : Tree s k m ks) (hb : ¬ bigT ks) : prs s = 0 := by
  unfold prs; rw [if_neg h, if_pos ⟨k, m, ks, ht⟩, if_neg]
  rintro ⟨k', m', ks', ht', hb'⟩
  obtain ⟨rfl, rfl, rfl⟩ := ht.uniq ht'
  exact hb hb'
/-- Kids in memory that was laid since. -/
def KidsF (F : Nat) (w : World) (v : Value) (f : Fo) : Prop := KidsS w (fun b => F ≤ b ∧ b < w.heap.size) v f
theorem KidsF.kids {F : Nat} {w : World} {v : Value} {f : Fo} (h : KidsF F w v f) : Kids w w.heap.size v f := KidsS.to h (fun _ hb => hb.2)
theorem KidsF.below {F : Nat} {w w' : World} {v : Value} {f : Fo} (h : KidsF F w v f) (hb : Below w.heap.size w w') : KidsF F w' v f := KidsS.carry h (fun b h1 => ⟨⟨h1.1, Nat.lt_of_lt_of_le h1.2 hb.size⟩, hb.block b h1.2⟩)
/-- What Parse tells. -/
def ParsOk (s : ByteArray) (W : World) (e : Ending) (w' : World) : Prop := Below W.heap.size W w' ∧
  ((prs s ≠ 0 ∧ e = .returned (.tuple #[.agg #[.int .i64 0, .int .i64 0, .slice none 0 0], .int .i64 (prs s)])) ∨
    (prs s = 0 ∧ ∃ (k m : Int) (ks : Fo) (v : Value), Tree s k m ks ∧ s.size ≤ 4096 ∧ ¬ bigT ks ∧ KidsF W.heap.size w' v ks ∧ e = .returned (.tuple #[.agg #[.int .i64 k, .int .i64 m, v], .int .i64 0])))
theorem pars_bad {s : ByteArray} {W w : World} {b : Nat} {c : Int} (hB : Below W.heap.size W w) (hb : W.heap.size ≤ b) (hc : prs s = c) (h0 : c ≠ 0) : ParsOk s W (.returned (.tuple #[.agg #[.int .i64 0, .int .i64 0, .slice none 0 0], .int .i64 c])) (s3 w b (.int .i64 0) (.int .i64 0) (.slice none 0 0)) := by
  subst hc
  exact ⟨hB.trans (s3_below _ _ _ hb), .inl ⟨h0, rfl⟩⟩
theorem pars_good {s : ByteArray} {W w : World} {b : Nat} {k m : Int} {ks : Fo} {v : Value} (hB : Below W.heap.size W w) (hb : W.heap.size ≤ b) (hs : ¬ 4096 < s.size) (ht : Tree s k m ks) (hg : ¬ bigT ks) (hk : KidsS w (fun x => W.heap.size ≤ x ∧ x < w.heap.size ∧ x ≠ b) v ks) : ParsOk s W (.returned (.tuple #[.agg #[.int .i64 k, .int .i64 m, v], .int .i64 0])) (s3 w b (.int .i64 k) (.int .i64 m) v) := by
  refine ⟨hB.trans (s3_below _ _ _ hb), .inr ⟨prs_ok hs ht hg, k, m, ks, v, ht, by omega, hg, ?_, rfl⟩⟩
  exact hk.carry (w' := s3 w b (.int .i64 k) (.int .i64 m) v) (fun x hx => ⟨⟨hx.1, by rw [s3_size]; exact hx.2.1⟩, s3_other _ _ _ hx.2.2⟩)
theorem ext_len (s : ByteArray) (l : List (Int × Nat × Nat)) : (ext s l).length = l.length := by simp [ext]
theorem ext_small (s : ByteArray) (l : List (Int × Nat × Nat)) (h : s.size ≤ 4096) (i : Nat) : ((ext s l).getD i ⟨#[]⟩).size ≤ 5000 := by
  rw [List.getD]
  rcases hx : (ext s l)[i]? with _ | t
  · show (⟨#[]⟩ : ByteArray).size ≤ 5000
    simp [ByteArray.size]
  · have : t ∈ ext s l := List.mem_of_getElem? hx
    simp only [ext, List.mem_map] at this
    obtain ⟨x, _, rfl⟩ := this
    show (s.extract x.2.1 x.2.2).size ≤ 5000
    rw [ByteArray.size_extract]; omega
theorem rdr_start {w : World} {B : Nat} {v : Value} {l : List (Int × Nat × Nat)} {s : ByteArray} (ho : w.ownsRow B 139 3 v l.length (encT s l)) (hl : l.length ≤ 100000) :
    ∃ A c g, v = .slice A l.length c ∧ Rdr (w.alloc (.cells #[v, .int .i64 0] 123)) w.heap.size g A l.length c (ext s l) 0 := by
  have hn := heap_alloc_new w (.cells #[v, .int .i64 0] 123)
  rcases own_form ho with ⟨rfl, h0, -⟩ | ⟨g, c, rfl, -, hg2, -, -, hcell⟩
  · rw [h0]
    exact ⟨none, 0, w.heap.size + 1, rfl, ⟨hn, by rw [ext_len, h0], .inl rfl, fun j t hj => by
      rw [List.length_eq_zero_iff.1 h0] at hj; simp [ext] at hj, by omega, Nat.le_refl _, by omega, .inl rfl⟩⟩
  · refine ⟨_, c, g, rfl, ⟨hn, ext_len s l, .inr rfl, fun j t hj => ?_, by omega, Nat.zero_le _, hl, .inr (by simp; omega)⟩⟩
    have hj2 : j < l.length := by
      have := (List.getElem?_eq_some_iff.1 hj).1
      rw [ext_len] at this; exact this
    obtain ⟨k, a, b⟩ : Int × Nat × Nat := l[j]
    have hx : l[j]? = some l[j] := List.getElem?_eq_getElem hj2
    rcases hlj : l[j] with ⟨k', a', b'⟩
    rw [hlj] at hx
    have hc := (encT_at s l hx).2.1
    rw [Nat.mul_comm] at hc
    obtain ⟨u, h1, h2, _⟩ := hcell (j * 3 + 1) (by omega)
    rw [hc] at h1
    have e : t = s.extract a' b' := by
      simp only [ext, List.getElem?_map, hx, Option.map_some, Option.some.injEq] at hj
      exact hj.symm
    rw [World.cell?_of_block (a := ⟨g, j * 3 + 1, none⟩) (Below.heap_alloc w _ g hg2), h2, e]
    exact h1.symm
set_option maxRecDepth 100000 in
set_option maxHeartbeats 16000000 in
theorem d_parse (s : ByteArray) (W : World) : Calls Tryz.prog 48 #[.string s] W (ParsOk s W) := by
  obtain ⟨w0, hw0, y0, y1, y2, hB0, hs0⟩ := box3 W 0 0 (.slice none 0 0) 42
  have r0 : w0.heap[W.heap.size]? = some (.cells #[.int .i64 0, .int .i64 0, .slice none 0 0] 42 (0, 0)) := by rw [hw0]; exact heap_alloc_new _ _
  have HW0 := Lib.hid hw0
  clear hw0
  by_cases hlong : 4096 < s.size
  · have d1 : decide ((s.size : Int) > 4096) = true := decide_eq_true (by omega)
    have d1' : decide (4096 < s.size) = true := decide_eq_true hlong
    obtain ⟨-, -, -, g0, g1, g2⟩ := bcells r0
    have HZ := Lib.hid (s3_at (x := .int .i64 0) (y := .int .i64 0) (z := .slice none 0 0) r0)
    have FIN := Lib.hid (pars_bad (b := W.heap.size) hB0 (Nat.le_refl _) (prs_long hlong) (by decide))
    unfold s3 at HZ FIN
    go_enter Tryz.func48, Tryz.ntmps48
    go_upto_region 2 with fail
    rw [← HW0.out]
    go_wp2_with fail
    refine bodyPost_ret (res_cell_tmp (p := 2) (a := 3) (ty := 42) rfl _ _ _ 42 #[.int .i64 0, .int .i64 0, .slice none 0 0] (0, 0) _ (.int .i64 12) rfl rfl HZ.out Tryz.underlying42 rfl (by kernel_rfl)) rfl ?_
    exact FIN.out
  · have d1 : decide ((s.size : Int) > 4096) = false := decide_eq_false (by omega)
    have d1' : decide (4096 < s.size) = false := decide_eq_false hlong
    have TK := lex_tokens s (by omega) w0
    go_enter Tryz.func48, Tryz.ntmps48
    go_wp2_with fail
    rw [← HW0.out]
    refine TK.mono ?_
    rintro e w1 ⟨hB1, hcase⟩
    have r1 := (hB1.block _ (by omega)).trans r0
    have hz1 := hB1.size
    have HB1 := Lib.hid (hB0.trans (hB1.mono hB0.size))
    clear y0 y1 y2 TK hB1 r0 HW0 hB0
    rcases hcase with ⟨hn, rfl⟩ | ⟨l, v, hl, rfl, ho⟩
    · have HZ := Lib.hid (s3_at (x := .int .i64 0) (y := .int .i64 0) (z := .slice none 0 0) r1)
      have FIN := Lib.hid (pars_bad (b := W.heap.size) HB1.out (Nat.le_refl _) (prs_none hlong (fun k m ks ht => tk_none_tx hn k m ks ht)) (by decide))
      obtain ⟨y0, y1, y2, g0, g1, g2⟩ := bcells r1
      clear r1 HB1
      unfold s3 at HZ FIN
      go_wp2_with fail
      refine bodyPost_ret (res_cell_tmp (p := 2) (a := 3) (ty := 42) rfl _ _ _ 42 #[.int .i64 0, .int .i64 0, .slice none 0 0] (0, 0) _ (.int .i64 10) rfl rfl HZ.out Tryz.underlying42 rfl (by kernel_rfl)) rfl ?_
      exact FIN.out
    · have hll := (tk_len hl).1
      obtain ⟨A, c, g, rfl, hR2⟩ := rdr_start ho (by omega)
      obtain ⟨w2, hw2⟩ : ∃ w2, w1.alloc (.cells #[.slice A l.length c, .int .i64 0] 123) = w2 := ⟨_, rfl⟩
      rw [hw2] at hR2
      have hb2 : Below w1.heap.size w1 w2 := by rw [← hw2]; exact (Below.refl _ _).alloc (Nat.le_refl _) _
      have hs2 : w2.heap.size = w1.heap.size + 1 := by rw [← hw2]; simp
      have r2 := (hb2.block _ (by omega)).trans r1
      have HB2 := Lib.hid (HB1.out.trans (hb2.mono (by omega)))
      have ND := d_node w1.heap.size g A l.length c (ext s l) (ext_small s l (by omega)) (l.length + 1) 0 w2 (by omega) hR2
      obtain ⟨n, hn⟩ : ∃ n, l.length = n := ⟨_, rfl⟩
      have HNT := Lib.hid (fun k m ks => NT_what hl k m ks)
      have hel := ext_len s l
      rw [hn] at hw2 ND hel ⊢
      have HW2 := Lib.hid hw2
      clear hw2 hb2 r1 HB1 hR2 ho hn hll hl
      go_wp2_with fail
      rw [HW2.out]
      refine ND.mono ?_
      rintro e w3 ⟨hB3, hcase⟩
      have hz3 := hB3.z
      have r3 := (hB3.o _ (by omega) (by omega)).trans r2
      have HB3 := Lib.hid (HB2.out.trans (hB3.b W.heap.size (by omega) (by omega)))
      clear ND HW2 r2 HB2 hB3
      rw [List.drop_zero] at hcase
      rcases hcase with ⟨hn3, ⟨q, hR3⟩, rfl⟩ | ⟨k, m, ks, q, v, hn3, hq3, hR3, rfl, hK3⟩
      · have HP := prs_none (s := s) hlong (fun k m ks ht => by
          have := (HNT.out k m ks).2 ht
          rw [hn3] at this; cases this)
        obtain ⟨w4, hw4, x0, x1, x2, hB4, hs4⟩ := box3 w3 0 0 (.slice none 0 0) 42
        have r4 := (hB4.block _ (by omega)).trans r3
        have HZ := Lib.hid (s3_at (x := .int .i64 0) (y := .int .i64 0) (z := .slice none 0 0) r4)
        have FIN := Lib.hid (pars_bad (b := W.heap.size) (HB3.out.trans (hB4.mono (by omega))) (Nat.le_refl _) HP (by decide))
        obtain ⟨y0, y1, y2, g0, g1, g2⟩ := bcells r4
        have HW4 := Lib.hid hw4
        clear r3 HB3 hR3 hB4 r4 hw4 HNT HP hn3
        unfold s3 at HZ FIN
        go_upto_region 8 with fail
        rw [← HW4.out]
        go_wp2_with fail
        refine bodyPost_ret (res_cell_tmp (p := 2) (a := 3) (ty := 42) rfl _ _ _ 42 #[.int .i64 0, .int .i64 0, .slice none 0 0] (0, 0) _ (.int .i64 10) rfl rfl HZ.out Tryz.underlying42 rfl (by kernel_rfl)) rfl ?_
        exact FIN.out
      · obtain ⟨va, vn, vc, rfl⟩ : ∃ a n c, v = .slice a n c := by
          obtain ⟨a, c, rfl, _⟩ := hK3
          exact ⟨_, _, _, rfl⟩
        obtain ⟨w4, hw4, x0, x1, x2, hB4, hs4⟩ := box3 w3 k m (.slice va vn vc) 42
        have r4 := (hB4.block _ (by omega)).trans r3
        have hR4 := hR3.belowAll hB4
        have cat := hR4.c1
        have hK4 : KidsS w4 (fun b => w2.heap.size ≤ b ∧ b < w4.heap.size) (.slice va vn vc) ks := hK3.carry (fun b hb => ⟨⟨hb.1, by omega⟩, hB4.block b hb.2⟩)
        have HB4 := Lib.hid (HB3.out.trans (hB4.mono (by omega)))
        have HW4 := Lib.hid hw4
        have hqn := hR4.hm
        clear r3 HB3 hR3 hB4 hw4 hK3
        by_cases hqe : q = n
        · have ht : Tree s k m ks := (HNT.out k m ks).1 (by rw [hn3, hqe, ← hel, List.drop_length])
          have BG := bulk_big ks (.slice va vn vc) k m w4.heap.size w4 (hK4.to (fun b hb => hb.2)) (Nat.le_refl _)
          have dq : ((q : Int) != (n : Int)) = false := by simp [hqe]
          have dq' : (q != n) = false := by simp [hqe]
          have dq2 : (q == n) = true := by simp [hqe]
          have HT_ := Lib.hid ht
          have HK4 := Lib.hid hK4
          have HR4 := Lib.hid r4
          obtain ⟨y0, y1, y2, g0, g1, g2⟩ := bcells r4
          clear HNT hn3 ht hK4 hR4
          by_cases hbg : bigT ks
          · have hbg' : 60 < ks.cnt + 1 ∨ 12 < ks.depth + 1 := hbg
            rw [decide_eq_true hbg'] at BG
            have HP := Lib.hid (prs_big hlong HT_.out hbg)
            clear hbg hbg'
            go_upto_region 8 with fail
            rw [← HW4.out]
            go_wp2_with fail
            refine BG.mono ?_
            rintro e w5 ⟨rfl, hB5⟩
            have r5 := (hB5.block _ (by omega)).trans HR4.out
            have HZ := Lib.hid (s3_at (x := .int .i64 0) (y := .int .i64 0) (z := .slice none 0 0) r5)
            have FIN := Lib.hid (pars_bad (b := W.heap.size) (HB4.out.trans (hB5.mono (by omega))) (Nat.le_refl _) HP.out (by decide))
            clear y0 y1 y2 g0 g1 g2 BG hB5 x0 x1 x2
            obtain ⟨y0, y1, y2, g0, g1, g2⟩ := bcells r5
            clear r5
            unfold s3 at HZ FIN
            go_wp2_with fail
            refine bodyPost_ret (res_cell_tmp (p := 2) (a := 3) (ty := 42) rfl _ _ _ 42 #[.int .i64 0, .int .i64 0, .slice none 0 0] (0, 0) _ (.int .i64 12) rfl rfl HZ.out Tryz.underlying42 rfl (by kernel_rfl)) rfl ?_
            exact FIN.out
          · have hbg' : ¬ (60 < ks.cnt + 1 ∨ 12 < ks.depth + 1) := hbg
            rw [decide_eq_false hbg'] at BG
            have HBG := Lib.hid hbg
            clear hbg hbg'
            go_upto_region 8 with fail
            rw [← HW4.out]
            go_wp2_with fail
            refine BG.mono ?_
            rintro e w5 ⟨rfl, hB5⟩
            have hz5 := hB5.size
            have r5 := (hB5.block _ (by omega)).trans HR4.out
            have z0 := (hB5.cell (p := ⟨w3.heap.size, 0, none⟩) (show w3.heap.size < w4.heap.size by omega)).trans x0
            have z1 := (hB5.cell (p := ⟨w3.heap.size, 1, none⟩) (show w3.heap.size < w4.heap.size by omega)).trans x1
            have z2 := (hB5.cell (p := ⟨w3.heap.size, 2, none⟩) (show w3.heap.size < w4.heap.size by omega)).trans x2
            have HZ := Lib.hid (s3_at (x := .int .i64 k) (y := .int .i64 m) (z := .slice va vn vc) r5)
            have FIN := Lib.hid (pars_good (b := W.heap.size) (HB4.out.trans (hB5.mono (by omega))) (Nat.le_refl _) hlong HT_.out HBG.out (HK4.out.carry (fun b hb => ⟨⟨by omega, by omega, by omega⟩, hB5.block b hb.2⟩)))
            clear y0 y1 y2 g0 g1 g2 BG hB5 x0 x1 x2
            obtain ⟨y0, y1, y2, g0, g1, g2⟩ := bcells r5
            clear r5
            unfold s3 at HZ FIN
            go_wp2_with fail
            refine bodyPost_ret (res_cell_tmp (p := 2) (a := 3) (ty := 42) rfl _ _ _ 42 #[.int .i64 k, .int .i64 m, .slice va vn vc] (0, 0) _ (.int .i64 0) rfl rfl HZ.out Tryz.underlying42 rfl (by kernel_rfl)) rfl ?_
            exact FIN.out
        · have HP := prs_none (s := s) hlong (fun k' m' ks' ht => by
            have := (HNT.out k' m' ks').2 ht
            rw [hn3] at this
            simp only [Option.some.injEq, Prod.mk.injEq] at this
            have h2 := this.2
            rw [List.drop_eq_nil_iff, hel] at h2
            omega)
          have dq : ((q : Int) != (n : Int)) = true := by simp [bne, beq_eq_false_iff_ne]; omega
          have dq' : (q != n) = true := by simp [bne, beq_eq_false_iff_ne]; omega
          have dq2 : (q == n) = false := by simp [hqe]
          have HZ := Lib.hid (s3_at (x := .int .i64 0) (y := .int .i64 0) (z := .slice none 0 0) r4)
          have FIN := Lib.hid (pars_bad (b := W.heap.size) HB4.out (Nat.le_refl _) HP (by decide))
          obtain ⟨y0, y1, y2, g0, g1, g2⟩ := bcells r4
          clear HNT HP hn3 hR4 hK4 r4
          unfold s3 at HZ FIN
          go_upto_region 8 with fail
          rw [← HW4.out]
          go_wp2_with fail
          refine bodyPost_ret (res_cell_tmp (p := 2) (a := 3) (ty := 42) rfl _ _ _ 42 #[.int .i64 0, .int .i64 0, .slice none 0 0] (0, 0) _ (.int .i64 10) rfl rfl HZ.out Tryz.underlying42 rfl (by kernel_rfl)) rfl ?_
          exact FIN.out
end Go.Proofs.YtafmiilkdhdngaaGreatDoor
