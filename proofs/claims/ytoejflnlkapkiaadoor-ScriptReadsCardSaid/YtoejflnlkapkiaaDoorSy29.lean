/- Put together by program (merge2.py): Stb. -/
import Derived.Test.YtoejflnlkapkiaaDoorSy18
import Derived.Test.YtoejflnlkapkiaaDoorSy20
import Derived.Test.YtoejflnlkapkiaaDoorSy24
import Derived.Test.YtoejflnlkapkiaaDoorSy28
/- Reference 42's take: a client; a call. By program (genstb.py). -/
namespace Go.Proofs.YtoejflnlkapkiaaDoor
open Go.ChangeShapes Go.WideShapes Go.ChangeAt Go.RowKit
set_option linter.unusedVariables false
set_option linter.unusedSimpArgs false
theorem below_ex {B B' : Nat} {w w' : World} (hb : Below B w w') (he : Ex (fun t => t < B') w w') (hB : B' ≤ w.heap.size) : Below B' w w' := ⟨hb.os, hb.tape, hb.output, hb.size, fun k hk => he.2 k (by omega) hk⟩
theorem TakeOk.bool {B : Nat} {o : Option Sc} {W w' : World} {bb : Bool} {s : Sc} {p p' p'' : Option Addr} {n k n' k' n'' k'' : Nat} {us : List Value} {ul : Value} {L : List (Cl × Value)} (ho : o = if bb then some s else none) (hS : ScT B w' s (.slice p n k) (.slice p' n' k') (.slice p'' n'' k'') us ul L) (hb : Below B W w') :
    TakeOk B o W (.returned (.tuple #[.agg #[.int .i64 s.st, .int .i64 s.rm, .slice p n k, .slice p' n' k', .slice p'' n'' k''], .bool bb])) w' := by
  cases bb with
  | true => exact TakeOk.good ho hS hb
  | false => exact TakeOk.bad ho hb s _ _ _ _ _ _ _ _ _
theorem s5_other2 {w : World} {b t : Nat} {x0 x1 x2 x3 x4 : Value} (h : t ≠ b) : (((((w.setCell ⟨b, 0, none⟩ x0).setCell ⟨b, 1, none⟩ x1).setCell ⟨b, 2, none⟩ x2).setCell ⟨b, 3, none⟩ x3).setCell ⟨b, 4, none⟩ x4).heap[t]? = w.heap[t]? := by
  rw [heap_setCell_other _ _ _ _ h, heap_setCell_other _ _ _ _ h, heap_setCell_other _ _ _ _ h, heap_setCell_other _ _ _ _ h, heap_setCell_other _ _ _ _ h]
theorem ScT.callF {B : Nat} {W D w7 : World} {s : Sc} {pv tv : Value} {us : List Value} {ul : Value} {L : List (Cl × Value)} {G kc : Nat} (hS : ScT B W s (.slice (some ⟨G, 0, none⟩) s.cs.length kc) pv tv us ul L) (hne : s.cs ≠ []) {c : Cl} {x : Value} {H : Nat} (hc : c.ok)
    (hD : Below W.heap.size W D) (hH : W.heap.size + 2 ≤ H) (hx : XK (fun t => H ≤ t) D x c.xs) {c0 c1 c2 c3 c4 : Value} {T : TypeId} (hbox : D.heap[W.heap.size + 1]? = some (.cells #[c0, c1, c2, c3, c4] T (0, 0))) (hB7 : Below D.heap.size D w7) {g cap : Nat} (hg : D.heap.size ≤ g)
    (ho : w7.ownsRow B 49 7 (.slice (some ⟨g, 0, none⟩) (L.length + 1) cap) (L.length + 1) (encP L ++ clCells c x)) (a0 a1 a2 a3 a4 : Value) :
    ScT B ((((((w7.setCell ⟨G, s.cs.length - 1, none⟩ (.slice (some ⟨g, 0, none⟩) (L.length + 1) cap)).setCell ⟨W.heap.size + 1, 0, none⟩ a0).setCell ⟨W.heap.size + 1, 1, none⟩ a1).setCell ⟨W.heap.size + 1, 2, none⟩ a2).setCell ⟨W.heap.size + 1, 3, none⟩ a3).setCell ⟨W.heap.size + 1, 4, none⟩ a4)
      { s with cs := addC s.cs c } (.slice (some ⟨G, 0, none⟩) s.cs.length kc) pv tv (us.set (s.cs.length - 1) (.slice (some ⟨g, 0, none⟩) (L.length + 1) cap)) (.slice (some ⟨g, 0, none⟩) (L.length + 1) cap) (L ++ [(c, x)]) := by
  have hbl : W.heap.size + 1 < D.heap.size := (Array.getElem?_eq_some_iff.1 hbox).1
  have hG : G < W.heap.size := (World.ownsRow.lt hS.m.own G rfl).2
  have hD' := s5_below (b := W.heap.size + 1) (a0 := a0) (a1 := a1) (a2 := a2) (a3 := a3) (a4 := a4) hD (Nat.le_succ _)
  have h1 := hS.below hD'
  have hx1 : XK (KS B (.slice (some ⟨G, 0, none⟩) s.cs.length kc) ul) _ x c.xs := (hx.keep (s5_ex (b := W.heap.size + 1) (x0 := a0) (x1 := a1) (x2 := a2) (x3 := a3) (x4 := a4) (by omega))).mono (fun t _ (ht : H ≤ t) => hS.fresh (by omega))
  have hbox7 := (hB7.block _ hbl).trans hbox
  have he : Ex (fun t => t < D.heap.size) (((((D.setCell ⟨W.heap.size + 1, 0, none⟩ a0).setCell ⟨W.heap.size + 1, 1, none⟩ a1).setCell ⟨W.heap.size + 1, 2, none⟩ a2).setCell ⟨W.heap.size + 1, 3, none⟩ a3).setCell ⟨W.heap.size + 1, 4, none⟩ a4)
      (((((w7.setCell ⟨W.heap.size + 1, 0, none⟩ a0).setCell ⟨W.heap.size + 1, 1, none⟩ a1).setCell ⟨W.heap.size + 1, 2, none⟩ a2).setCell ⟨W.heap.size + 1, 3, none⟩ a3).setCell ⟨W.heap.size + 1, 4, none⟩ a4) :=
    ⟨by have := hB7.size; simpa using this, fun t _ ht => by
      by_cases e : t = W.heap.size + 1
      · rw [e, s5_row hbox7, s5_row hbox]
      · rw [s5_other2 e, s5_other2 e]; exact hB7.block t ht⟩
  have ho' := own_ex (K := fun t => D.heap.size ≤ t) ho (s5_ex (b := W.heap.size + 1) (x0 := a0) (x1 := a1) (x2 := a2) (x3 := a3) (x4 := a4) (by omega)) (fun t e => by
    have e2 : g = t := (by simpa [Value.ownBlock] using e)
    rw [← e2]; exact hg)
  have h2 := h1.call hne rfl hc hx1 ho' (he.mono (fun t ht _ => by simpa using ht)) (by simpa using hg)
  refine h2.keep ⟨by simp, fun t _ _ => ?_⟩
  have hne2 : W.heap.size + 1 ≠ G := by omega
  by_cases e : t = W.heap.size + 1
  · rw [e, s5_row ((heap_setCell_other _ _ _ _ hne2).trans hbox7), heap_setCell_other _ _ _ _ hne2, s5_row hbox7]
  · rw [s5_other2 e]
    by_cases e2 : t = G
    · subst e2
      have hlt := Nat.lt_of_lt_of_le hG (Nat.le_trans hD.size hB7.size)
      obtain ⟨-, h | ⟨g', cap', cur, hv, -, hh, -⟩⟩ := (hS.below (hD.trans (hB7.mono hD.size))).m.own
      · cases h.1
      · simp only [Value.slice.injEq, Option.some.injEq, Addr.mk.injEq] at hv
        obtain ⟨⟨rfl, -, -⟩, -, -⟩ := hv
        rw [row_setC hh, row_setC ((s5_other2 e).trans hh)]
    · rw [heap_setCell_other _ _ _ _ e2, heap_setCell_other _ _ _ _ e2, s5_other2 e]
/-- Two may come up. -/
theorem gate_two {P : Program} {md : Region.Mode} {ops : Array Oper} {Q : Exit → Act → World → Prop} {S : World → Prop} {s i j : Nat} {oi oj : Oper} {fuel : Nat} {listed : Array Bool} {a : Act} {w : World} (hi : ops[i]? = some oi) (hj : ops[j]? = some oj) (hr : Region.ready md ops listed = [i, j])
    (h1 : ∀ K' : Act → World → Prop, Shut (∀ a w, S w → (S w → wpGate P md ops Q S s fuel (listed.setIfInBounds i true) a w) → K' a w) → if Region.wanted oi (yielded ops a.tmps) = true then Oper.wp P oi a w K' Q else K' (a.put oi.dst undef) w)
    (h2 : ∀ K' : Act → World → Prop, Shut (∀ a w, S w → (S w → wpGate P md ops Q S s fuel (listed.setIfInBounds j true) a w) → K' a w) → if Region.wanted oj (yielded ops a.tmps) = true then Oper.wp P oj a w K' Q else K' (a.put oj.dst undef) w) :
    wpGate P md ops Q S s (fuel + 1) listed a w :=
  ⟨fun h0 => (by rw [hr] at h0; cases h0), fun k hk => by
    rw [hr] at hk
    have hk' : k = i ∨ k = j := by simpa using hk
    rcases hk' with rfl | rfl
    · exact wpOp_step hi (fun K' hK => h1 K' (fun a w hS hW => hK a w ⟨fun _ => hS, hW hS⟩))
    · exact wpOp_step hj (fun K' hK => h2 K' (fun a w hS hW => hK a w ⟨fun _ => hS, hW hS⟩))⟩
theorem step_gN {ops : Array Oper} {o : Oper} {a : Act} {K : Act → World → Prop} {Q : Exit → Act → World → Prop} {E' : Prop} {W : World} {T E : TypeId} {sz bys B e : Nat} {v : Value} {n : Nat} {xs news : List Value} (hT : Tryd.prog.underlying T = some (.slice E))
    (hI : (Tryd.prog.info? E).map (fun i => (i.zero.map (fun z => z.cells.size), i.size, i.bytes)) = some (some sz, sz, bys)) (hsz : 0 < sz) (hby : bys ≤ 128) (hgd : o.guard = none) (s x : Operand)
    (ho : o.op = .call { callee := .builtin .append, args := #[s, x], argTypes := #[T, T] }) (hs : a.eval s = v) (hown : W.ownsRow B E sz v n xs) (hx : a.eval x = .slice (some ⟨e, 0, none⟩) 1 1) (he : W.heap[e]? = some (.cells news.toArray E (0, 0))) (hB : B ≤ W.heap.size) (hn : n < 10000000)
    (hl : news.length = sz) (h1 : ∀ u ∈ news, u.oneCell' = true)
    (h : ∀ g cap w', w'.ownsRow B E sz (.slice (some ⟨g, 0, none⟩) (n + 1) cap) (n + 1) (xs ++ news) → Ex (fun t => v.ownBlock ≠ some t) W w' → (v.ownBlock = some g ∨ W.heap.size ≤ g) → Below B W w' → K (a.put o.dst (.slice (some ⟨g, 0, none⟩) (n + 1) cap)) w') : if Region.wanted o (yielded ops a.tmps) = true then Oper.wp Tryd.prog o a W K Q else E' := by
  obtain ⟨i0, hi⟩ : ∃ i, Tryd.prog.info? E = some i := by
    cases h0 : Tryd.prog.info? E with
    | none => rw [h0] at hI; cases hI
    | some i => exact ⟨i, rfl⟩
  rw [hi] at hI
  simp only [Option.map_some, Option.some.injEq, Prod.mk.injEq] at hI
  obtain ⟨hz, hsz2, hby2⟩ := hI
  obtain ⟨z, hz1, hz2⟩ : ∃ z, i0.zero = some z ∧ z.cells.size = sz := by
    cases h0 : i0.zero with
    | none => rw [h0] at hz; cases hz
    | some z => rw [h0] at hz; simp at hz; exact ⟨z, rfl, hz⟩
  refine step_append_lies _ hgd s x T ho B E i0 z sz bys hT hi hz1 hsz2 hby2 hz2 hsz v n xs hs hown ⟨e, 0, none⟩ 1 1 news hx (by omega) ?_ h1 (by decide) ?_ ?_ hB _ rfl ?_
  · intro j u hj
    exact World.news_of_block he j u (by simpa using hj)
  · unfold maxLen; omega
  · have : (n + 1) * bys ≤ 10000000 * 128 := Nat.mul_le_mul (by omega) hby
    omega
  · intro g cap w' h2 h3 h4 _
    refine h _ _ w' h2 (Ex.grown h3 (fun k hk hn => hn hk)) ?_ ((Below.refl _ _).grown h3 hB (fun i hi => (World.ownsRow.lt hown i hi).1))
    rcases h4 with h4 | h4
    · exact .inl h4
    · right; rw [h4]; exact Nat.le_refl _
set_option maxRecDepth 100000 in
set_option maxHeartbeats 16000000 in
theorem r_takec (B : Nat) (s : Sc) (cv pv tv : Value) (us : List Value) (ul : Value) (L : List (Cl × Value)) (n : Nat) (hn3 : 3 ≤ n) (v : Value) (f : List UInt8) (r : List (List UInt8)) (W : World) (hS : ScT B W s cv pv tv us ul L) (h : RowS W v (f :: r)) (hcn : s.cs.length ≤ 1000000) (hf0 : f = cliB.data.toList) :
    Calls Tryd.prog 32 #[scV s cv pv tv, .int .i64 (n : Int), v] W (TakeOk B (addN s (n + 1) (f :: r)) W) := by
  have hd : decide ((n : Int) < 3) = false := decide_eq_false (by omega)
  have hd' : decide (n < 3) = false := decide_eq_false (by omega)
  have HNO := Lib.hid (show ∀ bb : Bool, bb = decide (r.length = 0) → addN s (n + 1) (f :: r) = if bb then some { s with cs := s.cs ++ [[]] } else none from fun bb hbb => by
    have n1 : ¬ n + 1 = 1 := by omega
    have n2 : ¬ n + 1 = 2 := by omega
    have n3 : ¬ n + 1 = 3 := by omega
    simp only [addN, n1, n2, n3, if_false, hf0, if_true, hbb]
    by_cases hr : r = []
    · subst hr; rfl
    · rw [if_neg hr, decide_eq_false (fun h => hr (List.length_eq_zero_iff.1 h))]; rfl)
  have HCN := Lib.hid hcn
  have HS := Lib.hid hS
  obtain ⟨pc, kc, hcv⟩ : ∃ pc kc, cv = .slice pc s.cs.length kc := by
    rcases own_form hS.m.own with ⟨rfl, h0, -⟩ | ⟨g', c', rfl, -⟩
    · exact ⟨none, 0, by rw [h0]⟩
    · exact ⟨_, _, rfl⟩
  subst hcv
  obtain ⟨pp, pk, rfl, -, -⟩ := hS.p
  obtain ⟨tp, tk, rfl, -, -⟩ := hS.t
  have HBW := Lib.hid hS.sz
  clear hS
  unfold scV
  obtain ⟨p, c, rfl, hc, hx⟩ := h
  rcases hx with hx | ⟨gb, go, rfl, hgb, hcell⟩
  · cases hx
  have hf := hcell 0 f rfl
  rw [Nat.add_zero] at hf
  obtain ⟨g, hg⟩ : ∃ g : ByteArray, ⟨f.toArray⟩ = g := ⟨_, rfl⟩
  rw [hg] at hf
  have HSF := Lib.hid (show g.data.toList = f by rw [← hg])
  have hlen : (f :: r).length = r.length + 1 := rfl
  rw [hlen] at hc ⊢
  have h1n : (1 : Int) ≤ ((r.length + 1 : Nat) : Int) := by omega
  have h0n : (0 : Int) < ((r.length + 1 : Nat) : Int) := by omega
  obtain ⟨w0, hw0, r0, hB0, hs0⟩ := boxG W #[.int .i64 s.st, .int .i64 s.rm, .slice pc s.cs.length kc, .slice pp s.ps.length pk, .slice tp s.ts.length tk] 34
  obtain ⟨w1, hw1, r1, hB1, hs1⟩ := boxG w0 #[.int .i64 0, .int .i64 0, .slice none 0 0, .slice none 0 0, .slice none 0 0] 34
  obtain ⟨w2, hw2, r2, hB2, hs2⟩ := boxG w1 #[.string ⟨#[112, 108, 97, 121]⟩, .string ⟨#[112, 105, 99, 107, 115]⟩, .string ⟨#[116, 105, 99, 107, 115]⟩] 9
  rw [hs0] at r1
  have hs1' : w1.heap.size = W.heap.size + 1 + 1 := by omega
  rw [hs1'] at r2
  have HW2 := Lib.hid (show Below W.heap.size W w2 from hB0.trans ((hB1.mono hB0.size).trans (hB2.mono (Nat.le_trans hB0.size hB1.size))))
  have HX := Lib.hid (fun (w : World) (h : Below w2.heap.size w2 w) => (show TkX W w gb go g (.int .i64 s.st) (.int .i64 s.rm) (.slice pc s.cs.length kc) (.slice pp s.ps.length pk) (.slice tp s.ts.length tk) from
    have e2 := (h.block (W.heap.size + 1 + 1) (by omega)).trans r2
    ⟨(h.block _ (by omega)).trans ((hB2.block _ (by omega)).trans ((hB1.block _ (by omega)).trans r0)), (h.block _ (by omega)).trans ((hB2.block _ (by omega)).trans r1),
      by rw [cell_of_row _ _ _ _ _ _ e2]; rfl, by rw [cell_of_row _ _ _ _ _ _ e2]; rfl, by rw [cell_of_row _ _ _ _ _ _ e2]; rfl,
      ((HW2.out.trans (h.mono HW2.out.size)).cell (p := ⟨gb, go, none⟩) hgb).trans hf⟩))
  clear hcell hlen hg hgb hc r0 r1 r2 hB0 hB1 hB2 hf
  have hq1 : (g.toList == [99, 108, 105, 101, 110, 116]) = true := by
    have h1 : (g.toList == [99, 108, 105, 101, 110, 116]) = decide (f = cliB.data.toList) := str_eq3 HSF.out cliB
    rw [h1]; exact decide_eq_true hf0
  obtain ⟨x3, hx3, r3, hB3, hs3⟩ := boxG w2 #[] 55
  have HO3 := Lib.hid (show x3.ownsRow B 55 1 (.slice (some ⟨w2.heap.size, 0, none⟩) 0 0) 0 [] by rw [← hx3]; exact own_madeN w2 B _ 1 (by have := HBW.out; have := HW2.out.size; omega))
  have HB3 := Lib.hid hB3
  have HS3 := Lib.hid (HS.out.below (HW2.out.trans (hB3.mono HW2.out.size)))
  have X3 := HX.out x3 hB3
  have X2 := HX.out w2 (Below.refl _ _)
  have hf2 := X2.hf
  obtain ⟨m0, m1, m2, m3, m4⟩ := sc_cells5 X3.bs
  have hszB : B ≤ x3.heap.size := by have := HBW.out; have := HW2.out.size; omega
  have hkn : s.cs.length < 10000000 := by have := HCN.out; omega
  have HONE := Lib.hid HS3.out.m.oneu
  have HSR := Lib.hid HS3.out.m.own
  clear hn3 hcn hf0 r3 hB3 X3 X2
  go_enter Tryd.func32, Tryd.ntmps32
  go_upto_region 13 with fail
  clear hw0 hw1 hw2 hf2 hq1
  have HSZ := Lib.hid (show w2.heap.size = W.heap.size + 3 by omega)
  clear hs0 hs1 hs2 hs1'
  go_wp2_with (at_builtin; first | (refine append_allK (T := 22) (E := 55) (sz := 1) (bys := 24) (B := B) (B' := B) (b := w2.heap.size) (n := s.cs.length) (news := us) Tryd.underlying22 info_rows (by decide) (by decide) rfl _ _ rfl rfl HO3.out rfl HSR.out hszB hkn HONE.out ?_; intro g4 k4 w4 hO4 hE4 hG4 hb4; have HO4 := Lib.hid hO4; have HB4 := Lib.hid (HB3.out.trans (below_ex hb4 (hE4.mono (fun t _ (ht : t < w2.heap.size) => by omega)) HB3.out.size)); have HG4 := Lib.hid (show w2.heap.size ≤ g4 by omega); have hszB4 : B ≤ w4.heap.size := (Nat.le_trans hszB hb4.size); clear hO4 hE4 hG4 hb4 m0 m1 m2 m3 m4) | (refine append_gK (T := 22) (E := 55) (sz := 1) (bys := 24) (B := B) (v := .slice (some ⟨g4, 0, none⟩) s.cs.length k4) (n := s.cs.length) (xs := us) (news := [.slice none 0 0]) Tryd.underlying22 info_rows (by decide) (by decide) rfl _ _ rfl rfl HO4.out rfl hszB4 hkn rfl (by intro u hu; simp at hu; subst hu; rfl) ?_; intro g5 k5 w5 hO5 hE5 hG5 hb5; have HO5 := Lib.hid hO5; have HB5 := Lib.hid (HB4.out.trans (below_ex hb5 (hE5.mono (fun t _ (ht : t < w2.heap.size) e => by have e2 : g4 = t := (by simpa [Value.ownBlock] using e); have := HG4.out; omega)) HB4.out.size)); have HG5 := Lib.hid (show w2.heap.size ≤ g5 by have h1 := HG4.out; have h2 := HB4.out.size; exact hG5.elim (fun e => by have e2 : g4 = g5 := (by simpa [Value.ownBlock] using e); omega) (fun e => by omega)); have X5 := HX.out w5 HB5.out; obtain ⟨m0, m1, m2, m3, m4⟩ := sc_cells5 X5.bs; obtain ⟨f0, f1, f2, f3, f4⟩ := frz5 X5.bs; obtain ⟨n0, n1, n2, n3, n4⟩ := sc_cells5 X5.br; obtain ⟨g0', g1', g2', g3', g4'⟩ := frz5 X5.br; clear hO5 hE5 hG5 hb5))
  have HNS := Lib.hid (show ¬ (w2.heap.size ≤ W.heap.size) ∧ ¬ (w2.heap.size ≤ W.heap.size + 1) from by have := HSZ.out; omega)
  have HY := Lib.hid (show (w5.setCell ⟨W.heap.size, 2, none⟩ (.slice (some ⟨g5, 0, none⟩) (s.cs.length + 1) k5)).heap[W.heap.size + 1]? = some (.cells #[.int .i64 0, .int .i64 0, .slice none 0 0, .slice none 0 0, .slice none 0 0] 34 (0, 0)) from by
    rw [heap_setCell_other _ _ _ _ (by show W.heap.size + 1 ≠ W.heap.size; omega)]
    exact (HX.out w5 HB5.out).br)
  have hbf := s5_below (b := W.heap.size + 1) (a0 := .int .i64 s.st) (a1 := .int .i64 s.rm) (a2 := .slice (some ⟨g5, 0, none⟩) (s.cs.length + 1) k5) (a3 := .slice pp s.ps.length pk) (a4 := .slice tp s.ts.length tk) ((HW2.out.trans (HB5.out.mono HW2.out.size)).setCell (p := ⟨W.heap.size, 2, none⟩) (Nat.le_refl _) (.slice (some ⟨g5, 0, none⟩) (s.cs.length + 1) k5)) (Nat.le_succ _)
  refine take_ret rfl _ _ (W.heap.size + 1) (.int .i64 s.st) (.int .i64 s.rm) (.slice (some ⟨g5, 0, none⟩) (s.cs.length + 1) k5) (.slice pp s.ps.length pk) (.slice tp s.ts.length tk) _ rfl rfl rfl (s5_row HY.out) ?_
  have hown : ∀ t, (Value.slice (some ⟨g5, 0, none⟩) (s.cs.length + 1) k5).ownBlock = some t → w2.heap.size ≤ t := fun t e => by
    have e2 : g5 = t := (by simpa [Value.ownBlock] using e)
    have := HG5.out; omega
  refine TakeOk.bool (s := { s with cs := s.cs ++ [[]] }) (HNO.out _ ?_) (HS.out.client (own_ex (K := fun t => w2.heap.size ≤ t) HO5.out ((Ex.set HNS.out.1).trans (s5_ex HNS.out.2)) hown) (Ex.of_below' hbf) (fun t e => Nat.le_trans HW2.out.size (hown t e))) (hbf.mono HBW.out)
  first | rfl | (simp [*]; done) | (rw [Bool.eq_iff_iff]; simp; done) | (cases r <;> simp <;> omega)
set_option maxRecDepth 100000 in
set_option maxHeartbeats 16000000 in
theorem r_takea (B : Nat) (s : Sc) (cv pv tv : Value) (us : List Value) (ul : Value) (L : List (Cl × Value)) (n : Nat) (hn3 : 3 ≤ n) (v : Value) (f : List UInt8) (r : List (List UInt8)) (W : World) (hS : ScT B W s cv pv tv us ul L) (h : RowS W v (f :: r)) (hn : r.length ≤ 900000) (hl : ∀ x ∈ r, x.length ≤ 1000000) (hcn : s.cs.length ≤ 1000000) (hll : ∀ l ∈ s.cs, l.length ≤ 1000000) (hf0 : f ≠ cliB.data.toList) :
    Calls Tryd.prog 32 #[scV s cv pv tv, .int .i64 (n : Int), v] W (TakeOk B (addN s (n + 1) (f :: r)) W) := by
  have hd : decide ((n : Int) < 3) = false := decide_eq_false (by omega)
  have hd' : decide (n < 3) = false := decide_eq_false (by omega)
  obtain ⟨oc, hoc⟩ : ∃ oc, callN (f :: r) = oc := ⟨_, rfl⟩
  obtain ⟨oA, hoA⟩ : ∃ oA, addN s (n + 1) (f :: r) = oA := ⟨_, rfl⟩
  have HAD := Lib.hid (show oA = addK s oc from by rw [← hoA, ← hoc]; exact addN_call (by omega) hf0)
  rw [hoA]
  have HGD := Lib.hid (show ∀ d, oc = some d → GoodC d f r from fun d hd => callN_good (hoc.trans hd))
  obtain ⟨last, hlast⟩ : ∃ last : Int, (s.cs.length : Int) - 1 = last := ⟨_, rfl⟩
  have WL := Lib.hid (show wrap64 ((s.cs.length : Int) - 1) = last by simp only [wrap64]; omega)
  have HLAST := Lib.hid hlast
  have HCN := Lib.hid hcn
  have HLL := Lib.hid hll
  have HRN := Lib.hid hn
  have HCC := fun w (hw : Below W.heap.size W w) => r42_read v f r w (h.below hw) hn hl
  rw [hoc] at HCC
  have HCC := Lib.hid HCC
  clear hoc hoA hlast hcn hll hn hl hn3
  have HS := Lib.hid hS
  obtain ⟨pc, kc, hcv⟩ : ∃ pc kc, cv = .slice pc s.cs.length kc := by
    rcases own_form hS.m.own with ⟨rfl, h0, -⟩ | ⟨g', c', rfl, -⟩
    · exact ⟨none, 0, by rw [h0]⟩
    · exact ⟨_, _, rfl⟩
  subst hcv
  obtain ⟨pp, pk, rfl, -, -⟩ := hS.p
  obtain ⟨tp, tk, rfl, -, -⟩ := hS.t
  have HBW := Lib.hid hS.sz
  clear hS
  unfold scV
  obtain ⟨p, c, rfl, hc, hx⟩ := h
  rcases hx with hx | ⟨gb, go, rfl, hgb, hcell⟩
  · cases hx
  have hf := hcell 0 f rfl
  rw [Nat.add_zero] at hf
  obtain ⟨g, hg⟩ : ∃ g : ByteArray, ⟨f.toArray⟩ = g := ⟨_, rfl⟩
  rw [hg] at hf
  have HSF := Lib.hid (show g.data.toList = f by rw [← hg])
  have hlen : (f :: r).length = r.length + 1 := rfl
  rw [hlen] at hc HCC ⊢
  have h1n : (1 : Int) ≤ ((r.length + 1 : Nat) : Int) := by omega
  have h0n : (0 : Int) < ((r.length + 1 : Nat) : Int) := by omega
  obtain ⟨w0, hw0, r0, hB0, hs0⟩ := boxG W #[.int .i64 s.st, .int .i64 s.rm, .slice pc s.cs.length kc, .slice pp s.ps.length pk, .slice tp s.ts.length tk] 34
  obtain ⟨w1, hw1, r1, hB1, hs1⟩ := boxG w0 #[.int .i64 0, .int .i64 0, .slice none 0 0, .slice none 0 0, .slice none 0 0] 34
  obtain ⟨w2, hw2, r2, hB2, hs2⟩ := boxG w1 #[.string ⟨#[112, 108, 97, 121]⟩, .string ⟨#[112, 105, 99, 107, 115]⟩, .string ⟨#[116, 105, 99, 107, 115]⟩] 9
  rw [hs0] at r1
  have hs1' : w1.heap.size = W.heap.size + 1 + 1 := by omega
  rw [hs1'] at r2
  have HW2 := Lib.hid (show Below W.heap.size W w2 from hB0.trans ((hB1.mono hB0.size).trans (hB2.mono (Nat.le_trans hB0.size hB1.size))))
  have HX := Lib.hid (fun (w : World) (h : Below w2.heap.size w2 w) => (show TkX W w gb go g (.int .i64 s.st) (.int .i64 s.rm) (.slice pc s.cs.length kc) (.slice pp s.ps.length pk) (.slice tp s.ts.length tk) from
    have e2 := (h.block (W.heap.size + 1 + 1) (by omega)).trans r2
    ⟨(h.block _ (by omega)).trans ((hB2.block _ (by omega)).trans ((hB1.block _ (by omega)).trans r0)), (h.block _ (by omega)).trans ((hB2.block _ (by omega)).trans r1),
      by rw [cell_of_row _ _ _ _ _ _ e2]; rfl, by rw [cell_of_row _ _ _ _ _ _ e2]; rfl, by rw [cell_of_row _ _ _ _ _ _ e2]; rfl,
      ((HW2.out.trans (h.mono HW2.out.size)).cell (p := ⟨gb, go, none⟩) hgb).trans hf⟩))
  clear hcell hlen hg hgb hc r0 r1 r2 hB0 hB1 hB2 hf
  have hq1 : (g.toList == [99, 108, 105, 101, 110, 116]) = false := by
    have h1 : (g.toList == [99, 108, 105, 101, 110, 116]) = decide (f = cliB.data.toList) := str_eq3 HSF.out cliB
    rw [h1]; exact decide_eq_false hf0
  have hf2 := (HX.out w2 (Below.refl _ _)).hf
  have CL := Lib.hid (HCC.out w2 HW2.out)
  clear hf0
  go_enter Tryd.func32, Tryd.ntmps32
  go_wp2_with fail
  clear hw0 hw1 hw2 hf2
  refine CL.out.mono ?_
  rintro e x3 ⟨hi, hb3⟩
  have HB3 := Lib.hid hb3
  clear hb3
  rcases hi with ⟨d, xv, hd0, rfl, ho⟩ | ⟨hd0, d, pp', pn, pk', rfl⟩
  · obtain ⟨xp, xk, rfl, -, -, -⟩ := ho.shape
    obtain ⟨x4, hx4, r4, hb4, hs4⟩ := boxG x3 #[.int .i64 d.kd, .int .i64 d.n, .int .i64 d.dir, .string d.s, .int .i64 d.who, .int .i64 d.at', .slice xp d.xs.length xk] 49
    have HB4 := Lib.hid (HB3.out.trans (hb4.mono HB3.out.size))
    have X4 := Lib.hid (HX.out x4 HB4.out)
    by_cases hcs : s.cs = []
    · have HNO := Lib.hid (show oA = none by rw [HAD.out, hd0]; exact if_pos hcs)
      have hlast : last = -1 := by have := HLAST.out; rw [hcs] at this; simp at this; omega
      subst hlast
      obtain ⟨m0, m1, m2, m3, m4⟩ := sc_cells5 X4.out.bs
      obtain ⟨g0, g1, g2, g3, g4⟩ := frz5 X4.out.br
      obtain ⟨n0, n1, n2, n3, n4⟩ := sc_cells5 X4.out.br
      clear hd0 ho r4 hb4 hs4 hcs
      unfold Cl.val
      go_upto_region 17 with fail
      rw [WL.out]
      go_wp2_with fail
      refine take_ret rfl _ _ (W.heap.size + 1) (.int .i64 s.st) (.int .i64 s.rm) (.slice pc s.cs.length kc) (.slice pp s.ps.length pk) (.slice tp s.ts.length tk) false rfl rfl rfl (s5_row X4.out.br) ?_
      exact TakeOk.bad HNO.out (s5_below ((HW2.out.trans (HB4.out.mono HW2.out.size)).mono HBW.out) (by have := HBW.out; omega)) s _ _ _ _ _ _ _ _ _
    · obtain ⟨m, hm⟩ : ∃ m, s.cs.length - 1 = m := ⟨_, rfl⟩
      have hpos := List.length_pos_iff.2 hcs
      have hlast : last = (m : Int) := by have := HLAST.out; omega
      subst hlast
      have HNO := Lib.hid (show oA = some { s with cs := addC s.cs d } by rw [HAD.out, hd0]; exact if_neg hcs)
      have HCS := Lib.hid hcs
      have HGOOD := Lib.hid (HGD.out d hd0)
      have HM := Lib.hid hm
      have hm1 : (m : Int) < (s.cs.length : Int) := by omega
      have hm0 : (0 : Int) ≤ (m : Int) := by omega
      have hmn : ¬ (m : Int) < 0 := by omega
      have HBD := Lib.hid (show Below W.heap.size W x4.drew from (HW2.out.trans (HB4.out.mono HW2.out.size)).drew)
      have BX5 := Lib.hid (HS.out.below HBD.out)
      have HR4 := Lib.hid (show x4.drew.heap[x3.heap.size]? = some (.cells #[.int .i64 d.kd, .int .i64 d.n, .int .i64 d.dir, .string d.s, .int .i64 d.who, .int .i64 d.at', .slice xp d.xs.length xk] 49 (0, 0)) from r4)
      have HS4 := Lib.hid hs4
      have HB3S := Lib.hid (show w2.heap.size ≤ x3.heap.size from HB3.out.size)
      have HXD := Lib.hid (show XK (fun t => w2.heap.size ≤ t) x4.drew (.slice xp d.xs.length xk) d.xs from (xk_own ho HGOOD.out.wf (by have h1 := HGOOD.out.xs; have h2 := HRN.out; omega)).keep (Ex.of_below (hb4.drew)))
      have X5 := Lib.hid (HX.out x4.drew HB4.out.drew)
      have HSZ2 := Lib.hid (show W.heap.size + 2 ≤ w2.heap.size by omega)
      have HB4D := Lib.hid (show Below w2.heap.size w2 x4.drew from HB4.out.drew)
      obtain ⟨m0, m1, m2, m3, m4⟩ := sc_cells5 X4.out.bs
      clear hd0 ho r4 hb4 hs4 hcs hpos hm
      unfold Cl.val
      go_upto_region 17 with fail
      rw [WL.out]
      go_upto_region 19 with fail
      clear m0 m1 m2 m3 m4
      obtain ⟨D, hD⟩ : ∃ D, x4.drew = D := ⟨_, rfl⟩
      rw [hD] at HBD HXD BX5 X5 HR4 HB4D
      obtain ⟨G, hpc, hGB, hGW, hcu, hfu⟩ : ∃ G, pc = some ⟨G, 0, none⟩ ∧ B ≤ G ∧ G < W.heap.size ∧ D.cell? ⟨G, m, none⟩ = some ul ∧ D.frozen? ⟨G, m, none⟩ = false := by
        have hgl := fun t e => (World.ownsRow.lt HS.out.m.own t e).2
        rcases own_form BX5.out.m.own with ⟨hv, h0, -⟩ | ⟨G, c', hv, hGB, -, -, -, hcl⟩
        · exact absurd (List.length_eq_zero_iff.1 h0) HCS.out
        · simp only [Value.slice.injEq] at hv
          obtain ⟨rfl, -, -⟩ := hv
          obtain ⟨u, h1, h2, h3⟩ := hcl m (by omega)
          obtain ⟨h4, -⟩ := BX5.out.m.last HCS.out
          rw [HM.out, h1] at h4
          obtain rfl := Option.some.inj h4
          exact ⟨G, rfl, hGB, hgl G rfl, h2, h3⟩
      subst hpc
      obtain ⟨pu, ku, hul⟩ : ∃ pu ku, ul = .slice pu L.length ku := by
        rcases own_form BX5.out.m.row with ⟨rfl, h0, -⟩ | ⟨g', c', rfl, -⟩
        · exact ⟨none, 0, by rw [h0]⟩
        · exact ⟨_, _, rfl⟩
      subst hul
      have HGB := Lib.hid (And.intro hGB hGW)
      obtain ⟨k0, k1, k2, k3, k4⟩ := sc_cells5 X5.out.bs
      obtain ⟨c0, c1', c2, c3, c4, c5, c6⟩ := cells7 HR4.out
      have hszW := HBW.out
      have hsz := BX5.out.sz
      have hkn : L.length < 10000000 := by
        obtain ⟨-, h4⟩ := BX5.out.m.last HCS.out
        have h5 := HLL.out _ (List.mem_of_getElem? h4)
        rw [List.length_map] at h5
        omega
      have HONE := Lib.hid (encP_one L BX5.out.m.cl)
      have HSR := Lib.hid BX5.out.m.row
      clear hGB hGW
      obtain ⟨SS, hSS⟩ : ∃ SS : World → Prop, SS = fun w' => w'.cell? ⟨W.heap.size, 2, none⟩ = some (.slice (some ⟨G, 0, none⟩) s.cs.length kc) ∧ w'.cell? ⟨G, m, none⟩ = some (.slice pu L.length ku) ∧ w'.cell? ⟨x3.heap.size, 0, none⟩ = some (.int .i64 d.kd) ∧ w'.cell? ⟨x3.heap.size, 1, none⟩ = some (.int .i64 d.n) ∧ w'.cell? ⟨x3.heap.size, 2, none⟩ = some (.int .i64 d.dir) ∧ w'.cell? ⟨x3.heap.size, 3, none⟩ = some (.string d.s) ∧ w'.cell? ⟨x3.heap.size, 4, none⟩ = some (.int .i64 d.who) ∧ w'.cell? ⟨x3.heap.size, 5, none⟩ = some (.int .i64 d.at') ∧ w'.cell? ⟨x3.heap.size, 6, none⟩ = some (.slice xp d.xs.length xk) := ⟨_, rfl⟩
      have H0 := Lib.hid (show SS D by rw [hSS]; exact ⟨k2, hcu, c0, c1', c2, c3, c4, c5, c6⟩)
      have HSS := Lib.hid (show ∀ w, SS w → w.cell? ⟨W.heap.size, 2, none⟩ = some (.slice (some ⟨G, 0, none⟩) s.cs.length kc) ∧ w.cell? ⟨G, m, none⟩ = some (.slice pu L.length ku) ∧ w.cell? ⟨x3.heap.size, 0, none⟩ = some (.int .i64 d.kd) ∧ w.cell? ⟨x3.heap.size, 1, none⟩ = some (.int .i64 d.n) ∧ w.cell? ⟨x3.heap.size, 2, none⟩ = some (.int .i64 d.dir) ∧ w.cell? ⟨x3.heap.size, 3, none⟩ = some (.string d.s) ∧ w.cell? ⟨x3.heap.size, 4, none⟩ = some (.int .i64 d.who) ∧ w.cell? ⟨x3.heap.size, 5, none⟩ = some (.int .i64 d.at') ∧ w.cell? ⟨x3.heap.size, 6, none⟩ = some (.slice xp d.xs.length xk) from fun w hw => by rw [hSS] at hw; exact hw)
      have HSK := Lib.hid (show ∀ w', Below D.heap.size D w' → SS w' from fun w' hb => by
        rw [hSS]
        exact ⟨(hb.cell (World.block_lt_of_cell? _ _ k2)).trans k2, (hb.cell (World.block_lt_of_cell? _ _ hcu)).trans hcu, (hb.cell (World.block_lt_of_cell? _ _ c0)).trans c0, (hb.cell (World.block_lt_of_cell? _ _ c1')).trans c1', (hb.cell (World.block_lt_of_cell? _ _ c2)).trans c2, (hb.cell (World.block_lt_of_cell? _ _ c3)).trans c3, (hb.cell (World.block_lt_of_cell? _ _ c4)).trans c4, (hb.cell (World.block_lt_of_cell? _ _ c5)).trans c5, (hb.cell (World.block_lt_of_cell? _ _ c6)).trans c6⟩)
      have HFU := Lib.hid hfu
      clear hfu hSS k0 k1 k2 k3 k4 c0 c1' c2 c3 c4 c5 c6 hcu
      refine region_gate SS 14 (by kernel_rfl) (by rw [hD]; exact H0.out) (fun hHeld => ?_)
      rw [hD] at hHeld ⊢
      clear hD
      refine gate_take (i := 0) (v := ?v1) rfl (by kernel_rfl) (by kernel_rfl) (by kernel_rfl) (by kernel_rfl) (by kernel_rfl) (fun _ _ _ h => h) (Or.inl ⟨by kernel_rfl, ?hy1⟩) (by assumption) ?rest1
      case hy1 => intro w hSw; (try dsimp only at hSw); obtain ⟨q1, q2, q3, q4, q5, q6, q7, q8, q9⟩ := HSS.out w hSw; go_simp; (first | done | with_reducible rfl)
      (try simp only [Act.put, List.getElem_toArray, List.getElem_cons_zero, List.getElem_cons_succ, List.setIfInBounds_toArray, List.set_cons_zero, List.set_cons_succ])
      refine gate_take (i := 1) (v := ?v2) rfl (by kernel_rfl) (by kernel_rfl) (by kernel_rfl) (by kernel_rfl) (by kernel_rfl) (fun _ _ _ h => h) (Or.inl ⟨by kernel_rfl, ?hy2⟩) (by assumption) ?rest2
      case hy2 => intro w hSw; (try dsimp only at hSw); obtain ⟨q1, q2, q3, q4, q5, q6, q7, q8, q9⟩ := HSS.out w hSw; go_simp; (first | done | with_reducible rfl)
      (try simp only [Act.put, List.getElem_toArray, List.getElem_cons_zero, List.getElem_cons_succ, List.setIfInBounds_toArray, List.set_cons_zero, List.set_cons_succ])
      refine gate_take (i := 2) (v := ?v3) rfl (by kernel_rfl) (by kernel_rfl) (by kernel_rfl) (by kernel_rfl) (by kernel_rfl) (fun _ _ _ h => h) (Or.inl ⟨by kernel_rfl, ?hy3⟩) (by assumption) ?rest3
      case hy3 => intro w hSw; (try dsimp only at hSw); obtain ⟨q1, q2, q3, q4, q5, q6, q7, q8, q9⟩ := HSS.out w hSw; go_simp; (first | done | with_reducible rfl)
      (try simp only [Act.put, List.getElem_toArray, List.getElem_cons_zero, List.getElem_cons_succ, List.setIfInBounds_toArray, List.set_cons_zero, List.set_cons_succ])
      refine gate_take (i := 4) (v := ?v4) rfl (by kernel_rfl) (by kernel_rfl) (by kernel_rfl) (by kernel_rfl) (by kernel_rfl) (fun _ _ _ h => h) (Or.inl ⟨by kernel_rfl, ?hy4⟩) (by assumption) ?rest4
      case hy4 => intro w hSw; (try dsimp only at hSw); obtain ⟨q1, q2, q3, q4, q5, q6, q7, q8, q9⟩ := HSS.out w hSw; go_simp; (first | done | with_reducible rfl)
      (try simp only [Act.put, List.getElem_toArray, List.getElem_cons_zero, List.getElem_cons_succ, List.setIfInBounds_toArray, List.set_cons_zero, List.set_cons_succ])
      refine gate_take (i := 5) (v := ?v5) rfl (by kernel_rfl) (by kernel_rfl) (by kernel_rfl) (by kernel_rfl) (by kernel_rfl) (fun _ _ _ h => h) (Or.inl ⟨by kernel_rfl, ?hy5⟩) (by assumption) ?rest5
      case hy5 => intro w hSw; (try dsimp only at hSw); obtain ⟨q1, q2, q3, q4, q5, q6, q7, q8, q9⟩ := HSS.out w hSw; go_simp; (first | done | with_reducible rfl)
      (try simp only [Act.put, List.getElem_toArray, List.getElem_cons_zero, List.getElem_cons_succ, List.setIfInBounds_toArray, List.set_cons_zero, List.set_cons_succ])
      refine gate_take (i := 6) (v := ?v6) rfl (by kernel_rfl) (by kernel_rfl) (by kernel_rfl) (by kernel_rfl) (by kernel_rfl) (fun _ _ _ h => h) (Or.inl ⟨by kernel_rfl, ?hy6⟩) (by assumption) ?rest6
      case hy6 => intro w hSw; (try dsimp only at hSw); obtain ⟨q1, q2, q3, q4, q5, q6, q7, q8, q9⟩ := HSS.out w hSw; go_simp; (first | done | with_reducible rfl)
      (try simp only [Act.put, List.getElem_toArray, List.getElem_cons_zero, List.getElem_cons_succ, List.setIfInBounds_toArray, List.set_cons_zero, List.set_cons_succ])
      refine gate_take (i := 7) (v := ?v7) rfl (by kernel_rfl) (by kernel_rfl) (by kernel_rfl) (by kernel_rfl) (by kernel_rfl) (fun _ _ _ h => h) (Or.inl ⟨by kernel_rfl, ?hy7⟩) (by assumption) ?rest7
      case hy7 => intro w hSw; (try dsimp only at hSw); obtain ⟨q1, q2, q3, q4, q5, q6, q7, q8, q9⟩ := HSS.out w hSw; go_simp; (first | done | with_reducible rfl)
      (try simp only [Act.put, List.getElem_toArray, List.getElem_cons_zero, List.getElem_cons_succ, List.setIfInBounds_toArray, List.set_cons_zero, List.set_cons_succ])
      refine gate_take (i := 8) (v := ?v8) rfl (by kernel_rfl) (by kernel_rfl) (by kernel_rfl) (by kernel_rfl) (by kernel_rfl) (fun _ _ _ h => h) (Or.inl ⟨by kernel_rfl, ?hy8⟩) (by assumption) ?rest8
      case hy8 => intro w hSw; (try dsimp only at hSw); obtain ⟨q1, q2, q3, q4, q5, q6, q7, q8, q9⟩ := HSS.out w hSw; go_simp; (first | done | with_reducible rfl)
      (try simp only [Act.put, List.getElem_toArray, List.getElem_cons_zero, List.getElem_cons_succ, List.setIfInBounds_toArray, List.set_cons_zero, List.set_cons_succ])
      refine gate_take (i := 10) (v := ?v9) rfl (by kernel_rfl) (by kernel_rfl) (by kernel_rfl) (by kernel_rfl) (by kernel_rfl) (fun _ _ _ h => h) (Or.inl ⟨by kernel_rfl, ?hy9⟩) (by assumption) ?rest9
      case hy9 => intro w hSw; (try dsimp only at hSw); obtain ⟨q1, q2, q3, q4, q5, q6, q7, q8, q9⟩ := HSS.out w hSw; go_simp; (first | done | with_reducible rfl)
      (try simp only [Act.put, List.getElem_toArray, List.getElem_cons_zero, List.getElem_cons_succ, List.setIfInBounds_toArray, List.set_cons_zero, List.set_cons_succ])
      refine gate_two (i := 3) (j := 11) rfl rfl (by kernel_rfl) (fun K hK => ?_) (fun K hK => ?_)
      · obtain ⟨D1, hD1, -, hb1, hs1D⟩ := boxG D #[] 49
        have HO3 := Lib.hid (show D1.ownsRow B 49 7 (.slice (some ⟨D.heap.size, 0, none⟩) 0 0) 0 [] by rw [← hD1]; exact own_madeN D B _ 7 BX5.out.sz)
        go_simp
        (try rw [hD1])
        refine hK.out _ _ (HSK.out _ hb1) (fun hHeld2 => ?_)
        clear hK K hHeld
        have hHeld := hHeld2
        clear hHeld2
        (try simp only [Act.put, List.getElem_toArray, List.getElem_cons_zero, List.getElem_cons_succ, List.setIfInBounds_toArray, List.set_cons_zero, List.set_cons_succ])
        refine gate_two (i := 9) (j := 11) rfl rfl (by kernel_rfl) (fun K hK => ?_) (fun K hK => ?_)
        · refine step_allK (T := 55) (E := 49) (sz := 7) (bys := 80) (B := B) (B' := B) (xv := .slice pu L.length ku) (b := D.heap.size) (n := L.length) (news := encP L) Tryd.underlying55 info_call (by decide) (by decide) rfl _ _ rfl rfl HO3.out rfl ((BX5.out.below hb1).m.row) (by have := BX5.out.sz; have := (hb1).size; omega) hkn HONE.out ?_
          intro g5 k5 w5 hO5 hE5 hG5 hb5
          have HO5 := Lib.hid hO5
          have HB5 := Lib.hid ((hb1).trans (below_ex hb5 (hE5.mono (fun t _ (ht : t < D.heap.size) => by omega)) (hb1).size))
          have HG5 := Lib.hid (show D.heap.size ≤ g5 by have := (hb1).size; omega)
          clear hO5 hE5 hG5 hb5
          refine hK.out _ _ (HSK.out _ HB5.out) (fun hHeld2 => ?_)
          clear hK K hHeld
          have hHeld := hHeld2
          clear hHeld2
          (try simp only [Act.put, List.getElem_toArray, List.getElem_cons_zero, List.getElem_cons_succ, List.setIfInBounds_toArray, List.set_cons_zero, List.set_cons_succ])
          refine gate_one (i := 11) rfl (by kernel_rfl) (fun K hK => ?_)
          obtain ⟨w6, hw6, r6, hb6, hs6⟩ := boxG w5 #[.int .i64 d.kd, .int .i64 d.n, .int .i64 d.dir, .string d.s, .int .i64 d.who, .int .i64 d.at', .slice xp d.xs.length xk] 49
          have HB6 := Lib.hid (HB5.out.trans (hb6.mono HB5.out.size))
          have HO6 := Lib.hid (own_ex (K := fun _ => True) HO5.out (Ex.of_below hb6) (fun _ _ => trivial))
          have HE := Lib.hid (show w6.heap[w5.heap.size]? = some (.cells (clCells d (.slice xp d.xs.length xk)).toArray 49 (0, 0)) from r6)
          go_simp
          (try rw [hw6])
          clear hw6 r6 hb6 hs6
          refine hK.out _ _ (HSK.out _ HB6.out) (fun hHeld2 => ?_)
          clear hK K hHeld
          have hHeld := hHeld2
          clear hHeld2
          (try simp only [Act.put, List.getElem_toArray, List.getElem_cons_zero, List.getElem_cons_succ, List.setIfInBounds_toArray, List.set_cons_zero, List.set_cons_succ])
          have hszw : B ≤ w6.heap.size := by have := BX5.out.sz; have := (HB6.out).size; omega
          refine gate_one (i := 12) rfl (by kernel_rfl) (fun K hK => ?_)
          refine step_gN (T := 55) (E := 49) (sz := 7) (bys := 80) (B := B) (e := w5.heap.size) (v := .slice (some ⟨g5, 0, none⟩) L.length k5) (n := L.length) (xs := encP L) (news := clCells d (.slice xp d.xs.length xk)) Tryd.underlying55 info_call (by decide) (by decide) rfl _ _ rfl rfl HO6.out rfl HE.out hszw hkn rfl (by intro u hu; simp [clCells] at hu; rcases hu with rfl | rfl | rfl | rfl | rfl | rfl | rfl <;> rfl) ?_
          intro g7 k7 w7 hO7 hE7 hG7 hb7
          have HB7 := Lib.hid ((HB6.out).trans (below_ex hb7 (hE7.mono (fun t _ (ht : t < D.heap.size) e => by have e2 : g5 = t := (by simpa [Value.ownBlock] using e); have := HG5.out; omega)) (HB6.out).size))
          have HG7 := Lib.hid (show D.heap.size ≤ g7 by have h1 := HG5.out; have h2 := (HB6.out).size; exact hG7.elim (fun e => by have e2 : g5 = g7 := (by simpa [Value.ownBlock] using e); omega) (fun e => by omega))
          have HO7 := Lib.hid hO7
          clear hO7 hE7 hG7 hb7
          refine hK.out _ _ (HSK.out _ HB7.out) (fun hHeld2 => ?_)
          clear hK K hHeld
          have hHeld := hHeld2
          clear hHeld2
          (try simp only [Act.put, List.getElem_toArray, List.getElem_cons_zero, List.getElem_cons_succ, List.setIfInBounds_toArray, List.set_cons_zero, List.set_cons_succ])
          refine gate_take (i := 13) (v := ?v10) rfl (by kernel_rfl) (by kernel_rfl) (by kernel_rfl) (by kernel_rfl) (by kernel_rfl) (fun _ _ _ h => h) (Or.inl ⟨by kernel_rfl, ?hy10⟩) (by assumption) ?rest10
          case hy10 => intro w hSw; (try dsimp only at hSw); obtain ⟨q1, q2, q3, q4, q5, q6, q7, q8, q9⟩ := HSS.out w hSw; go_simp; (first | done | with_reducible rfl)
          (try simp only [Act.put, List.getElem_toArray, List.getElem_cons_zero, List.getElem_cons_succ, List.setIfInBounds_toArray, List.set_cons_zero, List.set_cons_succ])
          have hs7 := HSS.out _ (HSK.out _ HB7.out)
          have hc7 : w7.cell? ⟨G, m, none⟩ = some (.slice pu L.length ku) := hs7.2.1
          have hf7 : w7.frozen? ⟨G, m, none⟩ = false := (World.frozen?_of_block (a := ⟨G, m, none⟩) (HB7.out.block G (Nat.lt_of_lt_of_le HGB.out.2 HBD.out.size))).trans HFU.out
          clear hs7
          refine gate_past (i := 14) rfl (by kernel_rfl) (by kernel_rfl) (fun K hK => ?_)
          go_simp
          refine hK.out _ _ ?_
          clear hK K hc7 hf7
          (try simp only [Act.put, List.getElem_toArray, List.getElem_cons_zero, List.getElem_cons_succ, List.setIfInBounds_toArray, List.set_cons_zero, List.set_cons_succ])
          refine gate_done (by kernel_rfl) ?_ _
          have hX7 := HX.out w7 (HB4D.out.trans (HB7.out.mono HB4D.out.size))
          obtain ⟨Y, hY⟩ : ∃ Y, w7.setCell ⟨G, m, none⟩ (.slice (some ⟨g7, 0, none⟩) (L.length + 1) k7) = Y := ⟨_, rfl⟩
          have YS := Lib.hid (show Y.heap[W.heap.size]? = some (.cells #[.int .i64 s.st, .int .i64 s.rm, .slice (some ⟨G, 0, none⟩) s.cs.length kc, .slice pp s.ps.length pk, .slice tp s.ts.length tk] 34 (0, 0)) from by rw [← hY, heap_setCell_other _ _ _ _ (by show W.heap.size ≠ G; have := HGB.out; omega)]; exact hX7.bs)
          have YB := Lib.hid (show Y.heap[W.heap.size + 1]? = some (.cells #[.int .i64 0, .int .i64 0, .slice none 0 0, .slice none 0 0, .slice none 0 0] 34 (0, 0)) from by rw [← hY, heap_setCell_other _ _ _ _ (by show W.heap.size + 1 ≠ G; have := HGB.out; omega)]; exact hX7.br)
          have HY := Lib.hid hY
          rw [hY]
          clear hY hX7
          obtain ⟨m0, m1, m2, m3, m4⟩ := sc_cells5 YS.out
          obtain ⟨n0, n1, n2, n3, n4⟩ := sc_cells5 YB.out
          obtain ⟨f0, f1, f2, f3, f4⟩ := frz5 YB.out
          go_wp2_with fail
          refine take_ret rfl _ _ (W.heap.size + 1) (.int .i64 s.st) (.int .i64 s.rm) (.slice (some ⟨G, 0, none⟩) s.cs.length kc) (.slice pp s.ps.length pk) (.slice tp s.ts.length tk) true rfl rfl rfl (s5_row YB.out) ?_
          have hfin := HS.out.callF HCS.out HGOOD.out.ok HBD.out HSZ2.out HXD.out X5.out.br HB7.out HG7.out HO7.out (.int .i64 s.st) (.int .i64 s.rm) (.slice (some ⟨G, 0, none⟩) s.cs.length kc) (.slice pp s.ps.length pk) (.slice tp s.ts.length tk)
          rw [HM.out, HY.out] at hfin
          refine TakeOk.good (s := { s with cs := addC s.cs d }) HNO.out hfin (s5_below ?_ (by have := HBW.out; omega))
          rw [← HY.out]
          exact ((HBD.out.trans (HB7.out.mono HBD.out.size)).mono HBW.out).setCell (p := ⟨G, m, none⟩) HGB.out.1 _
        · obtain ⟨D2, hD2, r2e, hb2, hs2e⟩ := boxG D1 #[.int .i64 d.kd, .int .i64 d.n, .int .i64 d.dir, .string d.s, .int .i64 d.who, .int .i64 d.at', .slice xp d.xs.length xk] 49
          have HB2e := Lib.hid (hb1.trans (hb2.mono hb1.size))
          have HE2 := Lib.hid r2e
          have HO3' := Lib.hid (own_ex (K := fun _ => True) HO3.out (Ex.of_below hb2) (fun _ _ => trivial))
          go_simp
          (try rw [hD2])
          refine hK.out _ _ (HSK.out _ HB2e.out) (fun hHeld2 => ?_)
          clear hK K hHeld
          have hHeld := hHeld2
          clear hHeld2
          (try simp only [Act.put, List.getElem_toArray, List.getElem_cons_zero, List.getElem_cons_succ, List.setIfInBounds_toArray, List.set_cons_zero, List.set_cons_succ])
          clear HO3
          have HO3 := HO3'
          refine gate_one (i := 9) rfl (by kernel_rfl) (fun K hK => ?_)
          refine step_allK (T := 55) (E := 49) (sz := 7) (bys := 80) (B := B) (B' := B) (xv := .slice pu L.length ku) (b := D.heap.size) (n := L.length) (news := encP L) Tryd.underlying55 info_call (by decide) (by decide) rfl _ _ rfl rfl HO3.out rfl ((BX5.out.below HB2e.out).m.row) (by have := BX5.out.sz; have := (HB2e.out).size; omega) hkn HONE.out ?_
          intro g5 k5 w5 hO5 hE5 hG5 hb5
          have HO5 := Lib.hid hO5
          have HB5 := Lib.hid ((HB2e.out).trans (below_ex hb5 (hE5.mono (fun t _ (ht : t < D.heap.size) => by omega)) (HB2e.out).size))
          have HG5 := Lib.hid (show D.heap.size ≤ g5 by have := (HB2e.out).size; omega)
          have HE := Lib.hid (show w5.heap[D.heap.size + 1]? = some (.cells (clCells d (.slice xp d.xs.length xk)).toArray 49 (0, 0)) from (hE5.2 (D.heap.size + 1) (by omega) (by omega)).trans (by rw [← hs1D]; exact HE2.out))
          clear hO5 hE5 hG5 hb5
          refine hK.out _ _ (HSK.out _ HB5.out) (fun hHeld2 => ?_)
          clear hK K hHeld
          have hHeld := hHeld2
          clear hHeld2
          (try simp only [Act.put, List.getElem_toArray, List.getElem_cons_zero, List.getElem_cons_succ, List.setIfInBounds_toArray, List.set_cons_zero, List.set_cons_succ])
          have hszw : B ≤ w5.heap.size := by have := BX5.out.sz; have := (HB5.out).size; omega
          refine gate_one (i := 12) rfl (by kernel_rfl) (fun K hK => ?_)
          refine step_gN (T := 55) (E := 49) (sz := 7) (bys := 80) (B := B) (e := D.heap.size + 1) (v := .slice (some ⟨g5, 0, none⟩) L.length k5) (n := L.length) (xs := encP L) (news := clCells d (.slice xp d.xs.length xk)) Tryd.underlying55 info_call (by decide) (by decide) rfl _ _ rfl rfl HO5.out rfl HE.out hszw hkn rfl (by intro u hu; simp [clCells] at hu; rcases hu with rfl | rfl | rfl | rfl | rfl | rfl | rfl <;> rfl) ?_
          intro g7 k7 w7 hO7 hE7 hG7 hb7
          have HB7 := Lib.hid ((HB5.out).trans (below_ex hb7 (hE7.mono (fun t _ (ht : t < D.heap.size) e => by have e2 : g5 = t := (by simpa [Value.ownBlock] using e); have := HG5.out; omega)) (HB5.out).size))
          have HG7 := Lib.hid (show D.heap.size ≤ g7 by have h1 := HG5.out; have h2 := (HB5.out).size; exact hG7.elim (fun e => by have e2 : g5 = g7 := (by simpa [Value.ownBlock] using e); omega) (fun e => by omega))
          have HO7 := Lib.hid hO7
          clear hO7 hE7 hG7 hb7
          refine hK.out _ _ (HSK.out _ HB7.out) (fun hHeld2 => ?_)
          clear hK K hHeld
          have hHeld := hHeld2
          clear hHeld2
          (try simp only [Act.put, List.getElem_toArray, List.getElem_cons_zero, List.getElem_cons_succ, List.setIfInBounds_toArray, List.set_cons_zero, List.set_cons_succ])
          refine gate_take (i := 13) (v := ?v11) rfl (by kernel_rfl) (by kernel_rfl) (by kernel_rfl) (by kernel_rfl) (by kernel_rfl) (fun _ _ _ h => h) (Or.inl ⟨by kernel_rfl, ?hy11⟩) (by assumption) ?rest11
          case hy11 => intro w hSw; (try dsimp only at hSw); obtain ⟨q1, q2, q3, q4, q5, q6, q7, q8, q9⟩ := HSS.out w hSw; go_simp; (first | done | with_reducible rfl)
          (try simp only [Act.put, List.getElem_toArray, List.getElem_cons_zero, List.getElem_cons_succ, List.setIfInBounds_toArray, List.set_cons_zero, List.set_cons_succ])
          have hs7 := HSS.out _ (HSK.out _ HB7.out)
          have hc7 : w7.cell? ⟨G, m, none⟩ = some (.slice pu L.length ku) := hs7.2.1
          have hf7 : w7.frozen? ⟨G, m, none⟩ = false := (World.frozen?_of_block (a := ⟨G, m, none⟩) (HB7.out.block G (Nat.lt_of_lt_of_le HGB.out.2 HBD.out.size))).trans HFU.out
          clear hs7
          refine gate_past (i := 14) rfl (by kernel_rfl) (by kernel_rfl) (fun K hK => ?_)
          go_simp
          refine hK.out _ _ ?_
          clear hK K hc7 hf7
          (try simp only [Act.put, List.getElem_toArray, List.getElem_cons_zero, List.getElem_cons_succ, List.setIfInBounds_toArray, List.set_cons_zero, List.set_cons_succ])
          refine gate_done (by kernel_rfl) ?_ _
          have hX7 := HX.out w7 (HB4D.out.trans (HB7.out.mono HB4D.out.size))
          obtain ⟨Y, hY⟩ : ∃ Y, w7.setCell ⟨G, m, none⟩ (.slice (some ⟨g7, 0, none⟩) (L.length + 1) k7) = Y := ⟨_, rfl⟩
          have YS := Lib.hid (show Y.heap[W.heap.size]? = some (.cells #[.int .i64 s.st, .int .i64 s.rm, .slice (some ⟨G, 0, none⟩) s.cs.length kc, .slice pp s.ps.length pk, .slice tp s.ts.length tk] 34 (0, 0)) from by rw [← hY, heap_setCell_other _ _ _ _ (by show W.heap.size ≠ G; have := HGB.out; omega)]; exact hX7.bs)
          have YB := Lib.hid (show Y.heap[W.heap.size + 1]? = some (.cells #[.int .i64 0, .int .i64 0, .slice none 0 0, .slice none 0 0, .slice none 0 0] 34 (0, 0)) from by rw [← hY, heap_setCell_other _ _ _ _ (by show W.heap.size + 1 ≠ G; have := HGB.out; omega)]; exact hX7.br)
          have HY := Lib.hid hY
          rw [hY]
          clear hY hX7
          obtain ⟨m0, m1, m2, m3, m4⟩ := sc_cells5 YS.out
          obtain ⟨n0, n1, n2, n3, n4⟩ := sc_cells5 YB.out
          obtain ⟨f0, f1, f2, f3, f4⟩ := frz5 YB.out
          go_wp2_with fail
          refine take_ret rfl _ _ (W.heap.size + 1) (.int .i64 s.st) (.int .i64 s.rm) (.slice (some ⟨G, 0, none⟩) s.cs.length kc) (.slice pp s.ps.length pk) (.slice tp s.ts.length tk) true rfl rfl rfl (s5_row YB.out) ?_
          have hfin := HS.out.callF HCS.out HGOOD.out.ok HBD.out HSZ2.out HXD.out X5.out.br HB7.out HG7.out HO7.out (.int .i64 s.st) (.int .i64 s.rm) (.slice (some ⟨G, 0, none⟩) s.cs.length kc) (.slice pp s.ps.length pk) (.slice tp s.ts.length tk)
          rw [HM.out, HY.out] at hfin
          refine TakeOk.good (s := { s with cs := addC s.cs d }) HNO.out hfin (s5_below ?_ (by have := HBW.out; omega))
          rw [← HY.out]
          exact ((HBD.out.trans (HB7.out.mono HBD.out.size)).mono HBW.out).setCell (p := ⟨G, m, none⟩) HGB.out.1 _
      · obtain ⟨D0, hD0, r0e, hb0, hs0e⟩ := boxG D #[.int .i64 d.kd, .int .i64 d.n, .int .i64 d.dir, .string d.s, .int .i64 d.who, .int .i64 d.at', .slice xp d.xs.length xk] 49
        go_simp
        (try rw [hD0])
        refine hK.out _ _ (HSK.out _ hb0) (fun hHeld2 => ?_)
        clear hK K hHeld
        have hHeld := hHeld2
        clear hHeld2
        (try simp only [Act.put, List.getElem_toArray, List.getElem_cons_zero, List.getElem_cons_succ, List.setIfInBounds_toArray, List.set_cons_zero, List.set_cons_succ])
        refine gate_one (i := 3) rfl (by kernel_rfl) (fun K hK => ?_)
        obtain ⟨D1, hD1, -, hb1, hs1D⟩ := boxG D0 #[] 49
        have HO3 := Lib.hid (show D1.ownsRow B 49 7 (.slice (some ⟨D.heap.size + 1, 0, none⟩) 0 0) 0 [] by rw [← hD1, ← hs0e]; exact own_madeN D0 B _ 7 (Nat.le_trans BX5.out.sz hb0.size))
        have HB2e := Lib.hid (hb0.trans (hb1.mono hb0.size))
        go_simp
        (try rw [hD1])
        refine hK.out _ _ (HSK.out _ HB2e.out) (fun hHeld2 => ?_)
        clear hK K hHeld
        have hHeld := hHeld2
        clear hHeld2
        (try simp only [Act.put, List.getElem_toArray, List.getElem_cons_zero, List.getElem_cons_succ, List.setIfInBounds_toArray, List.set_cons_zero, List.set_cons_succ])
        refine gate_one (i := 9) rfl (by kernel_rfl) (fun K hK => ?_)
        refine step_allK (T := 55) (E := 49) (sz := 7) (bys := 80) (B := B) (B' := B) (xv := .slice pu L.length ku) (b := D.heap.size + 1) (n := L.length) (news := encP L) Tryd.underlying55 info_call (by decide) (by decide) rfl _ _ rfl rfl HO3.out rfl ((BX5.out.below HB2e.out).m.row) (by have := BX5.out.sz; have := (HB2e.out).size; omega) hkn HONE.out ?_
        intro g5 k5 w5 hO5 hE5 hG5 hb5
        have HO5 := Lib.hid hO5
        have HB5 := Lib.hid ((HB2e.out).trans (below_ex hb5 (hE5.mono (fun t _ (ht : t < D.heap.size) => by omega)) (HB2e.out).size))
        have HG5 := Lib.hid (show D.heap.size ≤ g5 by have := (HB2e.out).size; omega)
        have HE := Lib.hid (show w5.heap[D.heap.size]? = some (.cells (clCells d (.slice xp d.xs.length xk)).toArray 49 (0, 0)) from (hE5.2 D.heap.size (by omega) (by omega)).trans ((hb1.block D.heap.size (by omega)).trans r0e))
        clear hO5 hE5 hG5 hb5
        refine hK.out _ _ (HSK.out _ HB5.out) (fun hHeld2 => ?_)
        clear hK K hHeld
        have hHeld := hHeld2
        clear hHeld2
        (try simp only [Act.put, List.getElem_toArray, List.getElem_cons_zero, List.getElem_cons_succ, List.setIfInBounds_toArray, List.set_cons_zero, List.set_cons_succ])
        have hszw : B ≤ w5.heap.size := by have := BX5.out.sz; have := (HB5.out).size; omega
        refine gate_one (i := 12) rfl (by kernel_rfl) (fun K hK => ?_)
        refine step_gN (T := 55) (E := 49) (sz := 7) (bys := 80) (B := B) (e := D.heap.size) (v := .slice (some ⟨g5, 0, none⟩) L.length k5) (n := L.length) (xs := encP L) (news := clCells d (.slice xp d.xs.length xk)) Tryd.underlying55 info_call (by decide) (by decide) rfl _ _ rfl rfl HO5.out rfl HE.out hszw hkn rfl (by intro u hu; simp [clCells] at hu; rcases hu with rfl | rfl | rfl | rfl | rfl | rfl | rfl <;> rfl) ?_
        intro g7 k7 w7 hO7 hE7 hG7 hb7
        have HB7 := Lib.hid ((HB5.out).trans (below_ex hb7 (hE7.mono (fun t _ (ht : t < D.heap.size) e => by have e2 : g5 = t := (by simpa [Value.ownBlock] using e); have := HG5.out; omega)) (HB5.out).size))
        have HG7 := Lib.hid (show D.heap.size ≤ g7 by have h1 := HG5.out; have h2 := (HB5.out).size; exact hG7.elim (fun e => by have e2 : g5 = g7 := (by simpa [Value.ownBlock] using e); omega) (fun e => by omega))
        have HO7 := Lib.hid hO7
        clear hO7 hE7 hG7 hb7
        refine hK.out _ _ (HSK.out _ HB7.out) (fun hHeld2 => ?_)
        clear hK K hHeld
        have hHeld := hHeld2
        clear hHeld2
        (try simp only [Act.put, List.getElem_toArray, List.getElem_cons_zero, List.getElem_cons_succ, List.setIfInBounds_toArray, List.set_cons_zero, List.set_cons_succ])
        refine gate_take (i := 13) (v := ?v12) rfl (by kernel_rfl) (by kernel_rfl) (by kernel_rfl) (by kernel_rfl) (by kernel_rfl) (fun _ _ _ h => h) (Or.inl ⟨by kernel_rfl, ?hy12⟩) (by assumption) ?rest12
        case hy12 => intro w hSw; (try dsimp only at hSw); obtain ⟨q1, q2, q3, q4, q5, q6, q7, q8, q9⟩ := HSS.out w hSw; go_simp; (first | done | with_reducible rfl)
        (try simp only [Act.put, List.getElem_toArray, List.getElem_cons_zero, List.getElem_cons_succ, List.setIfInBounds_toArray, List.set_cons_zero, List.set_cons_succ])
        have hs7 := HSS.out _ (HSK.out _ HB7.out)
        have hc7 : w7.cell? ⟨G, m, none⟩ = some (.slice pu L.length ku) := hs7.2.1
        have hf7 : w7.frozen? ⟨G, m, none⟩ = false := (World.frozen?_of_block (a := ⟨G, m, none⟩) (HB7.out.block G (Nat.lt_of_lt_of_le HGB.out.2 HBD.out.size))).trans HFU.out
        clear hs7
        refine gate_past (i := 14) rfl (by kernel_rfl) (by kernel_rfl) (fun K hK => ?_)
        go_simp
        refine hK.out _ _ ?_
        clear hK K hc7 hf7
        (try simp only [Act.put, List.getElem_toArray, List.getElem_cons_zero, List.getElem_cons_succ, List.setIfInBounds_toArray, List.set_cons_zero, List.set_cons_succ])
        refine gate_done (by kernel_rfl) ?_ _
        have hX7 := HX.out w7 (HB4D.out.trans (HB7.out.mono HB4D.out.size))
        obtain ⟨Y, hY⟩ : ∃ Y, w7.setCell ⟨G, m, none⟩ (.slice (some ⟨g7, 0, none⟩) (L.length + 1) k7) = Y := ⟨_, rfl⟩
        have YS := Lib.hid (show Y.heap[W.heap.size]? = some (.cells #[.int .i64 s.st, .int .i64 s.rm, .slice (some ⟨G, 0, none⟩) s.cs.length kc, .slice pp s.ps.length pk, .slice tp s.ts.length tk] 34 (0, 0)) from by rw [← hY, heap_setCell_other _ _ _ _ (by show W.heap.size ≠ G; have := HGB.out; omega)]; exact hX7.bs)
        have YB := Lib.hid (show Y.heap[W.heap.size + 1]? = some (.cells #[.int .i64 0, .int .i64 0, .slice none 0 0, .slice none 0 0, .slice none 0 0] 34 (0, 0)) from by rw [← hY, heap_setCell_other _ _ _ _ (by show W.heap.size + 1 ≠ G; have := HGB.out; omega)]; exact hX7.br)
        have HY := Lib.hid hY
        rw [hY]
        clear hY hX7
        obtain ⟨m0, m1, m2, m3, m4⟩ := sc_cells5 YS.out
        obtain ⟨n0, n1, n2, n3, n4⟩ := sc_cells5 YB.out
        obtain ⟨f0, f1, f2, f3, f4⟩ := frz5 YB.out
        go_wp2_with fail
        refine take_ret rfl _ _ (W.heap.size + 1) (.int .i64 s.st) (.int .i64 s.rm) (.slice (some ⟨G, 0, none⟩) s.cs.length kc) (.slice pp s.ps.length pk) (.slice tp s.ts.length tk) true rfl rfl rfl (s5_row YB.out) ?_
        have hfin := HS.out.callF HCS.out HGOOD.out.ok HBD.out HSZ2.out HXD.out X5.out.br HB7.out HG7.out HO7.out (.int .i64 s.st) (.int .i64 s.rm) (.slice (some ⟨G, 0, none⟩) s.cs.length kc) (.slice pp s.ps.length pk) (.slice tp s.ts.length tk)
        rw [HM.out, HY.out] at hfin
        refine TakeOk.good (s := { s with cs := addC s.cs d }) HNO.out hfin (s5_below ?_ (by have := HBW.out; omega))
        rw [← HY.out]
        exact ((HBD.out.trans (HB7.out.mono HBD.out.size)).mono HBW.out).setCell (p := ⟨G, m, none⟩) HGB.out.1 _
  · have HNO := Lib.hid (show oA = none by rw [HAD.out, hd0]; rfl)
    obtain ⟨x4, hx4, r4, hb4, hs4⟩ := boxG x3 #[.int .i64 d.kd, .int .i64 d.n, .int .i64 d.dir, .string d.s, .int .i64 d.who, .int .i64 d.at', .slice pp' pn pk'] 49
    have HB4 := Lib.hid (HB3.out.trans (hb4.mono HB3.out.size))
    have X4 := Lib.hid (HX.out x4 HB4.out)
    obtain ⟨m0, m1, m2, m3, m4⟩ := sc_cells5 X4.out.bs
    obtain ⟨g0, g1, g2, g3, g4⟩ := frz5 X4.out.br
    obtain ⟨n0, n1, n2, n3, n4⟩ := sc_cells5 X4.out.br
    clear hd0 r4 hb4 hs4
    unfold Cl.val
    go_upto_region 17 with fail
    rw [WL.out]
    go_wp2_with fail
    refine take_ret rfl _ _ (W.heap.size + 1) (.int .i64 s.st) (.int .i64 s.rm) (.slice pc s.cs.length kc) (.slice pp s.ps.length pk) (.slice tp s.ts.length tk) false rfl rfl rfl (s5_row X4.out.br) ?_
    exact TakeOk.bad HNO.out (s5_below ((HW2.out.trans (HB4.out.mono HW2.out.size)).mono HBW.out) (by have := HBW.out; omega)) s _ _ _ _ _ _ _ _ _
theorem r42_take (B : Nat) (s : Sc) (cv pv tv : Value) (us : List Value) (ul : Value) (L : List (Cl × Value)) (n : Nat) (v : Value) (ws : List (List UInt8)) (hws : ws ≠ []) (W : World) (hS : ScT B W s cv pv tv us ul L) (h : RowS W v ws) (hn : ws.length ≤ 900000) (hl : ∀ x ∈ ws, x.length ≤ 1000000) (hz : SzN 1000000 s) :
    Calls Tryd.prog 32 #[.agg #[.int .i64 s.st, .int .i64 s.rm, cv, pv, tv], .int .i64 (n : Int), v] W (TakeOk B (addN s (n + 1) ws) W) := by
  match ws, hws with
  | f :: r, _ =>
    have hn2 : r.length ≤ 900000 := by simp only [List.length_cons] at hn; omega
    have hl2 : ∀ x ∈ r, x.length ≤ 1000000 := fun x hx => hl x (List.mem_cons_of_mem _ hx)
    by_cases h1 : n = 0
    · subst h1; exact r_take1 B s cv pv tv us ul L v f r W hS h hn2 hl2
    by_cases h2 : n = 1
    · subst h2; exact r_take2 B s cv pv tv us ul L v f r W hS h hn2 hl2
    by_cases h3 : n = 2
    · subst h3; exact r_take3 B s cv pv tv us ul L v f r W hS h hn2 hl2
    by_cases hf : f = cliB.data.toList
    · exact r_takec B s cv pv tv us ul L n (by omega) v f r W hS h hz.1 hf
    · exact r_takea B s cv pv tv us ul L n (by omega) v f r W hS h hn2 hl2 hz.1 hz.2 hf
end Go.Proofs.YtoejflnlkapkiaaDoor
