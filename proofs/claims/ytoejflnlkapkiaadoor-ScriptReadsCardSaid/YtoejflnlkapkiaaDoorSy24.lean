/- Put together by program (merge2.py): Sta Sqg. -/
import Derived.Test.YtoejflnlkapkiaaDoorSy10
import Derived.Test.YtoejflnlkapkiaaDoorSy15
import Derived.Test.YtoejflnlkapkiaaDoorSy17
import Derived.Test.YtoejflnlkapkiaaDoorSy23
/- Reference 42's take: the first three lines. By program (gensta.py). -/
namespace Go.Proofs.YtoejflnlkapkiaaDoor
open Go.ChangeShapes Go.WideShapes Go.ChangeAt Go.RowKit
set_option linter.unusedVariables false
set_option linter.unusedSimpArgs false
theorem take_ret {fn : Func} {p q : Tmp} (h : fn.results = #[.cell p 34, .tmp q]) (a : Act) (w : World) (g : Nat) (x0 x1 x2 x3 x4 : Value) (b : Bool) (hp : a.tmps.getD p undef = .pointer (some ⟨g, 0, none⟩)) (hq : a.tmps.getD q undef = .bool b) (hd : a.defers = [])
    (hg : w.heap[g]? = some (.cells #[x0, x1, x2, x3, x4] 34 (0, 0))) {Q : Ending → World → Prop} (hQ : Q (.returned (.tuple #[.agg #[x0, x1, x2, x3, x4], .bool b])) w) :
    bodyPost Tryd.prog fn Q .ret a w :=
  bodyPost_ret (sc_res2 h _ _ g 34 _ (0, 0) _ _ hp hq hg Tryd.underlying34 rfl (by kernel_rfl)) hd hQ
theorem TakeOk.bad {B : Nat} {o : Option Sc} {W w' : World} (ho : o = none) (hb : Below B W w') (s : Sc) (p : Option Addr) (n k : Nat) (p' : Option Addr) (n' k' : Nat) (p'' : Option Addr) (n'' k'' : Nat) : TakeOk B o W (.returned (.tuple #[.agg #[.int .i64 s.st, .int .i64 s.rm, .slice p n k, .slice p' n' k', .slice p'' n'' k''], .bool false])) w' := ⟨.inr ⟨ho, _, _, _, _, _, _, _, _, _, _, rfl⟩, hb⟩
theorem TakeOk.good {B : Nat} {o : Option Sc} {W w' : World} {s : Sc} {cv pv tv : Value} {us : List Value} {ul : Value} {L : List (Cl × Value)} (ho : o = some s) (hS : ScT B w' s cv pv tv us ul L) (hb : Below B W w') :
    TakeOk B o W (.returned (.tuple #[.agg #[.int .i64 s.st, .int .i64 s.rm, cv, pv, tv], .bool true])) w' := ⟨.inl ⟨_, _, _, _, _, _, _, ho, rfl, hS⟩, hb⟩
theorem ScT.st0 {B : Nat} {W w' : World} {s : Sc} {cv pv tv : Value} {us : List Value} {ul : Value} {L : List (Cl × Value)} (h : ScT B W s cv pv tv us ul L) (hb : Below W.heap.size W w') {a b : Int} (hi : i64r a ∧ i64r b) : ScT B w' { s with st := a, rm := b } cv pv tv us ul L :=
  have h2 := h.below hb
  ⟨h2.sz, h2.m, h2.p, h2.t, hi⟩
theorem ScT.ps1 {B : Nat} {W w' : World} {s : Sc} {cv pv tv pv' : Value} {us : List Value} {ul : Value} {L : List (Cl × Value)} {vs : List Int} (h : ScT B W s cv pv tv us ul L) (hb : Below W.heap.size W w') (hp : PK (KS B cv ul) w' pv' vs) : ScT B w' { s with ps := vs } cv pv' tv us ul L :=
  have h2 := h.below hb
  ⟨h2.sz, h2.m, hp, h2.t, h2.r⟩
theorem ScT.ts2 {B : Nat} {W w' : World} {s : Sc} {cv pv tv tv' : Value} {us : List Value} {ul : Value} {L : List (Cl × Value)} {vs : List Int} (h : ScT B W s cv pv tv us ul L) (hb : Below W.heap.size W w') (hp : PK (KS B cv ul) w' tv' vs) : ScT B w' { s with ts := vs } cv pv tv' us ul L :=
  have h2 := h.below hb
  ⟨h2.sz, h2.m, h2.p, hp, h2.r⟩
theorem s5_ex {K : Nat → Prop} {w : World} {b : Nat} {x0 x1 x2 x3 x4 : Value} (h : ¬ K b) : Ex K w (((((w.setCell ⟨b, 0, none⟩ x0).setCell ⟨b, 1, none⟩ x1).setCell ⟨b, 2, none⟩ x2).setCell ⟨b, 3, none⟩ x3).setCell ⟨b, 4, none⟩ x4) :=
  ((((Ex.set h).trans (Ex.set h)).trans (Ex.set h)).trans (Ex.set h)).trans (Ex.set h)
/-- The boxes of 'take'. -/
structure TkX (W w : World) (gb go : Nat) (g : ByteArray) (x0 x1 x2 x3 x4 : Value) : Prop where
  bs : w.heap[W.heap.size]? = some (.cells #[x0, x1, x2, x3, x4] 34 (0, 0))
  br : w.heap[W.heap.size + 1]? = some (.cells #[.int .i64 0, .int .i64 0, .slice none 0 0, .slice none 0 0, .slice none 0 0] 34 (0, 0))
  h0 : w.cell? ⟨W.heap.size + 1 + 1, 0, none⟩ = some (.string ⟨#[112, 108, 97, 121]⟩)
  h1 : w.cell? ⟨W.heap.size + 1 + 1, 1, none⟩ = some (.string ⟨#[112, 105, 99, 107, 115]⟩)
  h2 : w.cell? ⟨W.heap.size + 1 + 1, 2, none⟩ = some (.string ⟨#[116, 105, 99, 107, 115]⟩)
  hf : w.cell? ⟨gb, go, none⟩ = some (.string g)
set_option maxRecDepth 100000 in
set_option maxHeartbeats 16000000 in
theorem r_take1 (B : Nat) (s : Sc) (cv pv tv : Value) (us : List Value) (ul : Value) (L : List (Cl × Value)) (v : Value) (f : List UInt8) (r : List (List UInt8)) (W : World) (hS : ScT B W s cv pv tv us ul L) (h : RowS W v (f :: r)) (hn : r.length ≤ 900000) (hl : ∀ x ∈ r, x.length ≤ 1000000) :
    Calls Tryd.prog 32 #[scV s cv pv tv, .int .i64 0, v] W (TakeOk B (addN s 1 (f :: r)) W) := by
  have HS := Lib.hid hS
  obtain ⟨pc, kc, hcv⟩ : ∃ pc kc, cv = .slice pc s.cs.length kc := by
    rcases own_form hS.m.own with ⟨rfl, h0, -⟩ | ⟨g', c', rfl, -⟩
    · exact ⟨none, 0, by rw [h0]⟩
    · exact ⟨_, _, rfl⟩
  subst hcv
  obtain ⟨pp, pk, rfl, -, -⟩ := hS.p
  obtain ⟨tp, tk, rfl, -, -⟩ := hS.t
  have HBW := Lib.hid hS.sz
  clear hS
  unfold scV
  obtain ⟨p, c, rfl, hc, hx⟩ := h
  rcases hx with hx | ⟨gb, go, rfl, hgb, hcell⟩
  · cases hx
  have hf := hcell 0 f rfl
  rw [Nat.add_zero] at hf
  obtain ⟨g, hg⟩ : ∃ g : ByteArray, ⟨f.toArray⟩ = g := ⟨_, rfl⟩
  rw [hg] at hf
  have HSF := Lib.hid (show g.data.toList = f by rw [← hg])
  have hlen : (f :: r).length = r.length + 1 := rfl
  rw [hlen] at hc ⊢
  have HN := Lib.hid hn
  have HL := Lib.hid hl
  have h1n : (1 : Int) ≤ ((r.length + 1 : Nat) : Int) := by omega
  have h0n : (0 : Int) < ((r.length + 1 : Nat) : Int) := by omega
  have hcase := RowS.rest (c := c) rfl hc hgb hcell
  obtain ⟨w0, hw0, r0, hB0, hs0⟩ := boxG W #[.int .i64 s.st, .int .i64 s.rm, .slice pc s.cs.length kc, .slice pp s.ps.length pk, .slice tp s.ts.length tk] 34
  obtain ⟨w1, hw1, r1, hB1, hs1⟩ := boxG w0 #[.int .i64 0, .int .i64 0, .slice none 0 0, .slice none 0 0, .slice none 0 0] 34
  obtain ⟨w2, hw2, r2, hB2, hs2⟩ := boxG w1 #[.string ⟨#[112, 108, 97, 121]⟩, .string ⟨#[112, 105, 99, 107, 115]⟩, .string ⟨#[116, 105, 99, 107, 115]⟩] 9
  rw [hs0] at r1
  have hs1' : w1.heap.size = W.heap.size + 1 + 1 := by omega
  rw [hs1'] at r2
  have HW2 := Lib.hid (show Below W.heap.size W w2 from hB0.trans ((hB1.mono hB0.size).trans (hB2.mono (Nat.le_trans hB0.size hB1.size))))
  have HX := Lib.hid (fun (w : World) (h : Below w2.heap.size w2 w) => (show TkX W w gb go g (.int .i64 s.st) (.int .i64 s.rm) (.slice pc s.cs.length kc) (.slice pp s.ps.length pk) (.slice tp s.ts.length tk) from
    have e2 := (h.block (W.heap.size + 1 + 1) (by omega)).trans r2
    ⟨(h.block _ (by omega)).trans ((hB2.block _ (by omega)).trans ((hB1.block _ (by omega)).trans r0)), (h.block _ (by omega)).trans ((hB2.block _ (by omega)).trans r1),
      by rw [cell_of_row _ _ _ _ _ _ e2]; rfl, by rw [cell_of_row _ _ _ _ _ _ e2]; rfl, by rw [cell_of_row _ _ _ _ _ _ e2]; rfl,
      ((HW2.out.trans (h.mono HW2.out.size)).cell (p := ⟨gb, go, none⟩) hgb).trans hf⟩))
  clear hcell hn hl hlen hg hgb hc r0 r1 r2 hB0 hB1 hB2 hf
  rcases hcase with ⟨hu, rfl, hr0, -⟩ | ⟨hu, hc1⟩
  all_goals
    have IC := Lib.hid (r42_numbers _ r w2 (hu.below HW2.out) (by have := HN.out; omega) (fun z hz => Nat.le_trans (HL.out z hz) (by omega)))
    clear hu
    go_enter Tryd.func32, Tryd.ntmps32
    go_wp2_with fail
    clear hw0 hw1 hw2
    refine IC.out.mono ?_
    rintro e x3 ⟨hi, hb3⟩
    have HB3 := Lib.hid (HW2.out.trans (hb3.mono HW2.out.size))
    have HBD := Lib.hid (show Below W.heap.size W x3.drew from HB3.out.drew)
    have X3 := Lib.hid (HX.out x3.drew hb3.drew)
    clear hb3
    obtain ⟨m0, m1, m2, m3, m4⟩ := sc_cells5 X3.out.bs
    obtain ⟨f0, f1, f2, f3, f4⟩ := frz5 X3.out.bs
    obtain ⟨n0, n1, n2, n3, n4⟩ := sc_cells5 X3.out.br
    obtain ⟨g0, g1, g2, g3, g4⟩ := frz5 X3.out.br
    have k0 := X3.out.h0
    have kf := X3.out.hf
    have hq1 : (g.toList == [112, 108, 97, 121]) = decide (f = (plW).data.toList) := str_eq3 HSF.out plW
    rcases hi with ⟨vs, u, hv, rfl, ho⟩ | ⟨hv, rfl⟩
    · by_cases hfw : f = plW.data.toList
      · have hq2 : decide (f = (plW).data.toList) = true := decide_eq_true hfw
        rw [hq2] at hq1
        clear hq2
        by_cases h2 : vs.length = 2
        · obtain ⟨a, c2, rfl⟩ : ∃ a b, vs = [a, b] := by
            match vs, h2 with
            | [a, b], _ => exact ⟨a, b, rfl⟩
          have HNO := Lib.hid (show addN s 1 (f :: r) = some { s with st := a, rm := c2 } by
            simp only [addN, hv, hfw]
            simp)
          have hi64 := numsW_i64 hv
          have HI := Lib.hid (show i64r a ∧ i64r c2 from ⟨hi64 a (by simp), hi64 c2 (by simp)⟩)
          obtain ⟨qa, qc, rfl, hrd, -, -⟩ := ho.shape
          rcases hrd with hrd | ⟨bq, oq, rfl, hbq, hcq⟩
          · cases hrd
          have z0 := hcq 0 (by simp)
          have z1 := hcq 1 (by simp)
          simp only [List.getD_cons_zero, List.getD_cons_succ, Nat.add_zero] at z0 z1
          have hbq2 := (World.ownsRow.lt ho bq rfl).1
          have hne : bq ≠ W.heap.size := by have h2 := HW2.out.size; omega
          have hne' : W.heap.size ≠ bq := fun e => hne e.symm
          clear ho hv hcq h2 hfw hi64 hbq
          go_wp2_with fail
          go_region
          obtain ⟨wd, hwd⟩ : ∃ wd, x3.drew = wd := ⟨_, rfl⟩
          have XD := Lib.hid (show TkX W wd gb go g (.int .i64 s.st) (.int .i64 s.rm) (.slice pc s.cs.length kc) (.slice pp s.ps.length pk) (.slice tp s.ts.length tk) from by rw [← hwd]; exact X3.out)
          have HBW2 := Lib.hid (show Below W.heap.size W wd by rw [← hwd]; exact HBD.out)
          have z0d : wd.cell? ⟨bq, oq, none⟩ = some (.int .i64 a) := by rw [← hwd]; exact z0
          have z1d : wd.cell? ⟨bq, oq + 1, none⟩ = some (.int .i64 c2) := by rw [← hwd]; exact z1
          rw [hwd]
          clear hwd m0 m1 m2 m3 m4 n0 n1 n2 n3 n4 f0 f1 f2 f3 f4 g0 g1 g2 g3 g4 k0 kf z0 z1
          obtain ⟨m0, m1, -, -, -⟩ := sc_cells5 XD.out.bs
          obtain ⟨f0, f1, -, -, -⟩ := frz5 XD.out.bs
          have HY := Lib.hid (show ((wd.setCell ⟨W.heap.size, 0, none⟩ (.int .i64 a)).setCell ⟨W.heap.size, 1, none⟩ (.int .i64 c2)).heap[W.heap.size + 1]? = some (.cells #[.int .i64 0, .int .i64 0, .slice none 0 0, .slice none 0 0, .slice none 0 0] 34 (0, 0)) from by
            rw [heap_setCell_other _ _ _ _ (by show W.heap.size + 1 ≠ W.heap.size; omega), heap_setCell_other _ _ _ _ (by show W.heap.size + 1 ≠ W.heap.size; omega)]
            exact XD.out.br)
          have HYS := Lib.hid (row_setC (o := 1) (row_setC (o := 0) XD.out.bs (.int .i64 a)) (.int .i64 c2))
          have HBY := Lib.hid ((HBW2.out.setCell (p := ⟨W.heap.size, 0, none⟩) (Nat.le_refl _) (.int .i64 a)).setCell (p := ⟨W.heap.size, 1, none⟩) (Nat.le_refl _) (.int .i64 c2)).drew
          clear hq1 h1n h0n
          go_wp2_with fail
          go_region
          all_goals
            obtain ⟨wy, hwy⟩ : ∃ wy, ((wd.setCell ⟨W.heap.size, 0, none⟩ (.int .i64 a)).setCell ⟨W.heap.size, 1, none⟩ (.int .i64 c2)).drew = wy := ⟨_, rfl⟩
            have YB := Lib.hid (show wy.heap[W.heap.size + 1]? = some (.cells #[.int .i64 0, .int .i64 0, .slice none 0 0, .slice none 0 0, .slice none 0 0] 34 (0, 0)) from by rw [← hwy]; exact HY.out)
            have YS := Lib.hid (show wy.heap[W.heap.size]? = some (.cells #[.int .i64 a, .int .i64 c2, .slice pc s.cs.length kc, .slice pp s.ps.length pk, .slice tp s.ts.length tk] 34 (0, 0)) from by rw [← hwy]; exact HYS.out)
            have YW := Lib.hid (show Below W.heap.size W wy from by rw [← hwy]; exact HBY.out)
            rw [hwy]
            clear hwy m0 m1 f0 f1 z0d z1d
            obtain ⟨m0, m1, m2, m3, m4⟩ := sc_cells5 YS.out
            obtain ⟨n0, n1, n2, n3, n4⟩ := sc_cells5 YB.out
            obtain ⟨g0, g1, g2, g3, g4⟩ := frz5 YB.out
            go_wp2_with fail
            refine take_ret rfl _ _ (W.heap.size + 1) (.int .i64 a) (.int .i64 c2) (.slice pc s.cs.length kc) (.slice pp s.ps.length pk) (.slice tp s.ts.length tk) true rfl rfl rfl (s5_row YB.out) ?_
            have hbf := s5_below (b := W.heap.size + 1) (a0 := .int .i64 a) (a1 := .int .i64 c2) (a2 := .slice pc s.cs.length kc) (a3 := .slice pp s.ps.length pk) (a4 := .slice tp s.ts.length tk) YW.out (Nat.le_succ _)
            exact TakeOk.good (s := { s with st := a, rm := c2 }) HNO.out (HS.out.st0 hbf HI.out) (hbf.mono HBW.out)
        · have hd : ((((vs.length : Nat) : Int)) != 2) = true := by simp; omega
          have HNO := Lib.hid (show addN s 1 (f :: r) = none by
            simp only [addN, hv]
            match vs, h2 with
            | [], _ => rfl
            | [_], _ => rfl
            | [_, _], h => exact absurd rfl h
            | _ :: _ :: _ :: _, _ => rfl)
          obtain ⟨qa, qc, rfl, hrd, -, -⟩ := ho.shape
          clear ho hv h2 hrd hfw
          go_wp2_with fail
          go_region
          obtain ⟨wd, hwd⟩ : ∃ wd, x3.drew = wd := ⟨_, rfl⟩
          have XD := Lib.hid (show TkX W wd gb go g (.int .i64 s.st) (.int .i64 s.rm) (.slice pc s.cs.length kc) (.slice pp s.ps.length pk) (.slice tp s.ts.length tk) from by rw [← hwd]; exact X3.out)
          have HBW2 := Lib.hid (show Below W.heap.size W wd by rw [← hwd]; exact HBD.out)
          rw [hwd]
          clear hwd m0 m1 m2 m3 m4 n0 n1 n2 n3 n4 f0 f1 f2 f3 f4 g0 g1 g2 g3 g4 k0 kf
          obtain ⟨m0, m1, m2, m3, m4⟩ := sc_cells5 XD.out.bs
          obtain ⟨n0, n1, n2, n3, n4⟩ := sc_cells5 XD.out.br
          obtain ⟨g0, g1, g2, g3, g4⟩ := frz5 XD.out.br
          go_wp2_with fail
          refine take_ret rfl _ _ (W.heap.size + 1) (.int .i64 s.st) (.int .i64 s.rm) (.slice pc s.cs.length kc) (.slice pp s.ps.length pk) (.slice tp s.ts.length tk) false rfl rfl rfl (s5_row XD.out.br) ?_
          exact TakeOk.bad HNO.out (s5_below (HBW2.out.mono HBW.out) (by have := HBW.out; omega)) s _ _ _ _ _ _ _ _ _
      · have hq2 : decide (f = (plW).data.toList) = false := decide_eq_false hfw
        have HNO := Lib.hid (show addN s 1 (f :: r) = none by
          have e : addN s 1 (f :: r) = match numsW r with | some [a, b] => if f = plW.data.toList then some { s with st := a, rm := b } else none | _ => none := rfl
          rw [e, hv]
          match vs with
          | [] => rfl
          | [_] => rfl
          | [_, _] => exact if_neg hfw
          | _ :: _ :: _ :: _ => rfl)
        rw [hq2] at hq1
        obtain ⟨qa, qc, rfl, hrd, -, -⟩ := ho.shape
        clear ho hv hrd hq2 hfw
        go_wp2_with fail
        go_region
        obtain ⟨wd, hwd⟩ : ∃ wd, x3.drew = wd := ⟨_, rfl⟩
        have XD := Lib.hid (show TkX W wd gb go g (.int .i64 s.st) (.int .i64 s.rm) (.slice pc s.cs.length kc) (.slice pp s.ps.length pk) (.slice tp s.ts.length tk) from by rw [← hwd]; exact X3.out)
        have HBW2 := Lib.hid (show Below W.heap.size W wd by rw [← hwd]; exact HBD.out)
        rw [hwd]
        clear hwd m0 m1 m2 m3 m4 n0 n1 n2 n3 n4 f0 f1 f2 f3 f4 g0 g1 g2 g3 g4 k0 kf
        obtain ⟨m0, m1, m2, m3, m4⟩ := sc_cells5 XD.out.bs
        obtain ⟨n0, n1, n2, n3, n4⟩ := sc_cells5 XD.out.br
        obtain ⟨g0, g1, g2, g3, g4⟩ := frz5 XD.out.br
        go_wp2_with fail
        refine take_ret rfl _ _ (W.heap.size + 1) (.int .i64 s.st) (.int .i64 s.rm) (.slice pc s.cs.length kc) (.slice pp s.ps.length pk) (.slice tp s.ts.length tk) false rfl rfl rfl (s5_row XD.out.br) ?_
        exact TakeOk.bad HNO.out (s5_below (HBW2.out.mono HBW.out) (by have := HBW.out; omega)) s _ _ _ _ _ _ _ _ _
    · have HNO := Lib.hid (show addN s 1 (f :: r) = none by simp only [addN, hv]; simp)
      clear hv hq1
      go_wp2_with fail
      go_region
      obtain ⟨wd, hwd⟩ : ∃ wd, x3.drew = wd := ⟨_, rfl⟩
      have XD := Lib.hid (show TkX W wd gb go g (.int .i64 s.st) (.int .i64 s.rm) (.slice pc s.cs.length kc) (.slice pp s.ps.length pk) (.slice tp s.ts.length tk) from by rw [← hwd]; exact X3.out)
      have HBW2 := Lib.hid (show Below W.heap.size W wd by rw [← hwd]; exact HBD.out)
      rw [hwd]
      clear hwd m0 m1 m2 m3 m4 n0 n1 n2 n3 n4 f0 f1 f2 f3 f4 g0 g1 g2 g3 g4 k0 kf
      obtain ⟨m0, m1, m2, m3, m4⟩ := sc_cells5 XD.out.bs
      obtain ⟨n0, n1, n2, n3, n4⟩ := sc_cells5 XD.out.br
      obtain ⟨g0, g1, g2, g3, g4⟩ := frz5 XD.out.br
      go_wp2_with fail
      refine take_ret rfl _ _ (W.heap.size + 1) (.int .i64 s.st) (.int .i64 s.rm) (.slice pc s.cs.length kc) (.slice pp s.ps.length pk) (.slice tp s.ts.length tk) false rfl rfl rfl (s5_row XD.out.br) ?_
      exact TakeOk.bad HNO.out (s5_below (HBW2.out.mono HBW.out) (by have := HBW.out; omega)) s _ _ _ _ _ _ _ _ _
set_option maxRecDepth 100000 in
set_option maxHeartbeats 16000000 in
theorem r_take2 (B : Nat) (s : Sc) (cv pv tv : Value) (us : List Value) (ul : Value) (L : List (Cl × Value)) (v : Value) (f : List UInt8) (r : List (List UInt8)) (W : World) (hS : ScT B W s cv pv tv us ul L) (h : RowS W v (f :: r)) (hn : r.length ≤ 900000) (hl : ∀ x ∈ r, x.length ≤ 1000000) :
    Calls Tryd.prog 32 #[scV s cv pv tv, .int .i64 1, v] W (TakeOk B (addN s 2 (f :: r)) W) := by
  have HS := Lib.hid hS
  obtain ⟨pc, kc, hcv⟩ : ∃ pc kc, cv = .slice pc s.cs.length kc := by
    rcases own_form hS.m.own with ⟨rfl, h0, -⟩ | ⟨g', c', rfl, -⟩
    · exact ⟨none, 0, by rw [h0]⟩
    · exact ⟨_, _, rfl⟩
  subst hcv
  obtain ⟨pp, pk, rfl, -, -⟩ := hS.p
  obtain ⟨tp, tk, rfl, -, -⟩ := hS.t
  have HBW := Lib.hid hS.sz
  clear hS
  unfold scV
  obtain ⟨p, c, rfl, hc, hx⟩ := h
  rcases hx with hx | ⟨gb, go, rfl, hgb, hcell⟩
  · cases hx
  have hf := hcell 0 f rfl
  rw [Nat.add_zero] at hf
  obtain ⟨g, hg⟩ : ∃ g : ByteArray, ⟨f.toArray⟩ = g := ⟨_, rfl⟩
  rw [hg] at hf
  have HSF := Lib.hid (show g.data.toList = f by rw [← hg])
  have hlen : (f :: r).length = r.length + 1 := rfl
  rw [hlen] at hc ⊢
  have HN := Lib.hid hn
  have HL := Lib.hid hl
  have h1n : (1 : Int) ≤ ((r.length + 1 : Nat) : Int) := by omega
  have h0n : (0 : Int) < ((r.length + 1 : Nat) : Int) := by omega
  have hcase := RowS.rest (c := c) rfl hc hgb hcell
  obtain ⟨w0, hw0, r0, hB0, hs0⟩ := boxG W #[.int .i64 s.st, .int .i64 s.rm, .slice pc s.cs.length kc, .slice pp s.ps.length pk, .slice tp s.ts.length tk] 34
  obtain ⟨w1, hw1, r1, hB1, hs1⟩ := boxG w0 #[.int .i64 0, .int .i64 0, .slice none 0 0, .slice none 0 0, .slice none 0 0] 34
  obtain ⟨w2, hw2, r2, hB2, hs2⟩ := boxG w1 #[.string ⟨#[112, 108, 97, 121]⟩, .string ⟨#[112, 105, 99, 107, 115]⟩, .string ⟨#[116, 105, 99, 107, 115]⟩] 9
  rw [hs0] at r1
  have hs1' : w1.heap.size = W.heap.size + 1 + 1 := by omega
  rw [hs1'] at r2
  have HW2 := Lib.hid (show Below W.heap.size W w2 from hB0.trans ((hB1.mono hB0.size).trans (hB2.mono (Nat.le_trans hB0.size hB1.size))))
  have HX := Lib.hid (fun (w : World) (h : Below w2.heap.size w2 w) => (show TkX W w gb go g (.int .i64 s.st) (.int .i64 s.rm) (.slice pc s.cs.length kc) (.slice pp s.ps.length pk) (.slice tp s.ts.length tk) from
    have e2 := (h.block (W.heap.size + 1 + 1) (by omega)).trans r2
    ⟨(h.block _ (by omega)).trans ((hB2.block _ (by omega)).trans ((hB1.block _ (by omega)).trans r0)), (h.block _ (by omega)).trans ((hB2.block _ (by omega)).trans r1),
      by rw [cell_of_row _ _ _ _ _ _ e2]; rfl, by rw [cell_of_row _ _ _ _ _ _ e2]; rfl, by rw [cell_of_row _ _ _ _ _ _ e2]; rfl,
      ((HW2.out.trans (h.mono HW2.out.size)).cell (p := ⟨gb, go, none⟩) hgb).trans hf⟩))
  clear hcell hn hl hlen hg hgb hc r0 r1 r2 hB0 hB1 hB2 hf
  rcases hcase with ⟨hu, rfl, hr0, -⟩ | ⟨hu, hc1⟩
  all_goals
    have IC := Lib.hid (r42_numbers _ r w2 (hu.below HW2.out) (by have := HN.out; omega) (fun z hz => Nat.le_trans (HL.out z hz) (by omega)))
    clear hu
    go_enter Tryd.func32, Tryd.ntmps32
    go_wp2_with fail
    clear hw0 hw1 hw2
    refine IC.out.mono ?_
    rintro e x3 ⟨hi, hb3⟩
    have HB3 := Lib.hid (HW2.out.trans (hb3.mono HW2.out.size))
    have HBD := Lib.hid (show Below W.heap.size W x3.drew from HB3.out.drew)
    have X3 := Lib.hid (HX.out x3.drew hb3.drew)
    clear hb3
    obtain ⟨m0, m1, m2, m3, m4⟩ := sc_cells5 X3.out.bs
    obtain ⟨f0, f1, f2, f3, f4⟩ := frz5 X3.out.bs
    obtain ⟨n0, n1, n2, n3, n4⟩ := sc_cells5 X3.out.br
    obtain ⟨g0, g1, g2, g3, g4⟩ := frz5 X3.out.br
    have k0 := X3.out.h1
    have kf := X3.out.hf
    have hq1 : (g.toList == [112, 105, 99, 107, 115]) = decide (f = (piW).data.toList) := str_eq3 HSF.out piW
    rcases hi with ⟨vs, u, hv, rfl, ho⟩ | ⟨hv, rfl⟩
    · by_cases hfw : f = piW.data.toList
      · have hq2 : decide (f = (piW).data.toList) = true := decide_eq_true hfw
        rw [hq2] at hq1
        clear hq2
        have HNO := Lib.hid (show addN s 2 (f :: r) = some { s with ps := vs } by
          simp only [addN, hv, hfw]
          simp)
        have HP := Lib.hid (pk_own ho (numsW_i64 hv) (by have h1 := numsW_len hv; have h2 := HN.out; omega))
        obtain ⟨p3, k3, rfl, -, -, -⟩ := ho.shape
        have hns : ¬ (w2.heap.size ≤ W.heap.size) := by omega
        have hns1 : ¬ (w2.heap.size ≤ W.heap.size + 1) := by omega
        have HNS := Lib.hid (And.intro hns hns1)
        clear ho hv hfw hns hns1
        go_wp2_with fail
        go_region
        obtain ⟨wd, hwd⟩ : ∃ wd, x3.drew = wd := ⟨_, rfl⟩
        have XD := Lib.hid (show TkX W wd gb go g (.int .i64 s.st) (.int .i64 s.rm) (.slice pc s.cs.length kc) (.slice pp s.ps.length pk) (.slice tp s.ts.length tk) from by rw [← hwd]; exact X3.out)
        have HBW2 := Lib.hid (show Below W.heap.size W wd by rw [← hwd]; exact HBD.out)
        have HPD := Lib.hid (show PK (fun t => w2.heap.size ≤ t) wd (.slice p3 vs.length k3) vs from by rw [← hwd]; exact HP.out.keep (Ex.of_below (Below.refl _ _).drew))
        rw [hwd]
        clear hwd m0 m1 m2 m3 m4 n0 n1 n2 n3 n4 f0 f1 f2 f3 f4 g0 g1 g2 g3 g4 k0 kf
        obtain ⟨m0, m1, m2, m3, m4⟩ := sc_cells5 XD.out.bs
        obtain ⟨f0, f1, f2, f3, f4⟩ := frz5 XD.out.bs
        obtain ⟨n0, n1, n2, n3, n4⟩ := sc_cells5 XD.out.br
        obtain ⟨g0, g1, g2, g3, g4⟩ := frz5 XD.out.br
        have HY := Lib.hid (show (wd.setCell ⟨W.heap.size, 3, none⟩ (.slice p3 vs.length k3)).heap[W.heap.size + 1]? = some (.cells #[.int .i64 0, .int .i64 0, .slice none 0 0, .slice none 0 0, .slice none 0 0] 34 (0, 0)) from by
          rw [heap_setCell_other _ _ _ _ (by show W.heap.size + 1 ≠ W.heap.size; omega)]
          exact XD.out.br)
        have HBY := Lib.hid (HBW2.out.setCell (p := ⟨W.heap.size, 3, none⟩) (Nat.le_refl _) (.slice p3 vs.length k3))
        go_wp2_with fail
        refine take_ret rfl _ _ (W.heap.size + 1) (.int .i64 s.st) (.int .i64 s.rm) (.slice pc s.cs.length kc) (.slice p3 vs.length k3) (.slice tp s.ts.length tk) true rfl rfl rfl (s5_row HY.out) ?_
        have hbf := s5_below (b := W.heap.size + 1) (a0 := .int .i64 s.st) (a1 := .int .i64 s.rm) (a2 := .slice pc s.cs.length kc) (a3 := .slice p3 vs.length k3) (a4 := .slice tp s.ts.length tk) HBY.out (Nat.le_succ _)
        exact TakeOk.good (s := { s with ps := vs }) HNO.out (HS.out.ps1 hbf ((HPD.out.keep ((Ex.set HNS.out.1).trans (s5_ex HNS.out.2))).mono (fun t _ ht => HS.out.fresh (Nat.le_trans HW2.out.size ht)))) (hbf.mono HBW.out)
      · have hq2 : decide (f = (piW).data.toList) = false := decide_eq_false hfw
        have HNO := Lib.hid (show addN s 2 (f :: r) = none by
          simp only [addN, hv]
          simp [hfw])
        rw [hq2] at hq1
        obtain ⟨qa, qc, rfl, hrd, -, -⟩ := ho.shape
        clear ho hv hrd hq2 hfw
        go_wp2_with fail
        go_region
        obtain ⟨wd, hwd⟩ : ∃ wd, x3.drew = wd := ⟨_, rfl⟩
        have XD := Lib.hid (show TkX W wd gb go g (.int .i64 s.st) (.int .i64 s.rm) (.slice pc s.cs.length kc) (.slice pp s.ps.length pk) (.slice tp s.ts.length tk) from by rw [← hwd]; exact X3.out)
        have HBW2 := Lib.hid (show Below W.heap.size W wd by rw [← hwd]; exact HBD.out)
        rw [hwd]
        clear hwd m0 m1 m2 m3 m4 n0 n1 n2 n3 n4 f0 f1 f2 f3 f4 g0 g1 g2 g3 g4 k0 kf
        obtain ⟨m0, m1, m2, m3, m4⟩ := sc_cells5 XD.out.bs
        obtain ⟨n0, n1, n2, n3, n4⟩ := sc_cells5 XD.out.br
        obtain ⟨g0, g1, g2, g3, g4⟩ := frz5 XD.out.br
        go_wp2_with fail
        refine take_ret rfl _ _ (W.heap.size + 1) (.int .i64 s.st) (.int .i64 s.rm) (.slice pc s.cs.length kc) (.slice pp s.ps.length pk) (.slice tp s.ts.length tk) false rfl rfl rfl (s5_row XD.out.br) ?_
        exact TakeOk.bad HNO.out (s5_below (HBW2.out.mono HBW.out) (by have := HBW.out; omega)) s _ _ _ _ _ _ _ _ _
    · have HNO := Lib.hid (show addN s 2 (f :: r) = none by simp only [addN, hv]; simp)
      clear hv hq1
      go_wp2_with fail
      go_region
      obtain ⟨wd, hwd⟩ : ∃ wd, x3.drew = wd := ⟨_, rfl⟩
      have XD := Lib.hid (show TkX W wd gb go g (.int .i64 s.st) (.int .i64 s.rm) (.slice pc s.cs.length kc) (.slice pp s.ps.length pk) (.slice tp s.ts.length tk) from by rw [← hwd]; exact X3.out)
      have HBW2 := Lib.hid (show Below W.heap.size W wd by rw [← hwd]; exact HBD.out)
      rw [hwd]
      clear hwd m0 m1 m2 m3 m4 n0 n1 n2 n3 n4 f0 f1 f2 f3 f4 g0 g1 g2 g3 g4 k0 kf
      obtain ⟨m0, m1, m2, m3, m4⟩ := sc_cells5 XD.out.bs
      obtain ⟨n0, n1, n2, n3, n4⟩ := sc_cells5 XD.out.br
      obtain ⟨g0, g1, g2, g3, g4⟩ := frz5 XD.out.br
      go_wp2_with fail
      refine take_ret rfl _ _ (W.heap.size + 1) (.int .i64 s.st) (.int .i64 s.rm) (.slice pc s.cs.length kc) (.slice pp s.ps.length pk) (.slice tp s.ts.length tk) false rfl rfl rfl (s5_row XD.out.br) ?_
      exact TakeOk.bad HNO.out (s5_below (HBW2.out.mono HBW.out) (by have := HBW.out; omega)) s _ _ _ _ _ _ _ _ _
set_option maxRecDepth 100000 in
set_option maxHeartbeats 16000000 in
theorem r_take3 (B : Nat) (s : Sc) (cv pv tv : Value) (us : List Value) (ul : Value) (L : List (Cl × Value)) (v : Value) (f : List UInt8) (r : List (List UInt8)) (W : World) (hS : ScT B W s cv pv tv us ul L) (h : RowS W v (f :: r)) (hn : r.length ≤ 900000) (hl : ∀ x ∈ r, x.length ≤ 1000000) :
    Calls Tryd.prog 32 #[scV s cv pv tv, .int .i64 2, v] W (TakeOk B (addN s 3 (f :: r)) W) := by
  have HS := Lib.hid hS
  obtain ⟨pc, kc, hcv⟩ : ∃ pc kc, cv = .slice pc s.cs.length kc := by
    rcases own_form hS.m.own with ⟨rfl, h0, -⟩ | ⟨g', c', rfl, -⟩
    · exact ⟨none, 0, by rw [h0]⟩
    · exact ⟨_, _, rfl⟩
  subst hcv
  obtain ⟨pp, pk, rfl, -, -⟩ := hS.p
  obtain ⟨tp, tk, rfl, -, -⟩ := hS.t
  have HBW := Lib.hid hS.sz
  clear hS
  unfold scV
  obtain ⟨p, c, rfl, hc, hx⟩ := h
  rcases hx with hx | ⟨gb, go, rfl, hgb, hcell⟩
  · cases hx
  have hf := hcell 0 f rfl
  rw [Nat.add_zero] at hf
  obtain ⟨g, hg⟩ : ∃ g : ByteArray, ⟨f.toArray⟩ = g := ⟨_, rfl⟩
  rw [hg] at hf
  have HSF := Lib.hid (show g.data.toList = f by rw [← hg])
  have hlen : (f :: r).length = r.length + 1 := rfl
  rw [hlen] at hc ⊢
  have HN := Lib.hid hn
  have HL := Lib.hid hl
  have h1n : (1 : Int) ≤ ((r.length + 1 : Nat) : Int) := by omega
  have h0n : (0 : Int) < ((r.length + 1 : Nat) : Int) := by omega
  have hcase := RowS.rest (c := c) rfl hc hgb hcell
  obtain ⟨w0, hw0, r0, hB0, hs0⟩ := boxG W #[.int .i64 s.st, .int .i64 s.rm, .slice pc s.cs.length kc, .slice pp s.ps.length pk, .slice tp s.ts.length tk] 34
  obtain ⟨w1, hw1, r1, hB1, hs1⟩ := boxG w0 #[.int .i64 0, .int .i64 0, .slice none 0 0, .slice none 0 0, .slice none 0 0] 34
  obtain ⟨w2, hw2, r2, hB2, hs2⟩ := boxG w1 #[.string ⟨#[112, 108, 97, 121]⟩, .string ⟨#[112, 105, 99, 107, 115]⟩, .string ⟨#[116, 105, 99, 107, 115]⟩] 9
  rw [hs0] at r1
  have hs1' : w1.heap.size = W.heap.size + 1 + 1 := by omega
  rw [hs1'] at r2
  have HW2 := Lib.hid (show Below W.heap.size W w2 from hB0.trans ((hB1.mono hB0.size).trans (hB2.mono (Nat.le_trans hB0.size hB1.size))))
  have HX := Lib.hid (fun (w : World) (h : Below w2.heap.size w2 w) => (show TkX W w gb go g (.int .i64 s.st) (.int .i64 s.rm) (.slice pc s.cs.length kc) (.slice pp s.ps.length pk) (.slice tp s.ts.length tk) from
    have e2 := (h.block (W.heap.size + 1 + 1) (by omega)).trans r2
    ⟨(h.block _ (by omega)).trans ((hB2.block _ (by omega)).trans ((hB1.block _ (by omega)).trans r0)), (h.block _ (by omega)).trans ((hB2.block _ (by omega)).trans r1),
      by rw [cell_of_row _ _ _ _ _ _ e2]; rfl, by rw [cell_of_row _ _ _ _ _ _ e2]; rfl, by rw [cell_of_row _ _ _ _ _ _ e2]; rfl,
      ((HW2.out.trans (h.mono HW2.out.size)).cell (p := ⟨gb, go, none⟩) hgb).trans hf⟩))
  clear hcell hn hl hlen hg hgb hc r0 r1 r2 hB0 hB1 hB2 hf
  rcases hcase with ⟨hu, rfl, hr0, -⟩ | ⟨hu, hc1⟩
  all_goals
    have IC := Lib.hid (r42_numbers _ r w2 (hu.below HW2.out) (by have := HN.out; omega) (fun z hz => Nat.le_trans (HL.out z hz) (by omega)))
    clear hu
    go_enter Tryd.func32, Tryd.ntmps32
    go_wp2_with fail
    clear hw0 hw1 hw2
    refine IC.out.mono ?_
    rintro e x3 ⟨hi, hb3⟩
    have HB3 := Lib.hid (HW2.out.trans (hb3.mono HW2.out.size))
    have HBD := Lib.hid (show Below W.heap.size W x3.drew from HB3.out.drew)
    have X3 := Lib.hid (HX.out x3.drew hb3.drew)
    clear hb3
    obtain ⟨m0, m1, m2, m3, m4⟩ := sc_cells5 X3.out.bs
    obtain ⟨f0, f1, f2, f3, f4⟩ := frz5 X3.out.bs
    obtain ⟨n0, n1, n2, n3, n4⟩ := sc_cells5 X3.out.br
    obtain ⟨g0, g1, g2, g3, g4⟩ := frz5 X3.out.br
    have k0 := X3.out.h2
    have kf := X3.out.hf
    have hq1 : (g.toList == [116, 105, 99, 107, 115]) = decide (f = (tiW).data.toList) := str_eq3 HSF.out tiW
    rcases hi with ⟨vs, u, hv, rfl, ho⟩ | ⟨hv, rfl⟩
    · by_cases hfw : f = tiW.data.toList
      · have hq2 : decide (f = (tiW).data.toList) = true := decide_eq_true hfw
        rw [hq2] at hq1
        clear hq2
        have HNO := Lib.hid (show addN s 3 (f :: r) = some { s with ts := vs } by
          simp only [addN, hv, hfw]
          simp)
        have HP := Lib.hid (pk_own ho (numsW_i64 hv) (by have h1 := numsW_len hv; have h2 := HN.out; omega))
        obtain ⟨p3, k3, rfl, -, -, -⟩ := ho.shape
        have hns : ¬ (w2.heap.size ≤ W.heap.size) := by omega
        have hns1 : ¬ (w2.heap.size ≤ W.heap.size + 1) := by omega
        have HNS := Lib.hid (And.intro hns hns1)
        clear ho hv hfw hns hns1
        go_wp2_with fail
        go_region
        obtain ⟨wd, hwd⟩ : ∃ wd, x3.drew = wd := ⟨_, rfl⟩
        have XD := Lib.hid (show TkX W wd gb go g (.int .i64 s.st) (.int .i64 s.rm) (.slice pc s.cs.length kc) (.slice pp s.ps.length pk) (.slice tp s.ts.length tk) from by rw [← hwd]; exact X3.out)
        have HBW2 := Lib.hid (show Below W.heap.size W wd by rw [← hwd]; exact HBD.out)
        have HPD := Lib.hid (show PK (fun t => w2.heap.size ≤ t) wd (.slice p3 vs.length k3) vs from by rw [← hwd]; exact HP.out.keep (Ex.of_below (Below.refl _ _).drew))
        rw [hwd]
        clear hwd m0 m1 m2 m3 m4 n0 n1 n2 n3 n4 f0 f1 f2 f3 f4 g0 g1 g2 g3 g4 k0 kf
        obtain ⟨m0, m1, m2, m3, m4⟩ := sc_cells5 XD.out.bs
        obtain ⟨f0, f1, f2, f3, f4⟩ := frz5 XD.out.bs
        obtain ⟨n0, n1, n2, n3, n4⟩ := sc_cells5 XD.out.br
        obtain ⟨g0, g1, g2, g3, g4⟩ := frz5 XD.out.br
        have HY := Lib.hid (show (wd.setCell ⟨W.heap.size, 4, none⟩ (.slice p3 vs.length k3)).heap[W.heap.size + 1]? = some (.cells #[.int .i64 0, .int .i64 0, .slice none 0 0, .slice none 0 0, .slice none 0 0] 34 (0, 0)) from by
          rw [heap_setCell_other _ _ _ _ (by show W.heap.size + 1 ≠ W.heap.size; omega)]
          exact XD.out.br)
        have HBY := Lib.hid (HBW2.out.setCell (p := ⟨W.heap.size, 4, none⟩) (Nat.le_refl _) (.slice p3 vs.length k3))
        go_wp2_with fail
        refine take_ret rfl _ _ (W.heap.size + 1) (.int .i64 s.st) (.int .i64 s.rm) (.slice pc s.cs.length kc) (.slice pp s.ps.length pk) (.slice p3 vs.length k3) true rfl rfl rfl (s5_row HY.out) ?_
        have hbf := s5_below (b := W.heap.size + 1) (a0 := .int .i64 s.st) (a1 := .int .i64 s.rm) (a2 := .slice pc s.cs.length kc) (a3 := .slice pp s.ps.length pk) (a4 := .slice p3 vs.length k3) HBY.out (Nat.le_succ _)
        exact TakeOk.good (s := { s with ts := vs }) HNO.out (HS.out.ts2 hbf ((HPD.out.keep ((Ex.set HNS.out.1).trans (s5_ex HNS.out.2))).mono (fun t _ ht => HS.out.fresh (Nat.le_trans HW2.out.size ht)))) (hbf.mono HBW.out)
      · have hq2 : decide (f = (tiW).data.toList) = false := decide_eq_false hfw
        have HNO := Lib.hid (show addN s 3 (f :: r) = none by
          simp only [addN, hv]
          simp [hfw])
        rw [hq2] at hq1
        obtain ⟨qa, qc, rfl, hrd, -, -⟩ := ho.shape
        clear ho hv hrd hq2 hfw
        go_wp2_with fail
        go_region
        obtain ⟨wd, hwd⟩ : ∃ wd, x3.drew = wd := ⟨_, rfl⟩
        have XD := Lib.hid (show TkX W wd gb go g (.int .i64 s.st) (.int .i64 s.rm) (.slice pc s.cs.length kc) (.slice pp s.ps.length pk) (.slice tp s.ts.length tk) from by rw [← hwd]; exact X3.out)
        have HBW2 := Lib.hid (show Below W.heap.size W wd by rw [← hwd]; exact HBD.out)
        rw [hwd]
        clear hwd m0 m1 m2 m3 m4 n0 n1 n2 n3 n4 f0 f1 f2 f3 f4 g0 g1 g2 g3 g4 k0 kf
        obtain ⟨m0, m1, m2, m3, m4⟩ := sc_cells5 XD.out.bs
        obtain ⟨n0, n1, n2, n3, n4⟩ := sc_cells5 XD.out.br
        obtain ⟨g0, g1, g2, g3, g4⟩ := frz5 XD.out.br
        go_wp2_with fail
        refine take_ret rfl _ _ (W.heap.size + 1) (.int .i64 s.st) (.int .i64 s.rm) (.slice pc s.cs.length kc) (.slice pp s.ps.length pk) (.slice tp s.ts.length tk) false rfl rfl rfl (s5_row XD.out.br) ?_
        exact TakeOk.bad HNO.out (s5_below (HBW2.out.mono HBW.out) (by have := HBW.out; omega)) s _ _ _ _ _ _ _ _ _
    · have HNO := Lib.hid (show addN s 3 (f :: r) = none by simp only [addN, hv]; simp)
      clear hv hq1
      go_wp2_with fail
      go_region
      obtain ⟨wd, hwd⟩ : ∃ wd, x3.drew = wd := ⟨_, rfl⟩
      have XD := Lib.hid (show TkX W wd gb go g (.int .i64 s.st) (.int .i64 s.rm) (.slice pc s.cs.length kc) (.slice pp s.ps.length pk) (.slice tp s.ts.length tk) from by rw [← hwd]; exact X3.out)
      have HBW2 := Lib.hid (show Below W.heap.size W wd by rw [← hwd]; exact HBD.out)
      rw [hwd]
      clear hwd m0 m1 m2 m3 m4 n0 n1 n2 n3 n4 f0 f1 f2 f3 f4 g0 g1 g2 g3 g4 k0 kf
      obtain ⟨m0, m1, m2, m3, m4⟩ := sc_cells5 XD.out.bs
      obtain ⟨n0, n1, n2, n3, n4⟩ := sc_cells5 XD.out.br
      obtain ⟨g0, g1, g2, g3, g4⟩ := frz5 XD.out.br
      go_wp2_with fail
      refine take_ret rfl _ _ (W.heap.size + 1) (.int .i64 s.st) (.int .i64 s.rm) (.slice pc s.cs.length kc) (.slice pp s.ps.length pk) (.slice tp s.ts.length tk) false rfl rfl rfl (s5_row XD.out.br) ?_
      exact TakeOk.bad HNO.out (s5_below (HBW2.out.mono HBW.out) (by have := HBW.out; omega)) s _ _ _ _ _ _ _ _ _
end Go.Proofs.YtoejflnlkapkiaaDoor
/- Reference 42's read: what its arms use. By program (gensqg2.py). -/
namespace Go.Proofs.YtoejflnlkapkiaaDoor
open Go.ChangeShapes Go.WideShapes Go.ChangeAt Go.RowKit
set_option linter.unusedVariables false
set_option linter.unusedSimpArgs false
theorem BxC.of {W w : World} {c : Cl} {xv : Value} (h : BxC W c xv w) (a b : Int) : BxC W { c with who := a, at' := b } xv ((w.setCell ⟨W.heap.size + 1, 4, none⟩ (.int .i64 a)).setCell ⟨W.heap.size + 1, 5, none⟩ (.int .i64 b)) := by
  refine ⟨?_, ?_, by simpa using h.2.2.1, (h.2.2.2.setCell (p := ⟨W.heap.size + 1, 4, none⟩) (by show _ ≤ W.heap.size + 1; omega) _).setCell (p := ⟨W.heap.size + 1, 5, none⟩) (by show _ ≤ W.heap.size + 1; omega) _⟩
  · rw [heap_setCell_other _ _ _ _ (by show W.heap.size ≠ W.heap.size + 1; omega), heap_setCell_other _ _ _ _ (by show W.heap.size ≠ W.heap.size + 1; omega)]
    exact h.1
  · have h1 := row_setC (o := 4) h.2.1 (.int .i64 a)
    exact row_setC (o := 5) h1 (.int .i64 b)
theorem BxC.x {W w : World} {c : Cl} {xv xv' : Value} {xs : List Int} (h : BxC W c xv w) : BxC W { c with xs := xs } xv' (w.setCell ⟨W.heap.size + 1, 6, none⟩ xv') :=
  ⟨h.base (b := 0), row_setC (o := 6) h.2.1 _, by simpa using h.2.2.1, h.2.2.2.setCell (p := ⟨W.heap.size + 1, 6, none⟩) (by show _ ≤ W.heap.size + 1; omega) _⟩
theorem keyN_len {k : Int} {r : List (List UInt8)} (h : r.length ≠ 2) : keyN k r = none := by
  unfold keyN
  cases hv : numsW r with
  | none => rfl
  | some l =>
    have hl := numsW_len hv
    match l, hl with
    | [], _ => rfl
    | [_], _ => rfl
    | [_, _], hl => exact absurd hl.symm h
    | _ :: _ :: _ :: _, _ => rfl
theorem RowS.sub2 {w : World} {gb go c : Nat} {f x y : List UInt8} {xs : List (List UInt8)} (hc : xs.length + 3 ≤ c) (hgb : gb < w.heap.size) (hcell : ∀ (j : Nat) z, (f :: x :: y :: xs)[j]? = some z → w.cell? ⟨gb, go + j, none⟩ = some (.string ⟨z.toArray⟩)) : RowS w (.slice (some ⟨gb, go + 1, none⟩) 2 (c - 1)) [x, y] :=
  ⟨_, _, rfl, by show 2 ≤ c - 1; omega, .inr ⟨gb, go + 1, rfl, hgb, fun j z hj => by
    match j, hj with
    | 0, hj => exact hcell 1 z hj
    | 1, hj => exact hcell 2 z hj⟩⟩
theorem RowS.sub3 {w : World} {gb go c : Nat} {f x y : List UInt8} {xs : List (List UInt8)} (hc : xs.length + 3 ≤ c) (hgb : gb < w.heap.size) (hcell : ∀ (j : Nat) z, (f :: x :: y :: xs)[j]? = some z → w.cell? ⟨gb, go + j, none⟩ = some (.string ⟨z.toArray⟩)) :
    (RowS w (.slice (some ⟨gb, go, none⟩) 0 0) xs ∧ c = 3 ∧ xs.length = 0) ∨ (RowS w (.slice (some ⟨gb, go + 3, none⟩) xs.length (c - 3)) xs ∧ ¬ c = 3) := by
  by_cases h3 : c = 3
  · have h0 : xs.length = 0 := by omega
    exact .inl ⟨⟨_, _, by rw [h0], by rw [h0]; exact Nat.le_refl _, .inl (List.length_eq_zero_iff.1 h0)⟩, h3, h0⟩
  · refine .inr ⟨⟨_, _, rfl, by omega, .inr ⟨gb, go + 3, rfl, hgb, fun j z hj => ?_⟩⟩, h3⟩
    have h := hcell (j + 3) z (by simpa using hj)
    have e : go + 3 + j = go + (j + 3) := by omega
    rw [e]; exact h
theorem kdU_one (f : List UInt8) : kdU f 1 = 0 := by simp [kdU]
end Go.Proofs.YtoejflnlkapkiaaDoor
