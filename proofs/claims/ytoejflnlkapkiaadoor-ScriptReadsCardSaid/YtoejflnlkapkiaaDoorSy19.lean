/- Put together by program (merge2.py): Sqk. -/
import Derived.Test.YtoejflnlkapkiaaDoorSy13
import Derived.Test.YtoejflnlkapkiaaDoorSy15
import Derived.Test.YtoejflnlkapkiaaDoorSy17
import Derived.Test.YtoejflnlkapkiaaDoorSy18
/- script.add: a call. -/
namespace Go.Proofs.YtoejflnlkapkiaaDoor
open Go.ChangeShapes Go.WideShapes Go.ChangeAt Go.RowKit
set_option linter.unusedVariables false
set_option linter.unusedSimpArgs false
theorem step_gK {ops : Array Oper} {o : Oper} {a : Act} {K : Act → World → Prop} {Q : Exit → Act → World → Prop} {E' : Prop} {W : World} {T E : TypeId} {sz bys B : Nat} {v : Value} {n : Nat} {xs news : List Value} (hT : Tryd.prog.underlying T = some (.slice E))
    (hI : (Tryd.prog.info? E).map (fun i => (i.zero.map (fun z => z.cells.size), i.size, i.bytes)) = some (some sz, sz, bys)) (hsz : 0 < sz) (hby : bys ≤ 128) (hgd : o.guard = none) (s x : Operand)
    (ho : o.op = .call { callee := .builtin .append, args := #[s, x], argTypes := #[T, T] }) (hs : a.eval s = v) (hown : W.ownsRow B E sz v n xs) (hx : a.eval x = .slice (some ⟨W.heap.size, 0, none⟩) 1 1) (hB : B ≤ W.heap.size) (hn : n < 10000000)
    (hl : news.length = sz) (h1 : ∀ u ∈ news, u.oneCell' = true)
    (h : ∀ g cap w', w'.ownsRow B E sz (.slice (some ⟨g, 0, none⟩) (n + 1) cap) (n + 1) (xs ++ news) → Ex (fun t => v.ownBlock ≠ some t) W w' → (v.ownBlock = some g ∨ W.heap.size ≤ g) → Below B W w' → K (a.put o.dst (.slice (some ⟨g, 0, none⟩) (n + 1) cap)) w') : if Region.wanted o (yielded ops a.tmps) = true then Oper.wp Tryd.prog o a (W.alloc (.cells news.toArray E)) K Q else E' := by
  obtain ⟨i0, hi⟩ : ∃ i, Tryd.prog.info? E = some i := by
    cases h0 : Tryd.prog.info? E with
    | none => rw [h0] at hI; cases hI
    | some i => exact ⟨i, rfl⟩
  rw [hi] at hI
  simp only [Option.map_some, Option.some.injEq, Prod.mk.injEq] at hI
  obtain ⟨hz, hsz2, hby2⟩ := hI
  obtain ⟨z, hz1, hz2⟩ : ∃ z, i0.zero = some z ∧ z.cells.size = sz := by
    cases h0 : i0.zero with
    | none => rw [h0] at hz; cases hz
    | some z => rw [h0] at hz; simp at hz; exact ⟨z, rfl, hz⟩
  refine step_append_lies _ hgd s x T ho B E i0 z sz bys hT hi hz1 hsz2 hby2 hz2 hsz v n xs hs (World.ownsRow.alloc hown _) ⟨W.heap.size, 0, none⟩ 1 1 news hx (by omega) ?_ h1 (by decide) ?_ ?_ (by simp; omega) _ rfl ?_
  · intro j u hj
    exact World.news_of_block (heap_alloc_new W (.cells news.toArray E)) j u (by simpa using hj)
  · unfold maxLen; omega
  · have : (n + 1) * bys ≤ 10000000 * 128 := Nat.mul_le_mul (by omega) hby
    omega
  · intro g cap w' h2 h3 h4 _
    refine h _ _ w' h2 ((Ex.alloc W _).trans (Ex.grown h3 (fun k hk hn => hn hk))) ?_ (((Below.refl _ _).alloc hB _).grown h3 (by simp; omega) (fun i hi => (World.ownsRow.lt hown i hi).1))
    rcases h4 with h4 | h4
    · exact .inl h4
    · right; rw [h4]; simp
def addK (s : Sc) (o : Option Cl) : Option Sc := match o with | some c => if s.cs = [] then none else some { s with cs := addC s.cs c } | none => none
theorem addN_call {s : Sc} {ln : Nat} {f : List UInt8} {r : List (List UInt8)} (h : 4 ≤ ln) (hf : f ≠ cliB.data.toList) : addN s ln (f :: r) = addK s (callN (f :: r)) := by
  have n1 : ¬ ln = 1 := by omega
  have n2 : ¬ ln = 2 := by omega
  have n3 : ¬ ln = 3 := by omega
  simp only [addN, n1, n2, n3, if_false, hf]
  generalize callN (f :: r) = o
  cases o <;> rfl
theorem info_call : (Tryd.prog.info? 49).map (fun i => (i.zero.map (fun z => z.cells.size), i.size, i.bytes)) = some (some 7, 7, 80) := by kernel_rfl
theorem ScB.call {B b : Nat} {w w4 : World} {s : Sc} {cv pv tv : Value} {us : List Value} {ul : Value} {L : List (Cl × Value)} (h : ScB B b w s cv pv tv us ul L) (hne : s.cs ≠ []) {G kc : Nat} (hcv : cv = .slice (some ⟨G, 0, none⟩) s.cs.length kc)
    {c : Cl} {x : Value} (hc : c.ok) (hx : XK (KS B cv ul) w x c.xs) {g cap : Nat} (ho : w4.ownsRow B 49 7 (.slice (some ⟨g, 0, none⟩) (L.length + 1) cap) (L.length + 1) (encP L ++ clCells c x))
    (he : Ex (fun t => ul.ownBlock ≠ some t) w w4) (hg : ul.ownBlock = some g ∨ w.heap.size ≤ g) (hb : Below B w w4) :
    ScB B b (w4.setCell ⟨G, s.cs.length - 1, none⟩ (.slice (some ⟨g, 0, none⟩) (L.length + 1) cap)) { s with cs := addC s.cs c } cv pv tv (us.set (s.cs.length - 1) (.slice (some ⟨g, 0, none⟩) (L.length + 1) cap)) (.slice (some ⟨g, 0, none⟩) (L.length + 1) cap) (L ++ [(c, x)]) := by
  have hlt := h.lt
  have hcb : cv.ownBlock = some G := by rw [hcv]; rfl
  have hGB := World.ownsRow.lt h.m.own G hcb
  have hgk : ∀ t, (Value.slice (some ⟨g, 0, none⟩) (L.length + 1) cap).ownBlock = some t → ul.ownBlock = some t ∨ w.heap.size ≤ t := fun t e => by
    have e2 : g = t := by simpa [Value.ownBlock] using e
    rw [← e2]; exact hg
  have hcu : ∀ t, cv.ownBlock = some t → ul.ownBlock ≠ some t := fun t h1 h2 => h.m.two t h2 h1
  have hs4 := own_ex h.m.own he hcu
  have he2 : Ex (fun t => cv.ownBlock ≠ some t) w4 (w4.setCell ⟨G, s.cs.length - 1, none⟩ (.slice (some ⟨g, 0, none⟩) (L.length + 1) cap)) := Ex.set (fun hn => hn hcb)
  have hs5 : (w4.setCell ⟨G, s.cs.length - 1, none⟩ (.slice (some ⟨g, 0, none⟩) (L.length + 1) cap)).ownsRow B 55 1 cv s.cs.length (us.set (s.cs.length - 1) (.slice (some ⟨g, 0, none⟩) (L.length + 1) cap)) := by
    rw [hcv] at hs4 ⊢
    exact own_set hs4 _ _
  have hKK : ∀ t, t < w.heap.size → KS B cv ul t → KS B cv (.slice (some ⟨g, 0, none⟩) (L.length + 1) cap) t := fun t ht hk => ⟨hk.1, hk.2.1, fun e => by
    rcases hgk t e with e3 | e3
    · exact hk.2.2 e3
    · omega⟩
  have hEx : Ex (KS B cv ul) w (w4.setCell ⟨G, s.cs.length - 1, none⟩ (.slice (some ⟨g, 0, none⟩) (L.length + 1) cap)) := (he.mono (fun t _ hk => hk.2.2)).trans (he2.mono (fun t _ hk => hk.2.1))
  have hPK : ∀ (v : Value) (xs : List Int), PK (KS B cv ul) w v xs → PK (KS B cv (.slice (some ⟨g, 0, none⟩) (L.length + 1) cap)) (w4.setCell ⟨G, s.cs.length - 1, none⟩ (.slice (some ⟨g, 0, none⟩) (L.length + 1) cap)) v xs := fun v xs hv =>
    ((hv.mono (K' := fun t => KS B cv ul t ∧ t < w.heap.size) (fun t ht hk => ⟨hk, ht⟩)).keep (hEx.mono (fun t _ hk => hk.1))).mono (fun t _ hk => hKK t hk.2 hk.1)
  refine ⟨?_, hlt, by have := hb.size; have := h.sz; simp; omega, ?_, hPK _ _ h.p, hPK _ _ h.t, h.r⟩
  · rw [heap_setCell_other _ _ _ _ (by show b ≠ G; omega)]
    exact (hb.block b hlt).trans h.box
  · exact h.m.call hne hc hx ho (he.mono (fun t _ hk => hk.2)) hgk hs5 he2
set_option maxRecDepth 100000 in
set_option maxHeartbeats 16000000 in
theorem sc_adda (B b : Nat) (s : Sc) (ln : Nat) (hln : 4 ≤ ln) (v : Value) (f : List UInt8) (r : List (List UInt8)) (W : World) (hS : ScS B b W s) (h : RowS W v (f :: r)) (hn : r.length ≤ 900000) (hl : ∀ x ∈ r, x.length ≤ 1000000) (hcn : s.cs.length ≤ 1000000) (hll : ∀ l ∈ s.cs, l.length ≤ 1000000) (hf0 : f ≠ cliB.data.toList)
    (hE : Evs W) (hT : Lib.TabIs Tryd.prog W "internal/strconv.uint64pow10" .u64 Lib.pow10Tab) :
    Calls Tryd.prog 28 #[.pointer (some ⟨b, 0, none⟩), .int .i64 (ln : Int), v] W (AddOk B b (addN s ln (f :: r)) W) := by
  have HROW := Lib.hid h
  obtain ⟨cv, pv, tv, us, ul, L, hS⟩ := hS
  have HS := Lib.hid hS
  have HBW := Lib.hid (show b < W.heap.size by have := hS.lt; have := hS.sz; omega)
  obtain ⟨p, c, rfl, hc, hx⟩ := h
  rcases hx with hx | ⟨gb, go, rfl, hgb, hcell⟩
  · cases hx
  have hf := hcell 0 f rfl
  rw [Nat.add_zero] at hf
  obtain ⟨g, hg⟩ : ∃ g : ByteArray, ⟨f.toArray⟩ = g := ⟨_, rfl⟩
  rw [hg] at hf
  have HSF : g.data.toList = f := by rw [← hg]
  have hq1 : (g.toList == [99, 108, 105, 101, 110, 116]) = false := by
    have h1 : (g.toList == [99, 108, 105, 101, 110, 116]) = decide (f = cliB.data.toList) := str_eq3 HSF cliB
    rw [h1]; exact decide_eq_false hf0
  have hfd : W.drew.cell? ⟨gb, go, none⟩ = some (.string g) := hf
  have hlen : (f :: r).length = r.length + 1 := rfl
  have h1n : (1 : Int) ≤ ((r.length + 1 : Nat) : Int) := by omega
  have h0n : (0 : Int) < ((r.length + 1 : Nat) : Int) := by omega
  have l1 : ((ln : Int) == 1) = false := by simp; omega
  have l2 : ((ln : Int) == 2) = false := by simp; omega
  have l3 : ((ln : Int) == 3) = false := by simp; omega
  have HGD := fun (d : Cl) => callN_good (w := f) (r := r) (c := d)
  obtain ⟨oc, hoc⟩ : ∃ oc, callN (f :: r) = oc := ⟨_, rfl⟩
  obtain ⟨oA, hoA⟩ : ∃ oA, addN s ln (f :: r) = oA := ⟨_, rfl⟩
  have HAD := Lib.hid (show oA = addK s oc from by rw [← hoA, ← hoc]; exact addN_call hln hf0)
  rw [hoA]
  have HGD := Lib.hid (show ∀ d, oc = some d → GoodC d f r from fun d hd => HGD d (hoc.trans hd))
  obtain ⟨last, hlast⟩ : ∃ last : Int, (s.cs.length : Int) - 1 = last := ⟨_, rfl⟩
  have WL := Lib.hid (show wrap64 ((s.cs.length : Int) - 1) = last by simp only [wrap64]; omega)
  have HLAST := Lib.hid hlast
  have HCN := Lib.hid hcn
  have HLL := Lib.hid hll
  have HN := Lib.hid hn
  have HL := Lib.hid hl
  have HE := Lib.hid hE
  have HT_ := Lib.hid hT
  obtain ⟨pc, kc, hcv⟩ : ∃ pc kc, cv = .slice pc s.cs.length kc := by
    rcases own_form hS.m.own with ⟨rfl, h0, -⟩ | ⟨g', c', rfl, -⟩
    · exact ⟨none, 0, by rw [h0]⟩
    · exact ⟨_, _, rfl⟩
  have hcase := RowS.rest (c := c) rfl hc hgb hcell
  have HCC := fun w (hw : Below W.heap.size W w) => sc_call _ f r w (HROW.out.below hw) hn hl (hE.below hw) (pow10_bel hT hw)
  rw [hoc] at HCC
  have HCC := Lib.hid HCC
  rw [hlen] at hc HCC ⊢
  clear hoc hoA hcell hg hlen hS hgb hc hcn hll hln hf0 HSF hn hl hE hT HROW hlast
  subst hcv
  rcases hcase with ⟨hu, rfl, hr0, -⟩ | ⟨hu, hc1⟩
  · clear hu
    go_enter Tryd.func28, Tryd.ntmps28
    go_wp2_with fail
    go_region
    obtain ⟨wd, hwd⟩ : ∃ wd, W.drew = wd := ⟨_, rfl⟩
    have HBD := Lib.hid (show Below W.heap.size W wd by rw [← hwd]; exact (Below.refl _ _).drew)
    have BXd := Lib.hid (HS.out.below HBD.out)
    rw [hwd]
    clear hwd hf hfd
    obtain ⟨m0, m1, m2, m3, m4⟩ := sc_cells5 BXd.out.box
    have CL := HCC.out wd HBD.out
    (try rw [hr0] at CL)
    (try simp only [Nat.zero_add] at CL)
    have CL := Lib.hid CL
    go_upto_region 20 with fail
    rw [WL.out]
    go_wp2_with fail
    refine CL.out.mono ?_
    rintro e x3 ⟨hi, hb3⟩
    have HB3 := Lib.hid (HBD.out.trans (hb3.mono HBD.out.size))
    have HWD := Lib.hid hb3
    clear hb3 m0 m1 m2 m3 m4
    rcases hi with ⟨d, xv, hd, rfl, ho⟩ | ⟨hd, d, pp, pn, pk, rfl⟩
    · obtain ⟨pp, pk, rfl, -, -, -⟩ := ho.shape
      obtain ⟨x4, hx4, r4, hb4, hs4⟩ := boxG x3 #[.int .i64 d.kd, .int .i64 d.n, .int .i64 d.dir, .string d.s, .int .i64 d.who, .int .i64 d.at', .slice pp d.xs.length pk] 49
      have HB4 := Lib.hid (HB3.out.trans (hb4.mono HB3.out.size))
      have BX4 := Lib.hid (HS.out.below HB4.out)
      have HBB := Lib.hid (HB4.out.mono (Nat.le_of_lt HBW.out))
      by_cases hcs : s.cs = []
      · have HNO := Lib.hid (show oA = none by rw [HAD.out, hd]; exact if_pos hcs)
        have hlast : last = -1 := by have := HLAST.out; rw [hcs] at this; simp at this; omega
        subst hlast
        clear hd ho r4 hb4 hs4 hcs
        unfold Cl.val
        go_wp2_with fail
        go_ret
        exact ⟨.inr ⟨HNO.out, rfl, _, _, _, _, _, BX4.out.box⟩, HBB.out⟩
      · obtain ⟨m, hm⟩ : ∃ m, s.cs.length - 1 = m := ⟨_, rfl⟩
        have hpos := List.length_pos_iff.2 hcs
        have hlast : last = (m : Int) := by have := HLAST.out; omega
        subst hlast
        have HNO := Lib.hid (show oA = some { s with cs := addC s.cs d } by rw [HAD.out, hd]; exact if_neg hcs)
        have HCS := Lib.hid hcs
        have HGOOD := Lib.hid (HGD.out d hd)
        have HM := Lib.hid hm
        have hm1 : (m : Int) < (s.cs.length : Int) := by omega
        have hm0 : (0 : Int) ≤ (m : Int) := by omega
        have hmn : ¬ (m : Int) < 0 := by omega
        have HXK := Lib.hid (show XK (KS B (.slice pc s.cs.length kc) ul) x4.drew (.slice pp d.xs.length pk) d.xs from
          ((xk_own ho HGOOD.out.wf (by have h1 := HGOOD.out.xs; have h2 := HN.out; omega)).mono (K' := KS B (.slice pc s.cs.length kc) ul) (fun t _ ht => HS.out.fresh (Nat.le_trans HBD.out.size ht))).keep (Ex.of_below (hb4.drew)))
        have BX5 := Lib.hid (HS.out.below HB4.out.drew)
        have HR4 := Lib.hid (show x4.drew.heap[x3.heap.size]? = some (.cells #[.int .i64 d.kd, .int .i64 d.n, .int .i64 d.dir, .string d.s, .int .i64 d.who, .int .i64 d.at', .slice pp d.xs.length pk] 49 (0, 0)) from r4)
        clear hd ho r4 hb4 hs4 hcs hpos hm
        unfold Cl.val
        go_upto_region 23 with fail
        obtain ⟨G, hpc, hGB, hcu, hfu⟩ : ∃ G, pc = some ⟨G, 0, none⟩ ∧ B ≤ G ∧ x4.drew.cell? ⟨G, m, none⟩ = some ul ∧ x4.drew.frozen? ⟨G, m, none⟩ = false := by
          rcases own_form BX5.out.m.own with ⟨hv, h0, -⟩ | ⟨G, c', hv, hGB, -, -, -, hcl⟩
          · exact absurd (List.length_eq_zero_iff.1 h0) HCS.out
          · simp only [Value.slice.injEq] at hv
            obtain ⟨rfl, -, -⟩ := hv
            obtain ⟨u, h1, h2, h3⟩ := hcl m (by omega)
            obtain ⟨h4, -⟩ := BX5.out.m.last HCS.out
            rw [HM.out, h1] at h4
            obtain rfl := Option.some.inj h4
            exact ⟨G, rfl, hGB, h2, h3⟩
        subst hpc
        obtain ⟨pu, ku, hul⟩ : ∃ pu ku, ul = .slice pu L.length ku := by
          rcases own_form BX5.out.m.row with ⟨rfl, h0, -⟩ | ⟨g', c', rfl, -⟩
          · exact ⟨none, 0, by rw [h0]⟩
          · exact ⟨_, _, rfl⟩
        subst hul
        have HGB := Lib.hid hGB
        obtain ⟨k0, k1, k2, k3, k4⟩ := sc_cells5 BX5.out.box
        obtain ⟨c0, c1', c2, c3, c4, c5, c6⟩ := cells7 HR4.out
        have hsz := BX5.out.sz
        have hkn : L.length < 10000000 := by
          obtain ⟨-, h4⟩ := BX5.out.m.last HCS.out
          have h5 := HLL.out _ (List.mem_of_getElem? h4)
          rw [List.length_map] at h5
          omega
        clear hGB
        obtain ⟨SS, hSS⟩ : ∃ SS : World → Prop, SS = fun w' => w'.cell? ⟨b, 2, none⟩ = some (.slice (some ⟨G, 0, none⟩) s.cs.length kc) ∧ w'.cell? ⟨G, m, none⟩ = some (.slice pu L.length ku) ∧ w'.cell? ⟨x3.heap.size, 0, none⟩ = some (.int .i64 d.kd) ∧ w'.cell? ⟨x3.heap.size, 1, none⟩ = some (.int .i64 d.n) ∧ w'.cell? ⟨x3.heap.size, 2, none⟩ = some (.int .i64 d.dir) ∧ w'.cell? ⟨x3.heap.size, 3, none⟩ = some (.string d.s) ∧ w'.cell? ⟨x3.heap.size, 4, none⟩ = some (.int .i64 d.who) ∧ w'.cell? ⟨x3.heap.size, 5, none⟩ = some (.int .i64 d.at') ∧ w'.cell? ⟨x3.heap.size, 6, none⟩ = some (.slice pp d.xs.length pk) := ⟨_, rfl⟩
        have H0 := Lib.hid (show SS x4.drew by rw [hSS]; exact ⟨k2, hcu, c0, c1', c2, c3, c4, c5, c6⟩)
        have HSS := Lib.hid (show ∀ w, SS w → w.cell? ⟨b, 2, none⟩ = some (.slice (some ⟨G, 0, none⟩) s.cs.length kc) ∧ w.cell? ⟨G, m, none⟩ = some (.slice pu L.length ku) ∧ w.cell? ⟨x3.heap.size, 0, none⟩ = some (.int .i64 d.kd) ∧ w.cell? ⟨x3.heap.size, 1, none⟩ = some (.int .i64 d.n) ∧ w.cell? ⟨x3.heap.size, 2, none⟩ = some (.int .i64 d.dir) ∧ w.cell? ⟨x3.heap.size, 3, none⟩ = some (.string d.s) ∧ w.cell? ⟨x3.heap.size, 4, none⟩ = some (.int .i64 d.who) ∧ w.cell? ⟨x3.heap.size, 5, none⟩ = some (.int .i64 d.at') ∧ w.cell? ⟨x3.heap.size, 6, none⟩ = some (.slice pp d.xs.length pk) from fun w hw => by rw [hSS] at hw; exact hw)
        have HSK := Lib.hid (show ∀ w w', SS w → (∀ t o u, t < x4.drew.heap.size → w.cell? ⟨t, o, none⟩ = some u → (t = b ∨ t = G ∨ t = x3.heap.size) → w'.cell? ⟨t, o, none⟩ = some u) → SS w' from fun w w' hw hk => by
          rw [hSS] at hw ⊢
          obtain ⟨q1, q2, q3, q4, q5, q6, q7, q8, q9⟩ := hw
          have hb1 := World.block_lt_of_cell? _ _ k2
          have hb2 := World.block_lt_of_cell? _ _ hcu
          have hb3 := World.block_lt_of_cell? _ _ c0
          exact ⟨hk _ _ _ hb1 q1 (.inl rfl), hk _ _ _ hb2 q2 (.inr (.inl rfl)), hk _ _ _ hb3 q3 (.inr (.inr rfl)), hk _ _ _ hb3 q4 (.inr (.inr rfl)), hk _ _ _ hb3 q5 (.inr (.inr rfl)), hk _ _ _ hb3 q6 (.inr (.inr rfl)), hk _ _ _ hb3 q7 (.inr (.inr rfl)), hk _ _ _ hb3 q8 (.inr (.inr rfl)), hk _ _ _ hb3 q9 (.inr (.inr rfl))⟩)
        have HFU := Lib.hid hfu
        have HUN := Lib.hid (show ∀ t, (t = b ∨ t = G ∨ t = x3.heap.size) → (Value.slice pu L.length ku).ownBlock ≠ some t from fun t h e => by
          have h1 := World.ownsRow.lt HS.out.m.row t e
          have h2 := HB3.out.size
          have h3 := HS.out.lt
          rcases h with rfl | rfl | rfl
          · omega
          · exact HS.out.m.two _ e rfl
          · omega)
        clear hfu hSS k0 k1 k2 k3 k4 c0 c1' c2 c3 c4 c5 c6 hcu
        refine region_gate SS 16 (by kernel_rfl) H0.out (fun hHeld => ?_)
        refine gate_take (i := 0) (v := ?v1) rfl (by kernel_rfl) (by kernel_rfl) (by kernel_rfl) (by kernel_rfl) (by kernel_rfl) (fun _ _ _ h => h) (Or.inl ⟨by kernel_rfl, ?hy1⟩) (by assumption) ?rest1
        case hy1 => intro w hSw; (try dsimp only at hSw); obtain ⟨q1, q2, q3, q4, q5, q6, q7, q8, q9⟩ := HSS.out w hSw; go_simp; (first | done | with_reducible rfl)
        (try simp only [Act.put, List.getElem_toArray, List.getElem_cons_zero, List.getElem_cons_succ, List.setIfInBounds_toArray, List.set_cons_zero, List.set_cons_succ])
        refine gate_take (i := 1) (v := ?v2) rfl (by kernel_rfl) (by kernel_rfl) (by kernel_rfl) (by kernel_rfl) (by kernel_rfl) (fun _ _ _ h => h) (Or.inl ⟨by kernel_rfl, ?hy2⟩) (by assumption) ?rest2
        case hy2 => intro w hSw; (try dsimp only at hSw); obtain ⟨q1, q2, q3, q4, q5, q6, q7, q8, q9⟩ := HSS.out w hSw; go_simp; (first | done | with_reducible rfl)
        (try simp only [Act.put, List.getElem_toArray, List.getElem_cons_zero, List.getElem_cons_succ, List.setIfInBounds_toArray, List.set_cons_zero, List.set_cons_succ])
        refine gate_take (i := 2) (v := ?v3) rfl (by kernel_rfl) (by kernel_rfl) (by kernel_rfl) (by kernel_rfl) (by kernel_rfl) (fun _ _ _ h => h) (Or.inl ⟨by kernel_rfl, ?hy3⟩) (by assumption) ?rest3
        case hy3 => intro w hSw; (try dsimp only at hSw); obtain ⟨q1, q2, q3, q4, q5, q6, q7, q8, q9⟩ := HSS.out w hSw; go_simp; (first | done | with_reducible rfl)
        (try simp only [Act.put, List.getElem_toArray, List.getElem_cons_zero, List.getElem_cons_succ, List.setIfInBounds_toArray, List.set_cons_zero, List.set_cons_succ])
        refine gate_take (i := 3) (v := ?v4) rfl (by kernel_rfl) (by kernel_rfl) (by kernel_rfl) (by kernel_rfl) (by kernel_rfl) (fun _ _ _ h => h) (Or.inl ⟨by kernel_rfl, ?hy4⟩) (by assumption) ?rest4
        case hy4 => intro w hSw; (try dsimp only at hSw); obtain ⟨q1, q2, q3, q4, q5, q6, q7, q8, q9⟩ := HSS.out w hSw; go_simp; (first | done | with_reducible rfl)
        (try simp only [Act.put, List.getElem_toArray, List.getElem_cons_zero, List.getElem_cons_succ, List.setIfInBounds_toArray, List.set_cons_zero, List.set_cons_succ])
        refine gate_take (i := 4) (v := ?v5) rfl (by kernel_rfl) (by kernel_rfl) (by kernel_rfl) (by kernel_rfl) (by kernel_rfl) (fun _ _ _ h => h) (Or.inl ⟨by kernel_rfl, ?hy5⟩) (by assumption) ?rest5
        case hy5 => intro w hSw; (try dsimp only at hSw); obtain ⟨q1, q2, q3, q4, q5, q6, q7, q8, q9⟩ := HSS.out w hSw; go_simp; (first | done | with_reducible rfl)
        (try simp only [Act.put, List.getElem_toArray, List.getElem_cons_zero, List.getElem_cons_succ, List.setIfInBounds_toArray, List.set_cons_zero, List.set_cons_succ])
        refine gate_take (i := 5) (v := ?v6) rfl (by kernel_rfl) (by kernel_rfl) (by kernel_rfl) (by kernel_rfl) (by kernel_rfl) (fun _ _ _ h => h) (Or.inl ⟨by kernel_rfl, ?hy6⟩) (by assumption) ?rest6
        case hy6 => intro w hSw; (try dsimp only at hSw); obtain ⟨q1, q2, q3, q4, q5, q6, q7, q8, q9⟩ := HSS.out w hSw; go_simp; (first | done | with_reducible rfl)
        (try simp only [Act.put, List.getElem_toArray, List.getElem_cons_zero, List.getElem_cons_succ, List.setIfInBounds_toArray, List.set_cons_zero, List.set_cons_succ])
        refine gate_take (i := 6) (v := ?v7) rfl (by kernel_rfl) (by kernel_rfl) (by kernel_rfl) (by kernel_rfl) (by kernel_rfl) (fun _ _ _ h => h) (Or.inl ⟨by kernel_rfl, ?hy7⟩) (by assumption) ?rest7
        case hy7 => intro w hSw; (try dsimp only at hSw); obtain ⟨q1, q2, q3, q4, q5, q6, q7, q8, q9⟩ := HSS.out w hSw; go_simp; (first | done | with_reducible rfl)
        (try simp only [Act.put, List.getElem_toArray, List.getElem_cons_zero, List.getElem_cons_succ, List.setIfInBounds_toArray, List.set_cons_zero, List.set_cons_succ])
        refine gate_take (i := 7) (v := ?v8) rfl (by kernel_rfl) (by kernel_rfl) (by kernel_rfl) (by kernel_rfl) (by kernel_rfl) (fun _ _ _ h => h) (Or.inl ⟨by kernel_rfl, ?hy8⟩) (by assumption) ?rest8
        case hy8 => intro w hSw; (try dsimp only at hSw); obtain ⟨q1, q2, q3, q4, q5, q6, q7, q8, q9⟩ := HSS.out w hSw; go_simp; (first | done | with_reducible rfl)
        (try simp only [Act.put, List.getElem_toArray, List.getElem_cons_zero, List.getElem_cons_succ, List.setIfInBounds_toArray, List.set_cons_zero, List.set_cons_succ])
        refine gate_take (i := 8) (v := ?v9) rfl (by kernel_rfl) (by kernel_rfl) (by kernel_rfl) (by kernel_rfl) (by kernel_rfl) (fun _ _ _ h => h) (Or.inl ⟨by kernel_rfl, ?hy9⟩) (by assumption) ?rest9
        case hy9 => intro w hSw; (try dsimp only at hSw); obtain ⟨q1, q2, q3, q4, q5, q6, q7, q8, q9⟩ := HSS.out w hSw; go_simp; (first | done | with_reducible rfl)
        (try simp only [Act.put, List.getElem_toArray, List.getElem_cons_zero, List.getElem_cons_succ, List.setIfInBounds_toArray, List.set_cons_zero, List.set_cons_succ])
        refine gate_take (i := 9) (v := ?v10) rfl (by kernel_rfl) (by kernel_rfl) (by kernel_rfl) (by kernel_rfl) (by kernel_rfl) (fun _ _ _ h => h) (Or.inl ⟨by kernel_rfl, ?hy10⟩) (by assumption) ?rest10
        case hy10 => intro w hSw; (try dsimp only at hSw); obtain ⟨q1, q2, q3, q4, q5, q6, q7, q8, q9⟩ := HSS.out w hSw; go_simp; (first | done | with_reducible rfl)
        (try simp only [Act.put, List.getElem_toArray, List.getElem_cons_zero, List.getElem_cons_succ, List.setIfInBounds_toArray, List.set_cons_zero, List.set_cons_succ])
        refine gate_take (i := 10) (v := ?v11) rfl (by kernel_rfl) (by kernel_rfl) (by kernel_rfl) (by kernel_rfl) (by kernel_rfl) (fun _ _ _ h => h) (Or.inl ⟨by kernel_rfl, ?hy11⟩) (by assumption) ?rest11
        case hy11 => intro w hSw; (try dsimp only at hSw); obtain ⟨q1, q2, q3, q4, q5, q6, q7, q8, q9⟩ := HSS.out w hSw; go_simp; (first | done | with_reducible rfl)
        (try simp only [Act.put, List.getElem_toArray, List.getElem_cons_zero, List.getElem_cons_succ, List.setIfInBounds_toArray, List.set_cons_zero, List.set_cons_succ])
        refine gate_take (i := 11) (v := ?v12) rfl (by kernel_rfl) (by kernel_rfl) (by kernel_rfl) (by kernel_rfl) (by kernel_rfl) (fun _ _ _ h => h) (Or.inl ⟨by kernel_rfl, ?hy12⟩) (by assumption) ?rest12
        case hy12 => intro w hSw; (try dsimp only at hSw); obtain ⟨q1, q2, q3, q4, q5, q6, q7, q8, q9⟩ := HSS.out w hSw; go_simp; (first | done | with_reducible rfl)
        (try simp only [Act.put, List.getElem_toArray, List.getElem_cons_zero, List.getElem_cons_succ, List.setIfInBounds_toArray, List.set_cons_zero, List.set_cons_succ])
        refine gate_take (i := 12) (v := ?v13) rfl (by kernel_rfl) (by kernel_rfl) (by kernel_rfl) (by kernel_rfl) (by kernel_rfl) (fun _ _ _ h => h) (Or.inl ⟨by kernel_rfl, ?hy13⟩) (by assumption) ?rest13
        case hy13 => intro w hSw; (try dsimp only at hSw); obtain ⟨q1, q2, q3, q4, q5, q6, q7, q8, q9⟩ := HSS.out w hSw; go_simp; (first | done | with_reducible rfl)
        (try simp only [Act.put, List.getElem_toArray, List.getElem_cons_zero, List.getElem_cons_succ, List.setIfInBounds_toArray, List.set_cons_zero, List.set_cons_succ])
        refine gate_one (i := 13) rfl (by kernel_rfl) (fun K hK => ?_)
        go_simp
        refine hK.out _ _ (HSK.out _ _ hHeld (fun t o u ht hc _ => (((Below.refl _ _).alloc (Nat.le_refl _) _).cell (p := ⟨t, o, none⟩) ht).trans hc)) (fun hHeld2 => ?_)
        clear hK K hHeld
        have hHeld := hHeld2
        clear hHeld2
        (try simp only [Act.put, List.getElem_toArray, List.getElem_cons_zero, List.getElem_cons_succ, List.setIfInBounds_toArray, List.set_cons_zero, List.set_cons_succ])
        refine gate_one (i := 14) rfl (by kernel_rfl) (fun K hK => ?_)
        refine step_gK (T := 55) (E := 49) (sz := 7) (bys := 80) (B := B) (v := .slice pu L.length ku) (n := L.length) (xs := encP L) (news := clCells d (.slice pp d.xs.length pk)) Tryd.underlying55 info_call (by decide) (by decide) rfl _ _ rfl rfl BX5.out.m.row rfl hsz hkn rfl (by intro u hu; simp [clCells] at hu; rcases hu with rfl | rfl | rfl | rfl | rfl | rfl | rfl <;> rfl) ?_
        intro g4 k4 w4 hO4 hE4 hG4 hb4
        have hbe : ∀ t, t < x4.drew.heap.size → (t = b ∨ t = G ∨ t = x3.heap.size) → w4.heap[t]? = x4.drew.heap[t]? := fun t ht h => hE4.2 t ht (HUN.out t h)
        refine hK.out _ _ (HSK.out _ _ H0.out (fun t o u ht hc h => (World.cell?_of_block (a := ⟨t, o, none⟩) (hbe t ht h)).trans hc)) (fun hHeld2 => ?_)
        clear hK K hHeld
        have hHeld := hHeld2
        clear hHeld2
        (try simp only [Act.put, List.getElem_toArray, List.getElem_cons_zero, List.getElem_cons_succ, List.setIfInBounds_toArray, List.set_cons_zero, List.set_cons_succ])
        refine gate_take (i := 15) (v := ?v14) rfl (by kernel_rfl) (by kernel_rfl) (by kernel_rfl) (by kernel_rfl) (by kernel_rfl) (fun _ _ _ h => h) (Or.inl ⟨by kernel_rfl, ?hy14⟩) (by assumption) ?rest14
        case hy14 => intro w hSw; (try dsimp only at hSw); obtain ⟨q1, q2, q3, q4, q5, q6, q7, q8, q9⟩ := HSS.out w hSw; go_simp; (first | done | with_reducible rfl)
        (try simp only [Act.put, List.getElem_toArray, List.getElem_cons_zero, List.getElem_cons_succ, List.setIfInBounds_toArray, List.set_cons_zero, List.set_cons_succ])
        have hgb := hbe G (World.block_lt_of_cell? _ _ (HSS.out _ H0.out).2.1) (.inr (.inl rfl))
        have hc4 : w4.cell? ⟨G, m, none⟩ = some (.slice pu L.length ku) := (World.cell?_of_block (a := ⟨G, m, none⟩) hgb).trans (HSS.out _ H0.out).2.1
        have hf4 : w4.frozen? ⟨G, m, none⟩ = false := (World.frozen?_of_block (a := ⟨G, m, none⟩) hgb).trans HFU.out
        have HFB := Lib.hid (BX5.out.call HCS.out rfl HGOOD.out.ok HXK.out hO4 hE4 hG4 hb4)
        have HBW4 := Lib.hid hb4
        clear hO4 hE4 hG4 hb4 hbe hgb
        refine gate_past (i := 16) rfl (by kernel_rfl) (by kernel_rfl) (fun K hK => ?_)
        go_simp
        refine hK.out _ _ ?_
        clear hK K hc4 hf4
        (try simp only [Act.put, List.getElem_toArray, List.getElem_cons_zero, List.getElem_cons_succ, List.setIfInBounds_toArray, List.set_cons_zero, List.set_cons_succ])
        refine gate_done (by kernel_rfl) ?_ _
        go_wp2_with fail
        go_ret
        rw [HM.out] at HFB
        exact ⟨.inl ⟨_, HNO.out, rfl, _, _, _, _, _, _, HFB.out⟩, (HBB.out.drew.trans (HBW4.out.mono (Nat.le_of_lt HS.out.lt))).setCell (p := ⟨G, m, none⟩) (Nat.le_trans (Nat.le_of_lt HS.out.lt) HGB.out) _⟩
    · have HNO := Lib.hid (show oA = none by rw [HAD.out, hd]; rfl)
      obtain ⟨x4, hx4, r4, hb4, hs4⟩ := boxG x3 #[.int .i64 d.kd, .int .i64 d.n, .int .i64 d.dir, .string d.s, .int .i64 d.who, .int .i64 d.at', .slice pp pn pk] 49
      have HB4 := Lib.hid (HB3.out.trans (hb4.mono HB3.out.size))
      have BX4 := Lib.hid (HS.out.below HB4.out)
      have HBB := Lib.hid (HB4.out.mono (Nat.le_of_lt HBW.out))
      clear hd r4 hb4 hs4
      unfold Cl.val
      go_wp2_with fail
      go_ret
      exact ⟨.inr ⟨HNO.out, rfl, _, _, _, _, _, BX4.out.box⟩, HBB.out⟩
  · clear hu
    go_enter Tryd.func28, Tryd.ntmps28
    go_wp2_with fail
    go_region
    obtain ⟨wd, hwd⟩ : ∃ wd, W.drew = wd := ⟨_, rfl⟩
    have HBD := Lib.hid (show Below W.heap.size W wd by rw [← hwd]; exact (Below.refl _ _).drew)
    have BXd := Lib.hid (HS.out.below HBD.out)
    rw [hwd]
    clear hwd hf hfd
    obtain ⟨m0, m1, m2, m3, m4⟩ := sc_cells5 BXd.out.box
    have CL := HCC.out wd HBD.out
    (try rw [hr0] at CL)
    (try simp only [Nat.zero_add] at CL)
    have CL := Lib.hid CL
    go_upto_region 20 with fail
    rw [WL.out]
    go_wp2_with fail
    refine CL.out.mono ?_
    rintro e x3 ⟨hi, hb3⟩
    have HB3 := Lib.hid (HBD.out.trans (hb3.mono HBD.out.size))
    have HWD := Lib.hid hb3
    clear hb3 m0 m1 m2 m3 m4
    rcases hi with ⟨d, xv, hd, rfl, ho⟩ | ⟨hd, d, pp, pn, pk, rfl⟩
    · obtain ⟨pp, pk, rfl, -, -, -⟩ := ho.shape
      obtain ⟨x4, hx4, r4, hb4, hs4⟩ := boxG x3 #[.int .i64 d.kd, .int .i64 d.n, .int .i64 d.dir, .string d.s, .int .i64 d.who, .int .i64 d.at', .slice pp d.xs.length pk] 49
      have HB4 := Lib.hid (HB3.out.trans (hb4.mono HB3.out.size))
      have BX4 := Lib.hid (HS.out.below HB4.out)
      have HBB := Lib.hid (HB4.out.mono (Nat.le_of_lt HBW.out))
      by_cases hcs : s.cs = []
      · have HNO := Lib.hid (show oA = none by rw [HAD.out, hd]; exact if_pos hcs)
        have hlast : last = -1 := by have := HLAST.out; rw [hcs] at this; simp at this; omega
        subst hlast
        clear hd ho r4 hb4 hs4 hcs
        unfold Cl.val
        go_wp2_with fail
        go_ret
        exact ⟨.inr ⟨HNO.out, rfl, _, _, _, _, _, BX4.out.box⟩, HBB.out⟩
      · obtain ⟨m, hm⟩ : ∃ m, s.cs.length - 1 = m := ⟨_, rfl⟩
        have hpos := List.length_pos_iff.2 hcs
        have hlast : last = (m : Int) := by have := HLAST.out; omega
        subst hlast
        have HNO := Lib.hid (show oA = some { s with cs := addC s.cs d } by rw [HAD.out, hd]; exact if_neg hcs)
        have HCS := Lib.hid hcs
        have HGOOD := Lib.hid (HGD.out d hd)
        have HM := Lib.hid hm
        have hm1 : (m : Int) < (s.cs.length : Int) := by omega
        have hm0 : (0 : Int) ≤ (m : Int) := by omega
        have hmn : ¬ (m : Int) < 0 := by omega
        have HXK := Lib.hid (show XK (KS B (.slice pc s.cs.length kc) ul) x4.drew (.slice pp d.xs.length pk) d.xs from
          ((xk_own ho HGOOD.out.wf (by have h1 := HGOOD.out.xs; have h2 := HN.out; omega)).mono (K' := KS B (.slice pc s.cs.length kc) ul) (fun t _ ht => HS.out.fresh (Nat.le_trans HBD.out.size ht))).keep (Ex.of_below (hb4.drew)))
        have BX5 := Lib.hid (HS.out.below HB4.out.drew)
        have HR4 := Lib.hid (show x4.drew.heap[x3.heap.size]? = some (.cells #[.int .i64 d.kd, .int .i64 d.n, .int .i64 d.dir, .string d.s, .int .i64 d.who, .int .i64 d.at', .slice pp d.xs.length pk] 49 (0, 0)) from r4)
        clear hd ho r4 hb4 hs4 hcs hpos hm
        unfold Cl.val
        go_upto_region 23 with fail
        obtain ⟨G, hpc, hGB, hcu, hfu⟩ : ∃ G, pc = some ⟨G, 0, none⟩ ∧ B ≤ G ∧ x4.drew.cell? ⟨G, m, none⟩ = some ul ∧ x4.drew.frozen? ⟨G, m, none⟩ = false := by
          rcases own_form BX5.out.m.own with ⟨hv, h0, -⟩ | ⟨G, c', hv, hGB, -, -, -, hcl⟩
          · exact absurd (List.length_eq_zero_iff.1 h0) HCS.out
          · simp only [Value.slice.injEq] at hv
            obtain ⟨rfl, -, -⟩ := hv
            obtain ⟨u, h1, h2, h3⟩ := hcl m (by omega)
            obtain ⟨h4, -⟩ := BX5.out.m.last HCS.out
            rw [HM.out, h1] at h4
            obtain rfl := Option.some.inj h4
            exact ⟨G, rfl, hGB, h2, h3⟩
        subst hpc
        obtain ⟨pu, ku, hul⟩ : ∃ pu ku, ul = .slice pu L.length ku := by
          rcases own_form BX5.out.m.row with ⟨rfl, h0, -⟩ | ⟨g', c', rfl, -⟩
          · exact ⟨none, 0, by rw [h0]⟩
          · exact ⟨_, _, rfl⟩
        subst hul
        have HGB := Lib.hid hGB
        obtain ⟨k0, k1, k2, k3, k4⟩ := sc_cells5 BX5.out.box
        obtain ⟨c0, c1', c2, c3, c4, c5, c6⟩ := cells7 HR4.out
        have hsz := BX5.out.sz
        have hkn : L.length < 10000000 := by
          obtain ⟨-, h4⟩ := BX5.out.m.last HCS.out
          have h5 := HLL.out _ (List.mem_of_getElem? h4)
          rw [List.length_map] at h5
          omega
        clear hGB
        obtain ⟨SS, hSS⟩ : ∃ SS : World → Prop, SS = fun w' => w'.cell? ⟨b, 2, none⟩ = some (.slice (some ⟨G, 0, none⟩) s.cs.length kc) ∧ w'.cell? ⟨G, m, none⟩ = some (.slice pu L.length ku) ∧ w'.cell? ⟨x3.heap.size, 0, none⟩ = some (.int .i64 d.kd) ∧ w'.cell? ⟨x3.heap.size, 1, none⟩ = some (.int .i64 d.n) ∧ w'.cell? ⟨x3.heap.size, 2, none⟩ = some (.int .i64 d.dir) ∧ w'.cell? ⟨x3.heap.size, 3, none⟩ = some (.string d.s) ∧ w'.cell? ⟨x3.heap.size, 4, none⟩ = some (.int .i64 d.who) ∧ w'.cell? ⟨x3.heap.size, 5, none⟩ = some (.int .i64 d.at') ∧ w'.cell? ⟨x3.heap.size, 6, none⟩ = some (.slice pp d.xs.length pk) := ⟨_, rfl⟩
        have H0 := Lib.hid (show SS x4.drew by rw [hSS]; exact ⟨k2, hcu, c0, c1', c2, c3, c4, c5, c6⟩)
        have HSS := Lib.hid (show ∀ w, SS w → w.cell? ⟨b, 2, none⟩ = some (.slice (some ⟨G, 0, none⟩) s.cs.length kc) ∧ w.cell? ⟨G, m, none⟩ = some (.slice pu L.length ku) ∧ w.cell? ⟨x3.heap.size, 0, none⟩ = some (.int .i64 d.kd) ∧ w.cell? ⟨x3.heap.size, 1, none⟩ = some (.int .i64 d.n) ∧ w.cell? ⟨x3.heap.size, 2, none⟩ = some (.int .i64 d.dir) ∧ w.cell? ⟨x3.heap.size, 3, none⟩ = some (.string d.s) ∧ w.cell? ⟨x3.heap.size, 4, none⟩ = some (.int .i64 d.who) ∧ w.cell? ⟨x3.heap.size, 5, none⟩ = some (.int .i64 d.at') ∧ w.cell? ⟨x3.heap.size, 6, none⟩ = some (.slice pp d.xs.length pk) from fun w hw => by rw [hSS] at hw; exact hw)
        have HSK := Lib.hid (show ∀ w w', SS w → (∀ t o u, t < x4.drew.heap.size → w.cell? ⟨t, o, none⟩ = some u → (t = b ∨ t = G ∨ t = x3.heap.size) → w'.cell? ⟨t, o, none⟩ = some u) → SS w' from fun w w' hw hk => by
          rw [hSS] at hw ⊢
          obtain ⟨q1, q2, q3, q4, q5, q6, q7, q8, q9⟩ := hw
          have hb1 := World.block_lt_of_cell? _ _ k2
          have hb2 := World.block_lt_of_cell? _ _ hcu
          have hb3 := World.block_lt_of_cell? _ _ c0
          exact ⟨hk _ _ _ hb1 q1 (.inl rfl), hk _ _ _ hb2 q2 (.inr (.inl rfl)), hk _ _ _ hb3 q3 (.inr (.inr rfl)), hk _ _ _ hb3 q4 (.inr (.inr rfl)), hk _ _ _ hb3 q5 (.inr (.inr rfl)), hk _ _ _ hb3 q6 (.inr (.inr rfl)), hk _ _ _ hb3 q7 (.inr (.inr rfl)), hk _ _ _ hb3 q8 (.inr (.inr rfl)), hk _ _ _ hb3 q9 (.inr (.inr rfl))⟩)
        have HFU := Lib.hid hfu
        have HUN := Lib.hid (show ∀ t, (t = b ∨ t = G ∨ t = x3.heap.size) → (Value.slice pu L.length ku).ownBlock ≠ some t from fun t h e => by
          have h1 := World.ownsRow.lt HS.out.m.row t e
          have h2 := HB3.out.size
          have h3 := HS.out.lt
          rcases h with rfl | rfl | rfl
          · omega
          · exact HS.out.m.two _ e rfl
          · omega)
        clear hfu hSS k0 k1 k2 k3 k4 c0 c1' c2 c3 c4 c5 c6 hcu
        refine region_gate SS 16 (by kernel_rfl) H0.out (fun hHeld => ?_)
        refine gate_take (i := 0) (v := ?v15) rfl (by kernel_rfl) (by kernel_rfl) (by kernel_rfl) (by kernel_rfl) (by kernel_rfl) (fun _ _ _ h => h) (Or.inl ⟨by kernel_rfl, ?hy15⟩) (by assumption) ?rest15
        case hy15 => intro w hSw; (try dsimp only at hSw); obtain ⟨q1, q2, q3, q4, q5, q6, q7, q8, q9⟩ := HSS.out w hSw; go_simp; (first | done | with_reducible rfl)
        (try simp only [Act.put, List.getElem_toArray, List.getElem_cons_zero, List.getElem_cons_succ, List.setIfInBounds_toArray, List.set_cons_zero, List.set_cons_succ])
        refine gate_take (i := 1) (v := ?v16) rfl (by kernel_rfl) (by kernel_rfl) (by kernel_rfl) (by kernel_rfl) (by kernel_rfl) (fun _ _ _ h => h) (Or.inl ⟨by kernel_rfl, ?hy16⟩) (by assumption) ?rest16
        case hy16 => intro w hSw; (try dsimp only at hSw); obtain ⟨q1, q2, q3, q4, q5, q6, q7, q8, q9⟩ := HSS.out w hSw; go_simp; (first | done | with_reducible rfl)
        (try simp only [Act.put, List.getElem_toArray, List.getElem_cons_zero, List.getElem_cons_succ, List.setIfInBounds_toArray, List.set_cons_zero, List.set_cons_succ])
        refine gate_take (i := 2) (v := ?v17) rfl (by kernel_rfl) (by kernel_rfl) (by kernel_rfl) (by kernel_rfl) (by kernel_rfl) (fun _ _ _ h => h) (Or.inl ⟨by kernel_rfl, ?hy17⟩) (by assumption) ?rest17
        case hy17 => intro w hSw; (try dsimp only at hSw); obtain ⟨q1, q2, q3, q4, q5, q6, q7, q8, q9⟩ := HSS.out w hSw; go_simp; (first | done | with_reducible rfl)
        (try simp only [Act.put, List.getElem_toArray, List.getElem_cons_zero, List.getElem_cons_succ, List.setIfInBounds_toArray, List.set_cons_zero, List.set_cons_succ])
        refine gate_take (i := 3) (v := ?v18) rfl (by kernel_rfl) (by kernel_rfl) (by kernel_rfl) (by kernel_rfl) (by kernel_rfl) (fun _ _ _ h => h) (Or.inl ⟨by kernel_rfl, ?hy18⟩) (by assumption) ?rest18
        case hy18 => intro w hSw; (try dsimp only at hSw); obtain ⟨q1, q2, q3, q4, q5, q6, q7, q8, q9⟩ := HSS.out w hSw; go_simp; (first | done | with_reducible rfl)
        (try simp only [Act.put, List.getElem_toArray, List.getElem_cons_zero, List.getElem_cons_succ, List.setIfInBounds_toArray, List.set_cons_zero, List.set_cons_succ])
        refine gate_take (i := 4) (v := ?v19) rfl (by kernel_rfl) (by kernel_rfl) (by kernel_rfl) (by kernel_rfl) (by kernel_rfl) (fun _ _ _ h => h) (Or.inl ⟨by kernel_rfl, ?hy19⟩) (by assumption) ?rest19
        case hy19 => intro w hSw; (try dsimp only at hSw); obtain ⟨q1, q2, q3, q4, q5, q6, q7, q8, q9⟩ := HSS.out w hSw; go_simp; (first | done | with_reducible rfl)
        (try simp only [Act.put, List.getElem_toArray, List.getElem_cons_zero, List.getElem_cons_succ, List.setIfInBounds_toArray, List.set_cons_zero, List.set_cons_succ])
        refine gate_take (i := 5) (v := ?v20) rfl (by kernel_rfl) (by kernel_rfl) (by kernel_rfl) (by kernel_rfl) (by kernel_rfl) (fun _ _ _ h => h) (Or.inl ⟨by kernel_rfl, ?hy20⟩) (by assumption) ?rest20
        case hy20 => intro w hSw; (try dsimp only at hSw); obtain ⟨q1, q2, q3, q4, q5, q6, q7, q8, q9⟩ := HSS.out w hSw; go_simp; (first | done | with_reducible rfl)
        (try simp only [Act.put, List.getElem_toArray, List.getElem_cons_zero, List.getElem_cons_succ, List.setIfInBounds_toArray, List.set_cons_zero, List.set_cons_succ])
        refine gate_take (i := 6) (v := ?v21) rfl (by kernel_rfl) (by kernel_rfl) (by kernel_rfl) (by kernel_rfl) (by kernel_rfl) (fun _ _ _ h => h) (Or.inl ⟨by kernel_rfl, ?hy21⟩) (by assumption) ?rest21
        case hy21 => intro w hSw; (try dsimp only at hSw); obtain ⟨q1, q2, q3, q4, q5, q6, q7, q8, q9⟩ := HSS.out w hSw; go_simp; (first | done | with_reducible rfl)
        (try simp only [Act.put, List.getElem_toArray, List.getElem_cons_zero, List.getElem_cons_succ, List.setIfInBounds_toArray, List.set_cons_zero, List.set_cons_succ])
        refine gate_take (i := 7) (v := ?v22) rfl (by kernel_rfl) (by kernel_rfl) (by kernel_rfl) (by kernel_rfl) (by kernel_rfl) (fun _ _ _ h => h) (Or.inl ⟨by kernel_rfl, ?hy22⟩) (by assumption) ?rest22
        case hy22 => intro w hSw; (try dsimp only at hSw); obtain ⟨q1, q2, q3, q4, q5, q6, q7, q8, q9⟩ := HSS.out w hSw; go_simp; (first | done | with_reducible rfl)
        (try simp only [Act.put, List.getElem_toArray, List.getElem_cons_zero, List.getElem_cons_succ, List.setIfInBounds_toArray, List.set_cons_zero, List.set_cons_succ])
        refine gate_take (i := 8) (v := ?v23) rfl (by kernel_rfl) (by kernel_rfl) (by kernel_rfl) (by kernel_rfl) (by kernel_rfl) (fun _ _ _ h => h) (Or.inl ⟨by kernel_rfl, ?hy23⟩) (by assumption) ?rest23
        case hy23 => intro w hSw; (try dsimp only at hSw); obtain ⟨q1, q2, q3, q4, q5, q6, q7, q8, q9⟩ := HSS.out w hSw; go_simp; (first | done | with_reducible rfl)
        (try simp only [Act.put, List.getElem_toArray, List.getElem_cons_zero, List.getElem_cons_succ, List.setIfInBounds_toArray, List.set_cons_zero, List.set_cons_succ])
        refine gate_take (i := 9) (v := ?v24) rfl (by kernel_rfl) (by kernel_rfl) (by kernel_rfl) (by kernel_rfl) (by kernel_rfl) (fun _ _ _ h => h) (Or.inl ⟨by kernel_rfl, ?hy24⟩) (by assumption) ?rest24
        case hy24 => intro w hSw; (try dsimp only at hSw); obtain ⟨q1, q2, q3, q4, q5, q6, q7, q8, q9⟩ := HSS.out w hSw; go_simp; (first | done | with_reducible rfl)
        (try simp only [Act.put, List.getElem_toArray, List.getElem_cons_zero, List.getElem_cons_succ, List.setIfInBounds_toArray, List.set_cons_zero, List.set_cons_succ])
        refine gate_take (i := 10) (v := ?v25) rfl (by kernel_rfl) (by kernel_rfl) (by kernel_rfl) (by kernel_rfl) (by kernel_rfl) (fun _ _ _ h => h) (Or.inl ⟨by kernel_rfl, ?hy25⟩) (by assumption) ?rest25
        case hy25 => intro w hSw; (try dsimp only at hSw); obtain ⟨q1, q2, q3, q4, q5, q6, q7, q8, q9⟩ := HSS.out w hSw; go_simp; (first | done | with_reducible rfl)
        (try simp only [Act.put, List.getElem_toArray, List.getElem_cons_zero, List.getElem_cons_succ, List.setIfInBounds_toArray, List.set_cons_zero, List.set_cons_succ])
        refine gate_take (i := 11) (v := ?v26) rfl (by kernel_rfl) (by kernel_rfl) (by kernel_rfl) (by kernel_rfl) (by kernel_rfl) (fun _ _ _ h => h) (Or.inl ⟨by kernel_rfl, ?hy26⟩) (by assumption) ?rest26
        case hy26 => intro w hSw; (try dsimp only at hSw); obtain ⟨q1, q2, q3, q4, q5, q6, q7, q8, q9⟩ := HSS.out w hSw; go_simp; (first | done | with_reducible rfl)
        (try simp only [Act.put, List.getElem_toArray, List.getElem_cons_zero, List.getElem_cons_succ, List.setIfInBounds_toArray, List.set_cons_zero, List.set_cons_succ])
        refine gate_take (i := 12) (v := ?v27) rfl (by kernel_rfl) (by kernel_rfl) (by kernel_rfl) (by kernel_rfl) (by kernel_rfl) (fun _ _ _ h => h) (Or.inl ⟨by kernel_rfl, ?hy27⟩) (by assumption) ?rest27
        case hy27 => intro w hSw; (try dsimp only at hSw); obtain ⟨q1, q2, q3, q4, q5, q6, q7, q8, q9⟩ := HSS.out w hSw; go_simp; (first | done | with_reducible rfl)
        (try simp only [Act.put, List.getElem_toArray, List.getElem_cons_zero, List.getElem_cons_succ, List.setIfInBounds_toArray, List.set_cons_zero, List.set_cons_succ])
        refine gate_one (i := 13) rfl (by kernel_rfl) (fun K hK => ?_)
        go_simp
        refine hK.out _ _ (HSK.out _ _ hHeld (fun t o u ht hc _ => (((Below.refl _ _).alloc (Nat.le_refl _) _).cell (p := ⟨t, o, none⟩) ht).trans hc)) (fun hHeld2 => ?_)
        clear hK K hHeld
        have hHeld := hHeld2
        clear hHeld2
        (try simp only [Act.put, List.getElem_toArray, List.getElem_cons_zero, List.getElem_cons_succ, List.setIfInBounds_toArray, List.set_cons_zero, List.set_cons_succ])
        refine gate_one (i := 14) rfl (by kernel_rfl) (fun K hK => ?_)
        refine step_gK (T := 55) (E := 49) (sz := 7) (bys := 80) (B := B) (v := .slice pu L.length ku) (n := L.length) (xs := encP L) (news := clCells d (.slice pp d.xs.length pk)) Tryd.underlying55 info_call (by decide) (by decide) rfl _ _ rfl rfl BX5.out.m.row rfl hsz hkn rfl (by intro u hu; simp [clCells] at hu; rcases hu with rfl | rfl | rfl | rfl | rfl | rfl | rfl <;> rfl) ?_
        intro g4 k4 w4 hO4 hE4 hG4 hb4
        have hbe : ∀ t, t < x4.drew.heap.size → (t = b ∨ t = G ∨ t = x3.heap.size) → w4.heap[t]? = x4.drew.heap[t]? := fun t ht h => hE4.2 t ht (HUN.out t h)
        refine hK.out _ _ (HSK.out _ _ H0.out (fun t o u ht hc h => (World.cell?_of_block (a := ⟨t, o, none⟩) (hbe t ht h)).trans hc)) (fun hHeld2 => ?_)
        clear hK K hHeld
        have hHeld := hHeld2
        clear hHeld2
        (try simp only [Act.put, List.getElem_toArray, List.getElem_cons_zero, List.getElem_cons_succ, List.setIfInBounds_toArray, List.set_cons_zero, List.set_cons_succ])
        refine gate_take (i := 15) (v := ?v28) rfl (by kernel_rfl) (by kernel_rfl) (by kernel_rfl) (by kernel_rfl) (by kernel_rfl) (fun _ _ _ h => h) (Or.inl ⟨by kernel_rfl, ?hy28⟩) (by assumption) ?rest28
        case hy28 => intro w hSw; (try dsimp only at hSw); obtain ⟨q1, q2, q3, q4, q5, q6, q7, q8, q9⟩ := HSS.out w hSw; go_simp; (first | done | with_reducible rfl)
        (try simp only [Act.put, List.getElem_toArray, List.getElem_cons_zero, List.getElem_cons_succ, List.setIfInBounds_toArray, List.set_cons_zero, List.set_cons_succ])
        have hgb := hbe G (World.block_lt_of_cell? _ _ (HSS.out _ H0.out).2.1) (.inr (.inl rfl))
        have hc4 : w4.cell? ⟨G, m, none⟩ = some (.slice pu L.length ku) := (World.cell?_of_block (a := ⟨G, m, none⟩) hgb).trans (HSS.out _ H0.out).2.1
        have hf4 : w4.frozen? ⟨G, m, none⟩ = false := (World.frozen?_of_block (a := ⟨G, m, none⟩) hgb).trans HFU.out
        have HFB := Lib.hid (BX5.out.call HCS.out rfl HGOOD.out.ok HXK.out hO4 hE4 hG4 hb4)
        have HBW4 := Lib.hid hb4
        clear hO4 hE4 hG4 hb4 hbe hgb
        refine gate_past (i := 16) rfl (by kernel_rfl) (by kernel_rfl) (fun K hK => ?_)
        go_simp
        refine hK.out _ _ ?_
        clear hK K hc4 hf4
        (try simp only [Act.put, List.getElem_toArray, List.getElem_cons_zero, List.getElem_cons_succ, List.setIfInBounds_toArray, List.set_cons_zero, List.set_cons_succ])
        refine gate_done (by kernel_rfl) ?_ _
        go_wp2_with fail
        go_ret
        rw [HM.out] at HFB
        exact ⟨.inl ⟨_, HNO.out, rfl, _, _, _, _, _, _, HFB.out⟩, (HBB.out.drew.trans (HBW4.out.mono (Nat.le_of_lt HS.out.lt))).setCell (p := ⟨G, m, none⟩) (Nat.le_trans (Nat.le_of_lt HS.out.lt) HGB.out) _⟩
    · have HNO := Lib.hid (show oA = none by rw [HAD.out, hd]; rfl)
      obtain ⟨x4, hx4, r4, hb4, hs4⟩ := boxG x3 #[.int .i64 d.kd, .int .i64 d.n, .int .i64 d.dir, .string d.s, .int .i64 d.who, .int .i64 d.at', .slice pp pn pk] 49
      have HB4 := Lib.hid (HB3.out.trans (hb4.mono HB3.out.size))
      have BX4 := Lib.hid (HS.out.below HB4.out)
      have HBB := Lib.hid (HB4.out.mono (Nat.le_of_lt HBW.out))
      clear hd r4 hb4 hs4
      unfold Cl.val
      go_wp2_with fail
      go_ret
      exact ⟨.inr ⟨HNO.out, rfl, _, _, _, _, _, BX4.out.box⟩, HBB.out⟩
end Go.Proofs.YtoejflnlkapkiaaDoor
