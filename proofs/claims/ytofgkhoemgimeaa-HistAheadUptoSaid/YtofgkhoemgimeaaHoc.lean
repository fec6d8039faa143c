/- Rows of calls with all that belongs to them; hist.Same, Ahead. By program (genhoc.py). -/
import Derived.Test.YtofgkhoemgimeaaHbz
import Derived.Test.YtofgkhoemgimeaaOpr
namespace Go.Proofs.Ytofgkhoemgimeaa
open Go.ChangeShapes Go.WideShapes Go.ChangeAt Go.RowKit
set_option linter.unusedVariables false
set_option linter.unusedSimpArgs false
def ovCs (c : Ov) (x kv y : Value) : Array Value := #[.int .i64 c.w, .int .i64 c.a, .int .i64 c.kd, .int .i64 c.n, .int .i64 c.dir, .string c.s, .int .i64 c.cw, .int .i64 c.ca, x, .int .i64 c.t.er, .int .i64 c.t.dk, .int .i64 c.t.dn, kv, .int .i64 c.t.dN, .int .i64 c.t.ln, .string c.t.tx, y, .int .i64 c.fr, .int .i64 c.to]
structure Ov.ok (c : Ov) : Prop where
  w : i64ok c.w
  a : i64ok c.a
  kd : i64ok c.kd
  n : i64ok c.n
  dir : i64ok c.dir
  cw : i64ok c.cw
  ca : i64ok c.ca
  er : i64ok c.t.er
  dk : i64ok c.t.dk
  dn : i64ok c.t.dn
  dN : i64ok c.t.dN
  ln : i64ok c.t.ln
  fr : i64ok c.fr
  to : i64ok c.to
/-- 19 values are a call. -/
def OvVal (w : World) (lim : Nat) (cs : Array Value) (c : Ov) : Prop := ∃ (p p2 kp : Option Addr) (k k2 km kc : Nat), cs = ovCs c (.slice p c.xs.length k) (.slice kp km kc) (.slice p2 c.t.ys.length k2) ∧ Kids w lim (.slice kp km kc) c.t.ks ∧ Reads .u64 w p c.xs ∧ Reads .u64 w p2 c.t.ys ∧ c.xs.length ≤ 9223372036854775807 ∧ c.t.ys.length ≤ 9223372036854775807 ∧ c.ok
theorem OvVal.below {w w' : World} {lim : Nat} {cs : Array Value} {c : Ov} (h : OvVal w lim cs c) (hl : lim ≤ w.heap.size) (hb : Below w.heap.size w w') : OvVal w' lim cs c := by
  obtain ⟨p, p2, kp, k, k2, km, kc, h1, h2, h3, h4, h5, h6, h7⟩ := h
  exact ⟨p, p2, kp, k, k2, km, kc, h1, h2.below hl hb, h3.below hb, h4.below hb, h5, h6, h7⟩
theorem OvVal.n {w : World} {lim : Nat} {cs : Array Value} {c : Ov} (h : OvVal w lim cs c) : cs.size = 19 := by
  obtain ⟨p, p2, kp, k, k2, km, kc, rfl, -⟩ := h
  rfl
theorem OvVal.o {w : World} {lim : Nat} {cs : Array Value} {c : Ov} (h : OvVal w lim cs c) : cs.all (·.oneCell') = true := by
  obtain ⟨p, p2, kp, k, k2, km, kc, rfl, -⟩ := h
  first | kernel_rfl | simp [ovCs, Value.oneCell']
theorem OvVal.ok {w : World} {lim : Nat} {cs : Array Value} {c : Ov} (h : OvVal w lim cs c) : c.ok := by
  obtain ⟨p, p2, kp, k, k2, km, kc, -, -, -, -, -, -, h⟩ := h
  exact h
theorem OvVal.fr {w : World} {lim : Nat} {cs : Array Value} {c : Ov} (h : OvVal w lim cs c) : cs[17]? = some (.int .i64 c.fr) := by
  obtain ⟨p, p2, kp, k, k2, km, kc, rfl, -⟩ := h
  rfl
theorem OvVal.to {w : World} {lim : Nat} {cs : Array Value} {c : Ov} (h : OvVal w lim cs c) : cs[18]? = some (.int .i64 c.to) := by
  obtain ⟨p, p2, kp, k, k2, km, kc, rfl, -⟩ := h
  rfl
theorem OvVal.same {a b : Ov} {cs ds : Array Value} {lim : Nat} {W : World} (ha : OvVal W lim cs a) (hb : OvVal W lim ds b) (hl : lim ≤ W.heap.size) :
    Calls Try.prog 38 #[.agg cs, .agg ds] W fun e w' => e = .returned (.bool (decide (OvP a b))) ∧ Below W.heap.size W w' := by
  obtain ⟨p, p2, kp, k, k2, km, kc, rfl, h2, h3, h4, h5, h6, -⟩ := ha
  obtain ⟨q, q2, kq, j, j2, jm, jc, rfl, g2, g3, g4, g5, g6, -⟩ := hb
  exact hist_same a b _ _ p q p2 q2 k j k2 j2 lim W h2 g2 hl h3 g3 h4 g4 h5 h6
theorem OvVal.one {a b : Ov} {cs ds : Array Value} {lim : Nat} {W : World} (ha : OvVal W lim cs a) (hb : OvVal W lim ds b) (hl : lim ≤ W.heap.size) :
    Calls Try.prog 22 #[.agg cs, .agg ds] W fun e w' => e = .returned (.bool (decide (OvP a b))) ∧ Below W.heap.size W w' := by
  obtain ⟨p, p2, kp, k, k2, km, kc, rfl, h2, h3, h4, h5, h6, -⟩ := ha
  obtain ⟨q, q2, kq, j, j2, jm, jc, rfl, g2, g3, g4, g5, g6, -⟩ := hb
  exact r37_one a b _ _ p q p2 q2 k j k2 j2 lim W h2 g2 hl h3 g3 h4 g4 h5 h6
/-- A call at a place. -/
def OvAt (w : World) (lim b o : Nat) (c : Ov) : Prop := ∃ cs, OvVal w lim cs c ∧ ∀ k v, cs[k]? = some v → w.cell? ⟨b, o + k, none⟩ = some v
theorem OvAt.below {w w' : World} {lim b o : Nat} {c : Ov} (h : OvAt w lim b o c) (hl : lim ≤ w.heap.size) (hb : Below w.heap.size w w') (hlt : b < w.heap.size) : OvAt w' lim b o c := by
  obtain ⟨cs, h1, h2⟩ := h
  exact ⟨cs, h1.below hl hb, fun i u hu => (hb.cell (p := ⟨b, o + i, none⟩) hlt).trans (h2 i u hu)⟩
def RowOv (w : World) (lim : Nat) (v : Value) (l : List Ov) : Prop := ∃ p c, v = .slice p l.length c ∧ (l = [] ∨ ∃ b o, p = some ⟨b, o, none⟩ ∧ b < w.heap.size ∧ ∀ (j : Nat) x, l[j]? = some x → OvAt w lim b (o + j * 19) x)
theorem RowOv.below {w w' : World} {lim : Nat} {v : Value} {l : List Ov} (h : RowOv w lim v l) (hl : lim ≤ w.heap.size) (hb : Below w.heap.size w w') : RowOv w' lim v l := by
  obtain ⟨p, c, rfl, h⟩ := h
  refine ⟨p, c, rfl, ?_⟩
  rcases h with h | ⟨b, o, hp, hlt, h⟩
  · exact .inl h
  · exact .inr ⟨b, o, hp, Nat.lt_of_lt_of_le hlt hb.size, fun j x hj => (h j x hj).below hl hb hlt⟩
/-- Two rows of calls, one by one. -/
def ovsB : List Ov → List Ov → Bool
  | [], [] => true
  | a :: l, b :: l' => decide (OvP a b) && ovsB l l'
  | _, _ => false
theorem ovsB_len : ∀ {l l' : List Ov}, l.length ≠ l'.length → ovsB l l' = false
  | [], [], h => absurd rfl h
  | [], _ :: _, _ => rfl
  | _ :: _, [], _ => rfl
  | a :: l, b :: l', h => by rw [ovsB, ovsB_len (l := l) (l' := l') (by simpa using h), Bool.and_false]
theorem ovsB_drop {l l' : List Ov} {k : Nat} {a b : Ov} (ha : l[k]? = some a) (hb : l'[k]? = some b) : ovsB (l.drop k) (l'.drop k) = (decide (OvP a b) && ovsB (l.drop (k + 1)) (l'.drop (k + 1))) := by
  obtain ⟨h1, h2⟩ := List.getElem?_eq_some_iff.1 ha
  obtain ⟨h3, h4⟩ := List.getElem?_eq_some_iff.1 hb
  rw [List.drop_eq_getElem_cons h1, List.drop_eq_getElem_cons h3, h2, h4, ovsB]
/-- A box of 19 values. -/
theorem box_ov (W : World) {cs : Array Value} (hn : cs.size = 19) : ∃ w0, W.alloc (.cells cs 41) = w0 ∧ w0.heap[W.heap.size]? = some (.cells cs 41 (0, 0)) ∧ Below W.heap.size W w0 ∧ w0.rangeAt W.heap.size 0 cs.toList := by
  obtain ⟨w0, h1, h2, h3, -⟩ := boxH W cs 41
  refine ⟨w0, h1, h2, h3, fun j v hj => ?_⟩
  rw [Nat.zero_add, cell_of_row _ _ j cs _ (0, 0) h2]
  simpa using hj
theorem range_ov {w : World} {b : Nat} {cs : Array Value} (h2 : w.heap[b]? = some (.cells cs 41 (0, 0))) : w.rangeAt b 0 cs.toList := fun j v hj => by
  rw [Nat.zero_add, cell_of_row _ _ j cs _ (0, 0) h2]
  simpa using hj
theorem cell_ov {w : World} {b k : Nat} {cs : Array Value} {v : Value} (h2 : w.heap[b]? = some (.cells cs 41 (0, 0))) (hk : cs[k]? = some v) : w.cell? ⟨b, k, none⟩ = some v := by
  rw [cell_of_row _ _ k cs _ (0, 0) h2]
  exact hk
set_option maxRecDepth 100000 in
set_option maxHeartbeats 16000000 in
theorem equal_func (l l' : List Ov) (v v' : Value) (lim : Nat) (W : World) (h : RowOv W lim v l) (h' : RowOv W lim v' l') (hl : lim ≤ W.heap.size) (hn : l.length ≤ 100000000) :
    Calls Try.prog 37 #[v, v', .func (.func 38) #[] #[]] W fun e w' => e = .returned (.bool (ovsB l l')) ∧ Below W.heap.size W w' := by
  obtain ⟨p, c, rfl, hp⟩ := id h
  obtain ⟨q, d, rfl, hq⟩ := id h'
  by_cases hne : l.length = l'.length
  · obtain ⟨n, hnl⟩ : ∃ n, l.length = n := ⟨_, rfl⟩
    have HNL := Lib.hid hnl
    have HNL2 := Lib.hid (show l'.length = n by rw [← hne, hnl])
    rw [hnl] at hn ⊢
    rw [HNL2.out]
    have HP := Lib.hid hp
    have HQ := Lib.hid hq
    have HL := Lib.hid hl
    have HN := Lib.hid hn
    have hq0 : ((n : Int) != (n : Int)) = false := by simp
    obtain ⟨D, hD⟩ : ∃ D, ovsB l l' = D := ⟨_, rfl⟩
    rw [hD]
    have HD0 := Lib.hid (show ovsB (l.drop 0) (l'.drop 0) = D from hD)
    clear h h' hp hq hl hn hnl hne hD
    go_enter Try.func37, Try.ntmps37
    go_wp2_with fail
    go_loopw [7, 8, 9, 17] (fun _ _ _ j wr => ∃ k : Nat, j = .int .i64 k ∧ Hid (k ≤ n) ∧ Hid (ovsB (l.drop k) (l'.drop k) = D) ∧ Hid (Below W.heap.size W wr)) (fun _ _ _ j _ => n - (intOf j).toNat)
    case atStart => exact ⟨0, rfl, Lib.hid (Nat.zero_le _), HD0, Lib.hid (Below.refl _ _)⟩
    case round =>
      obtain ⟨k, rfl, HK, HDK, HB⟩ := hrel
      obtain ⟨x1, rfl⟩ : ∃ w, w = wr := ⟨_, rfl⟩
      by_cases hk : k < n
      · have hk0 : (0 : Int) ≤ (k : Int) := by omega
        have hki : (k : Int) < (n : Int) := by omega
        have HKL := Lib.hid hk
        have WK := Lib.hid (show wrap64 ((k : Int) + 1) = ((k + 1 : Nat) : Int) by have := HN.out; simp only [wrap64]; omega)
        obtain ⟨a, ha⟩ : ∃ a, l[k]? = some a := ⟨_, List.getElem?_eq_getElem (by rw [HNL.out]; exact hk)⟩
        obtain ⟨b, hb⟩ : ∃ b, l'[k]? = some b := ⟨_, List.getElem?_eq_getElem (by rw [HNL2.out]; exact hk)⟩
        have HST := Lib.hid (show D = (decide (OvP a b) && ovsB (l.drop (k + 1)) (l'.drop (k + 1))) by rw [← HDK.out]; exact ovsB_drop ha hb)
        rcases HP.out with h0 | ⟨g1, o1, rfl, hg1, hc1⟩
        · have := HNL.out; rw [h0] at this; simp at this; omega
        rcases HQ.out with h0 | ⟨g2, o2, rfl, hg2, hc2⟩
        · have := HNL2.out; rw [h0] at this; simp at this; omega
        obtain ⟨cs, hva, hca⟩ := (hc1 k a ha).below HL.out HB.out hg1
        obtain ⟨ds, hvb, hcb⟩ := (hc2 k b hb).below HL.out HB.out hg2
        obtain ⟨x2, hx2, r2, hb2, -⟩ := box_ov x1 hva.n
        obtain ⟨x3, hx3, r3, hb3, -⟩ := box_ov x2 hvb.n
        have hl1 : lim ≤ x1.heap.size := Nat.le_trans HL.out HB.out.size
        have hb13 := hb2.trans (hb3.mono hb2.size)
        have HS := Lib.hid (OvVal.same (hva.below hl1 hb13) (hvb.below hl1 hb13) (Nat.le_trans hl1 hb13.size))
        have HB3 := Lib.hid (HB.out.trans (hb13.mono HB.out.size))
        have LDA := Lib.hid (show x1.rangeAt g1 (o1 + k * 19) cs.toList from ops_load hca)
        have LDB := Lib.hid (show x2.rangeAt g2 (o2 + k * 19) ds.toList from ops_load (fun i u hu => (hb2.cell (p := ⟨g2, o2 + k * 19 + i, none⟩) (Nat.lt_of_lt_of_le hg2 HB.out.size)).trans (hcb i u hu)))
        have LDC := Lib.hid (range_ov ((hb3.block _ (g_lt r2)).trans r2))
        have LDD := Lib.hid (range_ov r3)
        have NA := Lib.hid hva.n
        have NB := Lib.hid hvb.n
        have OA := Lib.hid hva.o
        have OB := Lib.hid hvb.o
        have HX2 := Lib.hid hx2
        have HX3 := Lib.hid hx3
        clear hva hvb hca hcb r2 r3 hb2 hb3 hb13 hl1 ha hb hk hc1 hc2 hx2 hx3
        go_wp2_with (first | refine wpl_op rfl _ rfl _ _ rfl NA.out LDA.out ?_ | refine wpl_op rfl _ rfl _ _ rfl NB.out LDB.out ?_ | refine wpl_op rfl _ rfl _ _ rfl NA.out LDC.out ?_ | refine wpl_op rfl _ rfl _ _ rfl NB.out LDD.out ?_ | refine wpl_new rfl _ _ rfl rfl rfl NA.out OA.out rfl HX2.out ?_ | refine wpl_new rfl _ _ rfl rfl rfl NB.out OB.out rfl HX3.out ?_)
        refine HS.out.mono ?_
        rintro e x4 ⟨rfl, hb4⟩
        have HB4 := Lib.hid (HB3.out.trans (hb4.mono HB3.out.size))
        clear hb4
        by_cases hab : OvP a b
        · have HDN := Lib.hid (show ovsB (l.drop (k + 1)) (l'.drop (k + 1)) = D by rw [HST.out, decide_eq_true hab, Bool.true_and])
          rw [decide_eq_true hab]
          clear hab
          go_wp2_with fail
          go_roundw
          case rel => exact ⟨k + 1, by first | rw [WK.out] | simp, Lib.hid HKL.out, HDN, HB4⟩
          case measure => first | (rw [WK.out]; have := HKL.out; simp only [intOf]; omega) | (have := HKL.out; simp only [intOf]; omega)
        · have hfin : D = false := by rw [HST.out, decide_eq_false hab, Bool.false_and]
          rw [decide_eq_false hab]
          subst hfin
          clear hab
          go_wp2_with fail
          go_ret
          exact ⟨rfl, HB4.out⟩
      · have h9 : k = n := by have := HK.out; omega
        subst h9
        have hki : ¬ (k : Int) < (k : Int) := by omega
        have hfin : D = true := by
          rw [← HDK.out, List.drop_of_length_le (Nat.le_of_eq HNL.out), List.drop_of_length_le (Nat.le_of_eq HNL2.out)]; rfl
        subst hfin
        clear hk
        go_wp2_with fail
        go_ret
        exact ⟨rfl, HB.out⟩
  · have hq0 : ((l.length : Int) != (l'.length : Int)) = true := by simp; omega
    have hfin := ovsB_len hne
    rw [hfin]
    clear hne hfin h h' hp hq hl hn
    go_enter Try.func37, Try.ntmps37
    go_wp2_with fail
    go_ret
    exact ⟨rfl, Below.refl _ _⟩
set_option maxRecDepth 100000 in
set_option maxHeartbeats 4000000 in
theorem hist_Same (l l' : List Ov) (v v' : Value) (lim : Nat) (W : World) (h : RowOv W lim v l) (h' : RowOv W lim v' l') (hl : lim ≤ W.heap.size) (hn : l.length ≤ 100000000) :
    Calls Try.prog 21 #[v, v'] W fun e w' => e = .returned (.bool (ovsB l l')) ∧ Below W.heap.size W w' := by
  have EF := Lib.hid (equal_func l l' v v' lim W h h' hl hn)
  clear h h' hl hn
  go_enter Try.func21, Try.ntmps21
  go_wp2_with fail
  refine EF.out.mono ?_
  rintro e x1 ⟨rfl, hb⟩
  have HB := Lib.hid hb
  clear hb
  go_wp2_with fail
  go_ret
  exact ⟨rfl, HB.out⟩
/-- One has ended ahead of another one's beginning. -/
def ahdB (t f : Int) : Bool := decide (t ≠ -1 ∧ t < f)
set_option maxRecDepth 100000 in
set_option maxHeartbeats 4000000 in
theorem hist_ahead {a b : Ov} {cs ds : Array Value} {lim : Nat} {W : World} (ha : OvVal W lim cs a) (hb : OvVal W lim ds b) :
    Calls Try.prog 19 #[.agg cs, .agg ds] W fun e w' => e = .returned (.bool (ahdB a.to b.fr)) ∧ Below W.heap.size W w' := by
  obtain ⟨w0, hw0, r0, hB0, -⟩ := box_ov W ha.n
  obtain ⟨w1, hw1, r1, hB1, -⟩ := box_ov w0 hb.n
  have HB := Lib.hid (hB0.trans (hB1.mono hB0.size))
  have c18 := cell_ov ((hB1.block _ (g_lt r0)).trans r0) ha.to
  have c17 := cell_ov r1 hb.fr
  clear r0 r1 hB0 hB1 ha hb
  obtain ⟨t, ht⟩ : ∃ t, a.to = t := ⟨_, rfl⟩
  obtain ⟨f, hf⟩ : ∃ f, b.fr = f := ⟨_, rfl⟩
  rw [ht] at c18 ⊢
  rw [hf] at c17 ⊢
  clear ht hf
  by_cases h1 : t = -1
  · have hD : ahdB t f = false := decide_eq_false (fun g => g.1 h1)
    rw [hD]
    clear hD
    subst h1
    go_enter Try.func19, Try.ntmps19
    go_wp2_with fail
    go_ret
    exact ⟨rfl, HB.out⟩
  · have q1 : (t != -1) = true := by simpa using h1
    by_cases h2 : t < f
    · have hD : ahdB t f = true := decide_eq_true ⟨h1, h2⟩
      rw [hD]
      clear hD h1
      go_enter Try.func19, Try.ntmps19
      go_wp2_with fail
      go_ret
      exact ⟨rfl, HB.out⟩
    · have hD : ahdB t f = false := decide_eq_false (fun g => h2 g.2)
      rw [hD]
      clear hD h1
      go_enter Try.func19, Try.ntmps19
      go_wp2_with fail
      go_ret
      exact ⟨rfl, HB.out⟩
set_option maxRecDepth 100000 in
set_option maxHeartbeats 4000000 in
theorem r37_ahead {a b : Ov} {cs ds : Array Value} {lim : Nat} {W : World} (ha : OvVal W lim cs a) (hb : OvVal W lim ds b) :
    Calls Try.prog 20 #[.agg cs, .agg ds] W fun e w' => e = .returned (.bool (ahdB a.to b.fr)) ∧ Below W.heap.size W w' := by
  obtain ⟨w0, hw0, r0, hB0, -⟩ := box_ov W ha.n
  obtain ⟨w1, hw1, r1, hB1, -⟩ := box_ov w0 hb.n
  have HB := Lib.hid (hB0.trans (hB1.mono hB0.size))
  have c18 := cell_ov ((hB1.block _ (g_lt r0)).trans r0) ha.to
  have c17 := cell_ov r1 hb.fr
  clear r0 r1 hB0 hB1 ha hb
  obtain ⟨t, ht⟩ : ∃ t, a.to = t := ⟨_, rfl⟩
  obtain ⟨f, hf⟩ : ∃ f, b.fr = f := ⟨_, rfl⟩
  rw [ht] at c18 ⊢
  rw [hf] at c17 ⊢
  clear ht hf
  by_cases h1 : t = -1
  · have hD : ahdB t f = false := decide_eq_false (fun g => g.1 h1)
    rw [hD]
    clear hD
    subst h1
    go_enter Try.func20, Try.ntmps20
    go_wp2_with fail
    go_ret
    exact ⟨rfl, HB.out⟩
  · have q1 : (t != -1) = true := by simpa using h1
    by_cases h2 : t < f
    · have hD : ahdB t f = true := decide_eq_true ⟨h1, h2⟩
      rw [hD]
      clear hD h1
      go_enter Try.func20, Try.ntmps20
      go_wp2_with fail
      go_ret
      exact ⟨rfl, HB.out⟩
    · have hD : ahdB t f = false := decide_eq_false (fun g => h2 g.2)
      rw [hD]
      clear hD h1
      go_enter Try.func20, Try.ntmps20
      go_wp2_with fail
      go_ret
      exact ⟨rfl, HB.out⟩
end Go.Proofs.Ytofgkhoemgimeaa
