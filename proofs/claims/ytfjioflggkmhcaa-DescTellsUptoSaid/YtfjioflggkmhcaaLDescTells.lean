/- DescTells: any tree's nodes, in order, how many there are, how deep it is, and a copy that shares nothing; of arguments of a bulk of at most 1048576. -/
import Derived.Test.YtfjioflggkmhcaaAllh
import Derived.Test.YtfjioflggkmhcaaStilld
import Derived.Test.YtfjioflggkmhcaaPoke
import Derived.Test.YtfjioflggkmhcaaCmpr
import Derived.Test.YtfjioflggkmhcaaAtl
import Derived.Test.YtfjioflggkmhcaaDepthd
import Derived.Deep.RegionHeld3
import Derived.Deep.DrawnRows
namespace Go.Proofs.Ytfjioflggkmhcaa
open Go.ChangeShapes Go.WideShapes Go.ChangeAt Go.RowKit
set_option linter.unusedVariables false
open Go.Shelf
set_option linter.unusedSimpArgs false
theorem all_nil (b : Nat) (w : World) : (binOp .eql 29 (.func (.func 47) #[] #[.pointer (some ⟨b, 0, none⟩)]) .nilFunc).run Try.prog w = .ok (.bool false) w := by kernel_rfl
attribute [local go_sem] Oper.semAt_some
namespace descTells
set_option maxRecDepth 100000 in
set_option maxHeartbeats 8000000 in
theorem main (k n st : Int) (s : Value) (t : Fo) (W : World) (hK : Kids W W.heap.size s t) (hN : t.cnt ≤ 1048575) (hst : 0 ≤ st ∧ st ≤ 255) :
    Calls Try.prog 3 #[.agg #[.int .i64 k, .int .i64 n, s], .int .u8 st] W fun e w' => e = .returned (.bool true) ∧ Below W.heap.size W w' := by
  have LV := Lib.hid (fun w => live13 w)
  obtain ⟨p, m, c, rfl, _, _, HM⟩ := hK.shape
  obtain ⟨w1, hw1⟩ : ∃ w1, ((W.alloc (.cells #[.int .i64 k, .int .i64 n, .slice p m c] 24)).alloc (.cells #[.int .u8 st] 5)).alloc (.cells #[.bool false] 4) = w1 := ⟨_, rfl⟩
  have hB : Below W.heap.size W w1 := by rw [← hw1]; exact (((Below.refl _ W).alloc (Nat.le_refl _) _).alloc (by simp) _).alloc (by simp; omega) _
  have hs1 : w1.heap.size = W.heap.size + 3 := by rw [← hw1]; simp
  have r0 : w1.heap[W.heap.size]? = some (.cells #[.int .i64 k, .int .i64 n, .slice p m c] 24 (0, 0)) := by
    rw [← hw1, Below.heap_alloc _ _ _ (by simp; omega), Below.heap_alloc _ _ _ (by simp)]; exact heap_alloc_new W _
  have r1 : w1.heap[W.heap.size + 1]? = some (.cells #[.int .u8 st] 5 (0, 0)) := by
    rw [← hw1, Below.heap_alloc _ _ _ (by simp)]
    have := heap_alloc_new (W.alloc (.cells #[.int .i64 k, .int .i64 n, .slice p m c] 24)) (.cells #[.int .u8 st] 5)
    rwa [World.size_alloc] at this
  have r2 : w1.heap[W.heap.size + 1 + 1]? = some (.cells #[.bool false] 4 (0, 0)) := by
    rw [← hw1]
    have := heap_alloc_new ((W.alloc (.cells #[.int .i64 k, .int .i64 n, .slice p m c] 24)).alloc (.cells #[.int .u8 st] 5)) (.cells #[.bool false] 4)
    rwa [World.size_alloc, World.size_alloc] at this
  have hl := fun (w' : World) (hb : Below w1.heap.size w1 w') => (show W.heap.size ≤ w'.heap.size by have := hb.size; omega)
  have HK := Lib.hid (fun (w' : World) (hb : Below w1.heap.size w1 w') => (hK.carry hB).carry (hb.mono (by omega)))
  have MU := Lib.hid (fun w' hb => r13_much t (.slice p m c) k n W.heap.size w' (by omega) (HK.out w' hb) (hl w' hb))
  have LI := Lib.hid (fun w' hb => r13_list 1048576 t (.slice p m c) k n W.heap.size w' (by omega) (Nat.le_refl _) (HK.out w' hb) (hl w' hb))
  have AL := Lib.hid (fun w' hb => desc_all k n (.slice p m c) t W.heap.size w' (HK.out w' hb) (hl w' hb) (by omega))
  have R0 := Below.refl w1.heap.size w1
  obtain ⟨x0, x1, x2, _, _, _⟩ := row_cells3 r0
  clear hK hl
  refine (callsIn_wide (n := 20)).1 ?_
  refine callsIn_of_wp_marks Try.func3 rfl trivial ?_ rfl
  simp only [Try.ntmps3, List.size_toArray, List.length_cons, List.length_nil, Nat.reduceAdd, Nat.reduceSub, Array.replicate_succ, Array.replicate_zero, List.push_toArray, List.append_toArray, List.nil_append, List.cons_append]
  refine wpIn_wide.2 ?_
  go_wp2_with fail
  clear hw1
  refine (MU.out _ R0).mono ?_
  rintro e w2 ⟨rfl, b2⟩
  have s0 := (b2.block _ (by omega)).trans r0
  have s1 := (b2.block _ (by omega)).trans r1
  have s2 := (b2.block _ (by omega)).trans r2
  have hz2 := b2.size
  by_cases hbig : 80 < t.cnt + 1
  · have hd : decide (80 < t.cnt + 1) = true := decide_eq_true hbig
    rw [hd]
    go_wp2_with fail
    refine (LV.out _).mono ?_
    rintro e w3 ⟨rfl, b3⟩
    have t2 := (b3.block _ (by omega)).trans s2
    have hz3 := b3.size
    have c2 : w3.cell? ⟨W.heap.size + 1 + 1, 0, none⟩ = some (.bool false) := by rw [cell_of_row _ _ _ _ _ _ t2]; rfl
    have f2 : w3.frozen? ⟨W.heap.size + 1 + 1, 0, none⟩ = false := frozen_of_row _ _ _ _ _ t2
    have HE := Lib.hid (show (w3.setCell ⟨W.heap.size + 1 + 1, 0, none⟩ (.bool true)).cell? ⟨W.heap.size + 1 + 1, 0, none⟩ = some (.bool true) ∧ Below W.heap.size W (w3.setCell ⟨W.heap.size + 1 + 1, 0, none⟩ (.bool true)) from
      ⟨World.cell?_setCell_same _ _ _ c2, (hB.trans ((b2.trans (b3.mono b2.size)).mono hB.size)).setCell (p := ⟨W.heap.size + 1 + 1, 0, none⟩) (show W.heap.size ≤ W.heap.size + 1 + 1 by omega) _⟩)
    go_wp2_with fail
    exact ⟨_, results_cell1 rfl _ _ _ _ rfl HE.out.1, rfl, HE.out.2⟩
  have hd : decide (80 < t.cnt + 1) = false := decide_eq_false hbig
  rw [hd]
  clear x0 x1 x2
  obtain ⟨x0, x1, x2, _, _, _⟩ := row_cells3 s0
  go_wp2_with fail
  -- the list
  refine (LI.out _ b2).mono ?_
  rintro e w3 ⟨v', rfl, hod, b3⟩
  obtain ⟨la, lc, rfl, hlc1, hlc2, hget⟩ := hod.shape
  obtain ⟨w4, hw4⟩ : ∃ w4, w3.alloc (.cells #[.slice la (⟨k, n, t⟩ :: t.pre : List Nd).length lc] 22) = w4 := ⟨_, rfl⟩
  have hal : (⟨k, n, t⟩ :: t.pre : List Nd).length = t.cnt + 1 := by rw [List.length_cons, Fo.pre_len]
  rw [hal] at hw4 hlc1 ⊢
  have b4 : Below w2.heap.size w2 w4 := by rw [← hw4]; exact b3.alloc b3.size _
  have B4 := b2.trans (b4.mono b2.size)
  have hbl : w4.heap[w3.heap.size]? = some (.cells #[.slice la (t.cnt + 1) lc] 22 (0, 0)) := by rw [← hw4]; exact heap_alloc_new w3 _
  have hz3 := b3.size
  have hz4 : w4.heap.size = w3.heap.size + 1 := by rw [← hw4]; simp
  have HGET := Lib.hid (show ∀ (w' : World), Below w4.heap.size w4 w' → ∀ i (hi : i < (⟨k, n, t⟩ :: t.pre : List Nd).length), ∃ g u, la = some ⟨g, 0, none⟩ ∧ w'.cell? ⟨g, i * 3, none⟩ = some (.int .i64 (⟨k, n, t⟩ :: t.pre : List Nd)[i].k) ∧ w'.cell? ⟨g, i * 3 + 1, none⟩ = some (.int .i64 (⟨k, n, t⟩ :: t.pre : List Nd)[i].n) ∧ w'.cell? ⟨g, i * 3 + 2, none⟩ = some u ∧ Kids w' W.heap.size u (⟨k, n, t⟩ :: t.pre : List Nd)[i].ks from fun w' hb i hi => by
    obtain ⟨g, u, ha, hg, _, e0, e1, e2, hk⟩ := hget i hi
    have hb3 : Below w3.heap.size w3 w' := by
      have h1 : Below w3.heap.size w3 w4 := by rw [← hw4]; exact (Below.refl _ _).alloc (Nat.le_refl _) _
      exact h1.trans (hb.mono h1.size)
    exact ⟨g, u, ha, (hb3.cell (p := ⟨g, i * 3, none⟩) hg).trans e0, (hb3.cell (p := ⟨g, i * 3 + 1, none⟩) hg).trans e1, (hb3.cell (p := ⟨g, i * 3 + 2, none⟩) hg).trans e2, hk.carry (hb3.mono (by omega))⟩)
  have t0 := (B4.block _ (by omega)).trans r0
  clear x0 x1 x2 s0 s1 s2 b2 b3 b4 hget hod
  obtain ⟨x0, x1, x2, _, _, _⟩ := row_cells3 t0
  go_wp2_with fail
  clear hw4
  refine (AL.out _ B4).mono ?_
  rintro e w5 ⟨bo, oa, oc, rfl, hbo, hok, b5⟩
  have B5 := B4.trans (b5.mono B4.size)
  have hz5 := b5.size
  have hlo : bo < w5.heap.size := (Array.getElem?_eq_some_iff.1 hbo).1
  have hbl5 := (b5.block _ (by omega)).trans hbl
  have t0 := (B5.block _ (by omega)).trans r0
  have HOK := Lib.hid hok
  clear x0 x1 x2 hbl B4 hok
  have MK := Lib.hid (fun (w' : World) (hb : Below w5.heap.size w5 w') => (show w'.cell? ⟨W.heap.size, 0, none⟩ = some (.int .i64 k) ∧ w'.cell? ⟨W.heap.size, 1, none⟩ = some (.int .i64 n) ∧ w'.cell? ⟨W.heap.size, 2, none⟩ = some (.slice p m c) ∧ w'.cell? ⟨w3.heap.size, 0, none⟩ = some (.slice la (t.cnt + 1) lc) ∧ Below w5.heap.size w5 w' from by
    obtain ⟨q0, q1, q2, -⟩ := row_cells3 ((hb.block _ (by omega)).trans t0)
    refine ⟨q0, q1, q2, ?_, hb⟩
    rw [cell_of_row _ _ _ _ _ _ ((hb.block _ (by omega)).trans hbl5)]; rfl))
  have KPN := Lib.hid (fun w1 w' (hS : w1.cell? ⟨W.heap.size, 0, none⟩ = some (.int .i64 k) ∧ w1.cell? ⟨W.heap.size, 1, none⟩ = some (.int .i64 n) ∧ w1.cell? ⟨W.heap.size, 2, none⟩ = some (.slice p m c) ∧ w1.cell? ⟨w3.heap.size, 0, none⟩ = some (.slice la (t.cnt + 1) lc) ∧ Below w5.heap.size w5 w1) (hb : Below w1.heap.size w1 w') => MK.out w' (hS.2.2.2.2.trans (hb.mono hS.2.2.2.2.size)))
  have ND := Lib.hid (fun (w' : World) (hb : Below w5.heap.size w5 w') => desc_nodes k n (.slice p m c) W.heap.size t w' (HK.out _ (B5.trans (hb.mono B5.size))) (by have := hb.size; omega) (by omega))
  have DD := Lib.hid (fun (w' : World) (hb : Below w5.heap.size w5 w') => desc_depth 1048576 t (.slice p m c) k n W.heap.size w' (by omega) (Nat.le_refl _) (HK.out _ (B5.trans (hb.mono B5.size))) (by have := hb.size; omega))
  have RD := Lib.hid (fun (w' : World) (hb : Below w5.heap.size w5 w') => r13_depth 1048576 t (.slice p m c) k n W.heap.size w' (by omega) (Nat.le_refl _) (HK.out _ (B5.trans (hb.mono B5.size))) (by have := hb.size; omega))
  have K0 := Lib.hid (MK.out _ (Below.refl _ _))
  have K4 := Lib.hid (MK.out _ ((Below.refl _ w5).drew))
  have e1 : ((((t.cnt : Int) + 1) != ((t.cnt + 1 : Nat) : Int))) = false := by simp
  obtain ⟨dp, hdp⟩ : ∃ dp : Int, ((t.depth + 1 : Nat) : Int) = dp := ⟨_, rfl⟩
  rw [hdp] at DD RD
  go_wp2_with fail
  have qf := all_nil bo
  go_region_held3 (fun w' => w'.cell? ⟨W.heap.size, 0, none⟩ = some (.int .i64 k) ∧ w'.cell? ⟨W.heap.size, 1, none⟩ = some (.int .i64 n) ∧ w'.cell? ⟨W.heap.size, 2, none⟩ = some (.slice p m c) ∧ w'.cell? ⟨w3.heap.size, 0, none⟩ = some (.slice la (t.cnt + 1) lc) ∧ Below w5.heap.size w5 w') (first | exact K4.out | assumption | (refine KPN.out _ _ ?_ hb; first | assumption | exact K4.out)) (first | (go_at_call 17; with_reducible refine (ND.out _ (by go_split_ands; assumption)).mono ?_; rintro e w' ⟨rfl, hb⟩) | (go_at_call 18; with_reducible refine (DD.out _ (by go_split_ands; assumption)).mono ?_; rintro e w' ⟨rfl, hb⟩) | (go_at_call 19; with_reducible refine (RD.out _ (by go_split_ands; assumption)).mono ?_; rintro e w' ⟨rfl, hb⟩))
  rename_i hSS
  obtain ⟨x0, x1, x2, x3, B6⟩ := hSS
  generalize w' = wv at *
  obtain ⟨w6, hw6⟩ : ∃ w6, wv.alloc (.cells #[.int .i64 0] 3) = w6 := ⟨_, rfl⟩
  have b7 : Below wv.heap.size wv w6 := by rw [← hw6]; exact (Below.refl _ _).alloc (Nat.le_refl _) _
  have hbn : Bx w6 wv.heap.size 3 (.int .i64 0) := by rw [← hw6]; exact Bx.new wv 3 _ _ rfl
  have hz6 := B6.size
  have hz7 : w6.heap.size = wv.heap.size + 1 := by rw [← hw6]; simp
  have B7 := B6.trans (b7.mono B6.size)
  clear K0 K4 KPN ND DD RD MU LI AL qf e1
  have HW6 := Lib.hid hw6
  clear hw6
  go_wp2_with fail
  rw [HW6.out]
  refine (wpIn_wide (n := 20)).1 ?_
  have hall : (⟨k, n, t⟩ :: t.pre : List Nd).length = t.cnt + 1 := hal
  have hbo6 : w6.heap[bo]? = some (.cells #[.int .i64 k, .int .i64 n, .slice oa t.len oc] 24 (0, 0)) := (b7.block _ (by omega)).trans ((B6.block _ hlo).trans hbo)
  obtain ⟨o0, o1, o2, _, _, _⟩ := row_cells3 hbo6
  have hseq := all_rel (20 - 1) (by omega) bo wv.heap.size t.len oc k n oa t w6 o0 o1 o2 ((((HOK.out.carry B6).mono hz6)).carry b7) (by omega) (by omega)
  have GETE := Lib.hid (show ∀ W' : World, Below wv.heap.size w6 W' → Below w5.heap.size w5 W' from fun W' h => B7.trans (h.mono hz6))
  have hb12 : Below w1.heap.size w1 w5 := B5
  clear o0 o1 o2 x0 x1 x2 x3 R0
  refine wp_range_rel rfl (by omega) (gf := 47) (lb := #[.pointer (some ⟨bo, 0, none⟩)]) rfl trivial (enters_of Try.func47 (by kernel_rfl) rfl)
    hseq (by omega)
    (fun pre x A C _ h hb => relA_new _ pre x A C h hb)
    (fun pre x A l o o' _ hl ho h => relA_put _ pre x A l o o' hl ho h)
    (Below.refl _ _) (fun _ => rfl)
    (fun pre W' => Below wv.heap.size w6 W' ∧ Bx W' wv.heap.size 3 (.int .i64 ((pre.length : Nat) : Int)) ∧ ((pre.length : Nat) : Int) ≤ st)
    (fun c pre W' => c = .exit 0 ∧ Below wv.heap.size w6 W' ∧ Bx W' wv.heap.size 3 (.int .i64 ((pre.length : Nat) : Int)) ∧ ((pre.length : Nat) : Int) = st + 1)
    (fun pre A C h hb => ⟨h.1.trans (hb.mono (by omega)), by unfold Bx; rw [hb.block _ (by omega)]; exact h.2.1, h.2.2⟩)
    (fun c pre A C h hb => ⟨h.1, h.2.1.trans (hb.mono (by omega)), by unfold Bx; rw [hb.block _ (by omega)]; exact h.2.2.1, h.2.2.2⟩)
    ⟨Below.refl _ _, hbn, hst.1⟩
    (fun x V => { tmps := #[Value.agg #[Value.int IntKind.i64 k, Value.int IntKind.i64 n, Value.slice p m c], Value.int IntKind.u8 st, Value.pointer (some ⟨W.heap.size, 0, none⟩), Value.pointer (some ⟨W.heap.size + 1, 0, none⟩), Value.pointer (some ⟨W.heap.size + 1 + 1, 0, none⟩), Value.pointer (some ⟨w3.heap.size, 0, none⟩), Value.func (Fn.func 47) #[] #[Value.pointer (some ⟨bo, 0, none⟩)], Value.pointer (some ⟨wv.heap.size, 0, none⟩), Value.pointer (some ⟨V.heap.size, 0, none⟩), undef, undef, Value.agg #[Value.int IntKind.i64 k, Value.int IntKind.i64 n, Value.slice p m c], Value.bool false, undef, Value.agg #[Value.int IntKind.i64 k, Value.int IntKind.i64 n, Value.slice p m c], Value.slice la (t.cnt + 1) lc, Value.agg #[Value.int IntKind.i64 k, Value.int IntKind.i64 n, Value.slice p m c], Value.func (Fn.func 47) #[] #[Value.pointer (some ⟨bo, 0, none⟩)], Value.func (Fn.func 47) #[] #[Value.pointer (some ⟨bo, 0, none⟩)], Value.bool false, Value.bool false, Value.agg #[Value.int IntKind.i64 k, Value.int IntKind.i64 n, Value.slice p m c], Value.int IntKind.i64 ((t.cnt : Int) + 1), Value.slice la (t.cnt + 1) lc, Value.int IntKind.i64 ((t.cnt : Int) + 1), Value.bool false, Value.bool false, Value.bool false, Value.agg #[Value.int IntKind.i64 k, Value.int IntKind.i64 n, Value.slice p m c], Value.int IntKind.i64 dp, Value.agg #[Value.int IntKind.i64 k, Value.int IntKind.i64 n, Value.slice p m c], Value.int IntKind.i64 dp, Value.bool false, Value.bool false, Value.func (Fn.func 47) #[] #[Value.pointer (some ⟨bo, 0, none⟩)], Value.agg #[Value.int IntKind.i64 x.k, Value.int IntKind.i64 x.n, Value.slice x.a x.m x.c], undef, undef, undef, undef, undef, undef, undef, undef, undef, undef, undef, undef, undef, undef, undef, undef, undef, undef, undef, undef, undef, undef, undef, undef, undef, undef, undef, undef, undef, undef, undef, undef, undef, undef, undef, undef, undef, undef, undef, undef, undef, undef, undef, undef, undef, undef, undef, undef, undef, undef, undef, undef, undef, undef, undef, undef, undef, undef, undef], defers := [] })
    (fun x V => V.alloc (.cells #[.int .i64 x.k, .int .i64 x.n, .slice x.a x.m x.c] 24))
    (fun x V => (Below.refl _ V).alloc (Nat.le_refl _) _)
    ?assign ?body ?done ?stop
  case assign =>
    rintro l2 ⟨xk, xn, xa, xm, xc, xf⟩ W' K hK
    dsimp only [encN] at hK ⊢
    gi_wp2
    exact hK
  case body =>
    rintro l2 pre ⟨xk, xn, xa, xm, xc, xf⟩ V W' ⟨hbW, hnb, hle⟩ ⟨⟨r, hr⟩, hk⟩ hl2 hlV hsz hsame
    clear hseq
    dsimp only at hk hsz hsame ⊢
    have hx := (hsame V.heap.size (by omega)).trans (heap_alloc_new V _)
    have hx : W'.heap[V.heap.size]? = some (.cells #[.int .i64 xk, .int .i64 xn, .slice xa xm xc] 24 (0, 0)) := hx
    have hlen : pre.length < (⟨k, n, t⟩ :: t.pre : List Nd).length := by rw [← hr]; simp
    have hat : (⟨k, n, t⟩ :: t.pre : List Nd)[pre.length] = ⟨xk, xn, xf⟩ := by
      have : (⟨k, n, t⟩ :: t.pre : List Nd)[pre.length]? = some ⟨xk, xn, xf⟩ := by rw [← hr, List.getElem?_append_right (by simp)]; simp [NodV.nd]
      rw [List.getElem?_eq_getElem hlen] at this
      exact Option.some.inj this
    have h5 := GETE.out W' hbW
    obtain ⟨_, _, _, x3, _⟩ := MK.out W' h5
    obtain ⟨g, u, rfl, e0, e1, e2, hku⟩ := HGET.out W' (b5.trans (h5.mono (by omega))) pre.length hlen
    rw [hat] at e0 e1 hku
    dsimp only at e0 e1 hku
    have hWs : W.heap.size ≤ W'.heap.size := by have := h5.size; omega
    have hkx := hk.size
    obtain rfl : xm = xf.len := by obtain ⟨_, _, e, _⟩ := hk; cases e; rfl
    obtain ⟨ua, uc, rfl, _, _⟩ := hku.form
    obtain ⟨x0, x1, x2, _, _, _⟩ := row_cells3 hx
    have nb := hnb.cell
    have fnb : W'.frozen? ⟨wv.heap.size, 0, none⟩ = false := frozen_of_row _ _ _ _ _ hnb
    obtain ⟨N, hN⟩ : ∃ N, pre.length = N := ⟨_, rfl⟩
    have HNB := Lib.hid hnb
    have SM := Lib.hid (r13_same xf xf (.slice xa xf.len xc) (.slice ua xf.len uc) xk xn xk xn W'.heap.size W'.drew (hkx.carry ((Below.refl _ _).drew)) ((hku.mono hWs).carry ((Below.refl _ _).drew)) (Nat.le_refl _))
    rw [cmpN_self, show decide ((0 : Int) = 0) = true from rfl] at SM
    rw [hN] at nb e0 e1 e2 hlen hle
    have dN : decide (((t.cnt + 1 : Nat) : Int) ≤ (N : Int)) = false := decide_eq_false (by rw [hall] at hlen; omega)
    have dN' : decide (((t.cnt : Int) + 1) ≤ (N : Int)) = false := decide_eq_false (by rw [hall] at hlen; omega)
    have n0 : (0 : Int) ≤ (N : Int) := by omega
    have n1 : N < t.cnt + 1 := by rw [hall] at hlen; omega
    have n2 : (N : Int) < (t.cnt : Int) + 1 := by omega
    have wN : IntKind.i64.wrap ((N : Int) + 1) = (N : Int) + 1 := IntWalk.i64_in _ (by rw [hall] at hlen; omega)
    have hmx : Try.prog.follows .mixedOrders = true := by kernel_rfl
    have hd : 1 ≤ 20 - 1 - 1 := by omega
    have HBW := Lib.hid hbW
    have sb := (h5.block _ (show W.heap.size + 1 < w5.heap.size by omega)).trans ((B5.block _ (by omega)).trans r1)
    have stc : W'.cell? ⟨W.heap.size + 1, 0, none⟩ = some (.int .u8 st) := by rw [cell_of_row _ _ _ _ _ _ sb]; rfl
    have hbnl : wv.heap.size < W'.heap.size := (Array.getElem?_eq_some_iff.1 hnb).1
    have hstl : W.heap.size + 1 < W'.heap.size := (Array.getElem?_eq_some_iff.1 sb).1
    have HKEEP := Lib.hid hsame
    clear hk hku hkx hr hx hsame hat hnb h5 hbW

    gi_wp2
    refine wpIn_region_still_tail (l := l2) 10 (by kernel_rfl) (by kernel_rfl) (by kernel_rfl) ?_
    simp only [List.take_succ_cons, List.take_zero, List.drop_succ_cons, List.drop_zero]
    change wpStill _ _ W'.drew (fun a' => wpListIn _ _ _ _ _ _ a' W'.drew) _ _
    replace x0 : W'.drew.cell? ⟨V.heap.size, 0, none⟩ = _ := x0
    replace x1 : W'.drew.cell? ⟨V.heap.size, 1, none⟩ = _ := x1
    replace x2 : W'.drew.cell? ⟨V.heap.size, 2, none⟩ = _ := x2
    replace x3 : W'.drew.cell? ⟨w3.heap.size, 0, none⟩ = _ := x3
    replace nb : W'.drew.cell? ⟨wv.heap.size, 0, none⟩ = _ := nb
    replace e0 : W'.drew.cell? ⟨g, N * 3, none⟩ = _ := e0
    replace e1 : W'.drew.cell? ⟨g, N * 3 + 1, none⟩ = _ := e1
    replace e2 : W'.drew.cell? ⟨g, N * 3 + 2, none⟩ = _ := e2
    have HBD := Lib.hid ((Below.refl W'.heap.size W').drew)
    have HSZ := Lib.hid (show W'.drew.heap.size = W'.heap.size from rfl)
    have MKB := Lib.hid (fun (w7 : World) (hb : Below W'.drew.heap.size W'.drew w7) => show w7.heap[wv.heap.size]? = some (.cells #[.int .i64 (N : Int)] 3 (0, 0)) ∧ w7.cell? ⟨W.heap.size + 1, 0, none⟩ = some (.int .u8 st) ∧ Below W'.heap.size W' w7 from
      ⟨by rw [← hN]; exact (hb.block _ hbnl).trans HNB.out, (hb.cell (p := ⟨W.heap.size + 1, 0, none⟩) hstl).trans stc, HBD.out.trans hb⟩)
    clear stc fnb
    generalize W'.drew = wd at *
    repeat still_step
    refine wpStill_nil ?_
    gi_wp2
    refine ⟨trivial, (CallsIn.inRound l2 (callsIn_wide.2 SM.out)).mono ?_⟩
    rintro e w7 ⟨rfl, b7'⟩
    rw [HSZ.out] at b7'
    obtain ⟨hn7, st7, B7'⟩ := MKB.out w7 (by rw [HSZ.out]; exact b7')
    have hn7 : Bx w7 wv.heap.size 3 (.int .i64 (N : Int)) := hn7
    have nb7 := hn7.cell
    have fnb : w7.frozen? ⟨wv.heap.size, 0, none⟩ = false := frozen_of_row _ _ _ _ _ hn7
    have hG := Lib.hid (show Kw wv.heap.size w6.heap.size W' (w7.setCell ⟨wv.heap.size, 0, none⟩ (.int .i64 ((N : Int) + 1))) ∧ Below wv.heap.size w6 (w7.setCell ⟨wv.heap.size, 0, none⟩ (.int .i64 ((N : Int) + 1))) ∧ Bx (w7.setCell ⟨wv.heap.size, 0, none⟩ (.int .i64 ((N : Int) + 1))) wv.heap.size 3 (.int .i64 (((pre ++ [(⟨xk, xn, xa, xf.len, xc, xf⟩ : NodV)]).length : Nat) : Int)) from by
      refine ⟨(Kw.of B7' (by omega)).trans (Kw.set _ (Nat.le_refl _) (by omega)), (HBW.out.trans (B7'.mono (by omega))).setCell (p := ⟨wv.heap.size, 0, none⟩) (Nat.le_refl _) _, ?_⟩
      have := hn7.set (.int .i64 ((N : Int) + 1))
      rw [List.length_append, List.length_singleton, hN]
      exact this)
    by_cases hgt : st < (N : Int) + 1
    · have dg : decide (st < (N : Int) + 1) = true := decide_eq_true hgt
      gi_wp2
      exact ⟨hG.out.1.2, rfl, hG.out.2.1, hG.out.2.2, by rw [List.length_append, List.length_singleton, hN]; omega⟩
    · have dg : decide (st < (N : Int) + 1) = false := decide_eq_false hgt
      gi_wp2
      exact ⟨hG.out.1, hG.out.2.1, hG.out.2.2, by rw [List.length_append, List.length_singleton, hN]; omega⟩
  case done =>
    rintro D zs W' hD hzs ⟨hbW, hnb, hle⟩ hKD
    clear hseq
    have r25 := (B5.block (W.heap.size + 1 + 1) (by omega)).trans r2
    have h5 := GETE.out W' hbW
    have hN : zs.length = t.cnt + 1 := by have := congrArg List.length hzs; rw [List.length_map, hall] at this; exact this
    have nb := hnb.cell
    rw [hN] at nb
    obtain ⟨x0, x1, x2, x3, _⟩ := MK.out W' h5
    have hDW := (Array.getElem?_eq_some_iff.1 hKD).1
    have CLN := Lib.hid (desc_clone k n (.slice p m c) t W.heap.size W' (HK.out W' (B5.trans (h5.mono B5.size))) (by have := h5.size; omega) (by omega))
    go_wp2_with fail
    refine (CLN.out).mono ?_
    rintro e w8 ⟨F, q, rfl, hq, hF, b8⟩
    obtain ⟨ka, kc, hkv⟩ := kidv_form F 0 t.len
    rw [hkv]
    obtain ⟨w9, hw9⟩ : ∃ w9, w8.alloc (.cells #[.int .i64 k, .int .i64 n, .slice ka t.len kc] 24) = w9 := ⟨_, rfl⟩
    have b9 : Below W'.heap.size W' w9 := by rw [← hw9]; exact b8.alloc b8.size _
    have hc9 : w9.heap[w8.heap.size]? = some (.cells #[.int .i64 k, .int .i64 n, .slice ka t.len kc] 24 (0, 0)) := by rw [← hw9]; exact heap_alloc_new w8 _
    have hq9 : Cloned w9 F t q := hq.below (by rw [← hw9]; exact Below.heap_alloc _ _ _ hq.blk) (by rw [← hw9]; simp)
    have h9 := h5.trans (b9.mono h5.size)
    have hFg : F < w8.heap.size := hq.blk
    have hz9 : w9.heap.size = w8.heap.size + 1 := by rw [← hw9]; simp
    have hz5' := h5.size
    have hz8 := b8.size
    obtain ⟨gc, hgc⟩ : ∃ gc, w8.heap.size = gc := ⟨_, rfl⟩
    rw [hgc] at hc9 hFg hz9 hz8
    replace hKD := (b9.block D (Array.getElem?_eq_some_iff.1 hKD).1).trans hKD
    have SM1 := Lib.hid (r13_same t t (.slice ka t.len kc) (.slice p m c) k n k n w9.heap.size w9 (by rw [← hkv]; exact hq9.kids (by omega) (by omega)) ((HK.out w9 (B5.trans (h9.mono B5.size))).mono (by have := h9.size; omega)) (Nat.le_refl _))
    rw [cmpN_self, show decide ((0 : Int) = 0) = true from rfl] at SM1
    clear x0 x1 x2 x3 b8 hq
    obtain ⟨x0, x1, x2, x3, _⟩ := MK.out w9 h9
    obtain ⟨y0, y1, y2, _, _, _⟩ := row_cells3 hc9
    go_wp2_with fail
    refine (SM1.out).mono ?_
    rintro e w10 ⟨rfl, b10⟩
    have h10 := h9.trans (b10.mono h9.size)
    replace hKD := (b10.block D (Array.getElem?_eq_some_iff.1 hKD).1).trans hKD
    have hc10 := (b10.block gc (by omega)).trans hc9
    have hq10 : Cloned w10 F t q := hq9.below (b10.block F (by omega)) b10.size
    have hz10 := b10.size
    clear x0 x1 x2 x3 y0 y1 y2
    obtain ⟨x0, x1, x2, x3, _⟩ := MK.out w10 h10
    obtain ⟨y0, y1, y2, _, _, _⟩ := row_cells3 hc10
    by_cases hm0 : 0 < m
    · have dm : decide ((0 : Int) < (m : Int)) = true := decide_eq_true (by omega)
      have htl : 0 < t.len := by rw [← HM.out]; exact hm0
      have hq1 : q[0]? = some ⟨t.k 0, t.n 0, t.kids 0⟩ := hq10.top 0 htl
      have hka : ka = some ⟨F, 0, none⟩ := by obtain ⟨lf, hlf⟩ : ∃ lf, t.len = lf + 1 := ⟨t.len - 1, by omega⟩; rw [hlf] at hkv; have h2 : Value.slice (some ⟨F, 0 * 3, none⟩) (lf + 1) (lf + 1) = _ := hkv; cases h2; rfl
      subst hka
      have cF : w10.cell? ⟨F, 1, none⟩ = some (.int .i64 (t.n 0)) := (hq10.laid 0 _ trivial hq1).2.1
      have fF : w10.frozen? ⟨F, 1, none⟩ = false := hq10.free 1
      obtain ⟨n1, hn1⟩ : ∃ n1, bits .xor .i64 (t.n 0) 1 = n1 := ⟨_, rfl⟩
      have hne1 : n1 ≠ t.n 0 := by rw [← hn1]; exact xor_one_ne _
      go_wp2_with fail
      go_region
      have hD10 := hDW
      obtain ⟨w11, hw11⟩ : ∃ w11, (w10.setCell ⟨F, 1, none⟩ (.int .i64 n1)).drew = w11 := ⟨_, rfl⟩
      have e11 : ∀ x, x ≠ F → w11.heap[x]? = w10.heap[x]? := fun x hx => by rw [← hw11]; exact heap_setCell_other w10 ⟨F, 1, none⟩ x _ hx
      have b11 : Below w5.heap.size w10 w11 := by rw [← hw11]; exact ((Below.refl _ w10).setCell (p := ⟨F, 1, none⟩) (show w5.heap.size ≤ F by omega) _).drew
      have h11 := h10.trans b11
      have hc11 := (e11 gc (by omega)).trans hc10
      replace hKD := (e11 D (by omega)).trans hKD
      have hz11 : w11.heap.size = w10.heap.size := by rw [← hw11]; simp
      have hk11 : Kids w11 w11.heap.size (.slice (some ⟨F, 0, none⟩) t.len kc) (t.setk 0 (t.k 0) n1 (t.kids 0)) := by have := clone_poke hq10 htl (by omega) n1; rw [hkv] at this; rw [← hw11]; exact this.carry ((Below.refl _ _).drew)
      have SM2 := Lib.hid (r13_same (t.setk 0 (t.k 0) n1 (t.kids 0)) t (.slice (some ⟨F, 0, none⟩) t.len kc) (.slice p m c) k n k n w11.heap.size w11 hk11 ((HK.out w11 (B5.trans (h11.mono B5.size))).mono (by have := h11.size; omega)) (Nat.le_refl _))
      rw [cmp_poke k n t htl n1 hne1] at SM2
      rw [hw11]
      clear x0 x1 x2 x3 y0 y1 y2 cF fF hk11 hq10 hq9 b9 b10
      clear hw11
      obtain ⟨x0, x1, x2, x3, _⟩ := MK.out w11 h11
      obtain ⟨y0, y1, y2, _, _, _⟩ := row_cells3 hc11
      go_wp2_with fail
      refine (SM2.out).mono ?_
      rintro e w12 ⟨rfl, b12⟩
      have h12 := h11.trans (b12.mono h11.size)
      replace hKD := (b12.block D (Array.getElem?_eq_some_iff.1 hKD).1).trans hKD
      clear x0 x1 x2 x3 y0 y1 y2
      go_wp2_with fail
      refine (LV.out _).mono ?_
      rintro e w13 ⟨rfl, b13⟩
      have h13 := h12.trans (b13.mono h12.size)
      replace hKD := (b13.block D (Array.getElem?_eq_some_iff.1 hKD).1).trans hKD
      have z2 := (h13.block _ (show W.heap.size + 1 + 1 < w5.heap.size by omega)).trans r25
      have c2 : w13.cell? ⟨W.heap.size + 1 + 1, 0, none⟩ = some (.bool false) := by rw [cell_of_row _ _ _ _ _ _ z2]; rfl
      have f2 : w13.frozen? ⟨W.heap.size + 1 + 1, 0, none⟩ = false := frozen_of_row _ _ _ _ _ z2
      have HDD := Lib.hid (show (w13.setCell ⟨W.heap.size + 1 + 1, 0, none⟩ (.bool true)).heap[D]? = some (.deferred (some [])) by rw [heap_setCell_other _ _ _ _ (by show D ≠ W.heap.size + 1 + 1; omega)]; exact hKD)
      have HE := Lib.hid (show ((w13.setCell ⟨W.heap.size + 1 + 1, 0, none⟩ (.bool true)).putObj D (.deferred none)).cell? ⟨W.heap.size + 1 + 1, 0, none⟩ = some (.bool true) ∧ Below W.heap.size W ((w13.setCell ⟨W.heap.size + 1 + 1, 0, none⟩ (.bool true)).putObj D (.deferred none)) from
        ⟨(World.cell?_of_block (a := ⟨W.heap.size + 1 + 1, 0, none⟩) (World.putObj_heap_other (by show W.heap.size + 1 + 1 ≠ D; omega))).trans (World.cell?_setCell_same _ _ _ c2), (((hB.trans (B5.mono hB.size)).trans (h13.mono (by omega))).setCell (p := ⟨W.heap.size + 1 + 1, 0, none⟩) (show W.heap.size ≤ W.heap.size + 1 + 1 by omega) _).trans ((Below.refl _ _).grown (grownBy_putObj' _ D _) (by have := (Array.getElem?_eq_some_iff.1 HDD.out).1; omega) (fun k e => by cases e; omega))⟩)
      clear hKD z2
      go_wp2_with fail
      refine ⟨by simp, .inl ⟨_, _, rfl, run_takeDeferred HDD.out, ?_⟩⟩
      exact ⟨_, results_cell1 rfl _ _ _ _ rfl HE.out.1, rfl, HE.out.2⟩
    · have dm : decide ((0 : Int) < (m : Int)) = false := decide_eq_false (by omega)
      go_wp2_with fail
      refine (LV.out _).mono ?_
      rintro e w11 ⟨rfl, b11⟩
      have h11 := h10.trans (b11.mono h10.size)
      replace hKD := (b11.block D (Array.getElem?_eq_some_iff.1 hKD).1).trans hKD
      clear x0 x1 x2 x3 y0 y1 y2
      have z2 := (h11.block _ (show W.heap.size + 1 + 1 < w5.heap.size by omega)).trans r25
      have c2 : w11.cell? ⟨W.heap.size + 1 + 1, 0, none⟩ = some (.bool false) := by rw [cell_of_row _ _ _ _ _ _ z2]; rfl
      have f2 : w11.frozen? ⟨W.heap.size + 1 + 1, 0, none⟩ = false := frozen_of_row _ _ _ _ _ z2
      have HDD := Lib.hid (show (w11.setCell ⟨W.heap.size + 1 + 1, 0, none⟩ (.bool true)).heap[D]? = some (.deferred (some [])) by rw [heap_setCell_other _ _ _ _ (by show D ≠ W.heap.size + 1 + 1; omega)]; exact hKD)
      have HE := Lib.hid (show ((w11.setCell ⟨W.heap.size + 1 + 1, 0, none⟩ (.bool true)).putObj D (.deferred none)).cell? ⟨W.heap.size + 1 + 1, 0, none⟩ = some (.bool true) ∧ Below W.heap.size W ((w11.setCell ⟨W.heap.size + 1 + 1, 0, none⟩ (.bool true)).putObj D (.deferred none)) from
        ⟨(World.cell?_of_block (a := ⟨W.heap.size + 1 + 1, 0, none⟩) (World.putObj_heap_other (by show W.heap.size + 1 + 1 ≠ D; omega))).trans (World.cell?_setCell_same _ _ _ c2), (((hB.trans (B5.mono hB.size)).trans (h11.mono (by omega))).setCell (p := ⟨W.heap.size + 1 + 1, 0, none⟩) (show W.heap.size ≤ W.heap.size + 1 + 1 by omega) _).trans ((Below.refl _ _).grown (grownBy_putObj' _ D _) (by have := (Array.getElem?_eq_some_iff.1 HDD.out).1; omega) (fun k e => by cases e; omega))⟩)
      clear hKD z2
      go_wp2_with fail
      refine ⟨by simp, .inl ⟨_, _, rfl, run_takeDeferred HDD.out, ?_⟩⟩
      exact ⟨_, results_cell1 rfl _ _ _ _ rfl HE.out.1, rfl, HE.out.2⟩
  case stop =>
    rintro D cc pre W' hD ⟨r, hr⟩ ⟨rfl, hbW, hnb, hst1⟩ hKD
    clear hseq
    have r25 := (B5.block (W.heap.size + 1 + 1) (by omega)).trans r2
    have h5 := GETE.out W' hbW
    have sb := (h5.block _ (show W.heap.size + 1 < w5.heap.size by omega)).trans ((B5.block _ (by omega)).trans r1)
    have stc : W'.cell? ⟨W.heap.size + 1, 0, none⟩ = some (.int .u8 st) := by rw [cell_of_row _ _ _ _ _ _ sb]; rfl
    have nb := hnb.cell
    refine wpIn_wide.2 ?_
    by_cases hN : pre.length = t.cnt + 1
    · rw [hN] at nb
      obtain ⟨x0, x1, x2, x3, _⟩ := MK.out W' h5
      have hDW := (Array.getElem?_eq_some_iff.1 hKD).1
      have CLN := Lib.hid (desc_clone k n (.slice p m c) t W.heap.size W' (HK.out W' (B5.trans (h5.mono B5.size))) (by have := h5.size; omega) (by omega))
      go_wp2_with fail
      refine (CLN.out).mono ?_
      rintro e w8 ⟨F, q, rfl, hq, hF, b8⟩
      obtain ⟨ka, kc, hkv⟩ := kidv_form F 0 t.len
      rw [hkv]
      obtain ⟨w9, hw9⟩ : ∃ w9, w8.alloc (.cells #[.int .i64 k, .int .i64 n, .slice ka t.len kc] 24) = w9 := ⟨_, rfl⟩
      have b9 : Below W'.heap.size W' w9 := by rw [← hw9]; exact b8.alloc b8.size _
      have hc9 : w9.heap[w8.heap.size]? = some (.cells #[.int .i64 k, .int .i64 n, .slice ka t.len kc] 24 (0, 0)) := by rw [← hw9]; exact heap_alloc_new w8 _
      have hq9 : Cloned w9 F t q := hq.below (by rw [← hw9]; exact Below.heap_alloc _ _ _ hq.blk) (by rw [← hw9]; simp)
      have h9 := h5.trans (b9.mono h5.size)
      have hFg : F < w8.heap.size := hq.blk
      have hz9 : w9.heap.size = w8.heap.size + 1 := by rw [← hw9]; simp
      have hz5' := h5.size
      have hz8 := b8.size
      obtain ⟨gc, hgc⟩ : ∃ gc, w8.heap.size = gc := ⟨_, rfl⟩
      rw [hgc] at hc9 hFg hz9 hz8
      replace hKD := (b9.block D (Array.getElem?_eq_some_iff.1 hKD).1).trans hKD
      have SM1 := Lib.hid (r13_same t t (.slice ka t.len kc) (.slice p m c) k n k n w9.heap.size w9 (by rw [← hkv]; exact hq9.kids (by omega) (by omega)) ((HK.out w9 (B5.trans (h9.mono B5.size))).mono (by have := h9.size; omega)) (Nat.le_refl _))
      rw [cmpN_self, show decide ((0 : Int) = 0) = true from rfl] at SM1
      clear x0 x1 x2 x3 b8 hq
      obtain ⟨x0, x1, x2, x3, _⟩ := MK.out w9 h9
      obtain ⟨y0, y1, y2, _, _, _⟩ := row_cells3 hc9
      go_wp2_with fail
      refine (SM1.out).mono ?_
      rintro e w10 ⟨rfl, b10⟩
      have h10 := h9.trans (b10.mono h9.size)
      replace hKD := (b10.block D (Array.getElem?_eq_some_iff.1 hKD).1).trans hKD
      have hc10 := (b10.block gc (by omega)).trans hc9
      have hq10 : Cloned w10 F t q := hq9.below (b10.block F (by omega)) b10.size
      have hz10 := b10.size
      clear x0 x1 x2 x3 y0 y1 y2
      obtain ⟨x0, x1, x2, x3, _⟩ := MK.out w10 h10
      obtain ⟨y0, y1, y2, _, _, _⟩ := row_cells3 hc10
      by_cases hm0 : 0 < m
      · have dm : decide ((0 : Int) < (m : Int)) = true := decide_eq_true (by omega)
        have htl : 0 < t.len := by rw [← HM.out]; exact hm0
        have hq1 : q[0]? = some ⟨t.k 0, t.n 0, t.kids 0⟩ := hq10.top 0 htl
        have hka : ka = some ⟨F, 0, none⟩ := by obtain ⟨lf, hlf⟩ : ∃ lf, t.len = lf + 1 := ⟨t.len - 1, by omega⟩; rw [hlf] at hkv; have h2 : Value.slice (some ⟨F, 0 * 3, none⟩) (lf + 1) (lf + 1) = _ := hkv; cases h2; rfl
        subst hka
        have cF : w10.cell? ⟨F, 1, none⟩ = some (.int .i64 (t.n 0)) := (hq10.laid 0 _ trivial hq1).2.1
        have fF : w10.frozen? ⟨F, 1, none⟩ = false := hq10.free 1
        obtain ⟨n1, hn1⟩ : ∃ n1, bits .xor .i64 (t.n 0) 1 = n1 := ⟨_, rfl⟩
        have hne1 : n1 ≠ t.n 0 := by rw [← hn1]; exact xor_one_ne _
        go_wp2_with fail
        go_region
        have hD10 := hDW
        obtain ⟨w11, hw11⟩ : ∃ w11, (w10.setCell ⟨F, 1, none⟩ (.int .i64 n1)).drew = w11 := ⟨_, rfl⟩
        have e11 : ∀ x, x ≠ F → w11.heap[x]? = w10.heap[x]? := fun x hx => by rw [← hw11]; exact heap_setCell_other w10 ⟨F, 1, none⟩ x _ hx
        have b11 : Below w5.heap.size w10 w11 := by rw [← hw11]; exact ((Below.refl _ w10).setCell (p := ⟨F, 1, none⟩) (show w5.heap.size ≤ F by omega) _).drew
        have h11 := h10.trans b11
        have hc11 := (e11 gc (by omega)).trans hc10
        replace hKD := (e11 D (by omega)).trans hKD
        have hz11 : w11.heap.size = w10.heap.size := by rw [← hw11]; simp
        have hk11 : Kids w11 w11.heap.size (.slice (some ⟨F, 0, none⟩) t.len kc) (t.setk 0 (t.k 0) n1 (t.kids 0)) := by have := clone_poke hq10 htl (by omega) n1; rw [hkv] at this; rw [← hw11]; exact this.carry ((Below.refl _ _).drew)
        have SM2 := Lib.hid (r13_same (t.setk 0 (t.k 0) n1 (t.kids 0)) t (.slice (some ⟨F, 0, none⟩) t.len kc) (.slice p m c) k n k n w11.heap.size w11 hk11 ((HK.out w11 (B5.trans (h11.mono B5.size))).mono (by have := h11.size; omega)) (Nat.le_refl _))
        rw [cmp_poke k n t htl n1 hne1] at SM2
        rw [hw11]
        clear x0 x1 x2 x3 y0 y1 y2 cF fF hk11 hq10 hq9 b9 b10
        clear hw11
        obtain ⟨x0, x1, x2, x3, _⟩ := MK.out w11 h11
        obtain ⟨y0, y1, y2, _, _, _⟩ := row_cells3 hc11
        go_wp2_with fail
        refine (SM2.out).mono ?_
        rintro e w12 ⟨rfl, b12⟩
        have h12 := h11.trans (b12.mono h11.size)
        replace hKD := (b12.block D (Array.getElem?_eq_some_iff.1 hKD).1).trans hKD
        clear x0 x1 x2 x3 y0 y1 y2
        go_wp2_with fail
        refine (LV.out _).mono ?_
        rintro e w13 ⟨rfl, b13⟩
        have h13 := h12.trans (b13.mono h12.size)
        replace hKD := (b13.block D (Array.getElem?_eq_some_iff.1 hKD).1).trans hKD
        have z2 := (h13.block _ (show W.heap.size + 1 + 1 < w5.heap.size by omega)).trans r25
        have c2 : w13.cell? ⟨W.heap.size + 1 + 1, 0, none⟩ = some (.bool false) := by rw [cell_of_row _ _ _ _ _ _ z2]; rfl
        have f2 : w13.frozen? ⟨W.heap.size + 1 + 1, 0, none⟩ = false := frozen_of_row _ _ _ _ _ z2
        have HDD := Lib.hid (show (w13.setCell ⟨W.heap.size + 1 + 1, 0, none⟩ (.bool true)).heap[D]? = some (.deferred (some [])) by rw [heap_setCell_other _ _ _ _ (by show D ≠ W.heap.size + 1 + 1; omega)]; exact hKD)
        have HE := Lib.hid (show ((w13.setCell ⟨W.heap.size + 1 + 1, 0, none⟩ (.bool true)).putObj D (.deferred none)).cell? ⟨W.heap.size + 1 + 1, 0, none⟩ = some (.bool true) ∧ Below W.heap.size W ((w13.setCell ⟨W.heap.size + 1 + 1, 0, none⟩ (.bool true)).putObj D (.deferred none)) from
          ⟨(World.cell?_of_block (a := ⟨W.heap.size + 1 + 1, 0, none⟩) (World.putObj_heap_other (by show W.heap.size + 1 + 1 ≠ D; omega))).trans (World.cell?_setCell_same _ _ _ c2), (((hB.trans (B5.mono hB.size)).trans (h13.mono (by omega))).setCell (p := ⟨W.heap.size + 1 + 1, 0, none⟩) (show W.heap.size ≤ W.heap.size + 1 + 1 by omega) _).trans ((Below.refl _ _).grown (grownBy_putObj' _ D _) (by have := (Array.getElem?_eq_some_iff.1 HDD.out).1; omega) (fun k e => by cases e; omega))⟩)
        clear hKD z2
        go_wp2_with fail
        refine ⟨by simp, .inl ⟨_, _, rfl, run_takeDeferred HDD.out, ?_⟩⟩
        exact ⟨_, results_cell1 rfl _ _ _ _ rfl HE.out.1, rfl, HE.out.2⟩
      · have dm : decide ((0 : Int) < (m : Int)) = false := decide_eq_false (by omega)
        go_wp2_with fail
        refine (LV.out _).mono ?_
        rintro e w11 ⟨rfl, b11⟩
        have h11 := h10.trans (b11.mono h10.size)
        replace hKD := (b11.block D (Array.getElem?_eq_some_iff.1 hKD).1).trans hKD
        clear x0 x1 x2 x3 y0 y1 y2
        have z2 := (h11.block _ (show W.heap.size + 1 + 1 < w5.heap.size by omega)).trans r25
        have c2 : w11.cell? ⟨W.heap.size + 1 + 1, 0, none⟩ = some (.bool false) := by rw [cell_of_row _ _ _ _ _ _ z2]; rfl
        have f2 : w11.frozen? ⟨W.heap.size + 1 + 1, 0, none⟩ = false := frozen_of_row _ _ _ _ _ z2
        have HDD := Lib.hid (show (w11.setCell ⟨W.heap.size + 1 + 1, 0, none⟩ (.bool true)).heap[D]? = some (.deferred (some [])) by rw [heap_setCell_other _ _ _ _ (by show D ≠ W.heap.size + 1 + 1; omega)]; exact hKD)
        have HE := Lib.hid (show ((w11.setCell ⟨W.heap.size + 1 + 1, 0, none⟩ (.bool true)).putObj D (.deferred none)).cell? ⟨W.heap.size + 1 + 1, 0, none⟩ = some (.bool true) ∧ Below W.heap.size W ((w11.setCell ⟨W.heap.size + 1 + 1, 0, none⟩ (.bool true)).putObj D (.deferred none)) from
          ⟨(World.cell?_of_block (a := ⟨W.heap.size + 1 + 1, 0, none⟩) (World.putObj_heap_other (by show W.heap.size + 1 + 1 ≠ D; omega))).trans (World.cell?_setCell_same _ _ _ c2), (((hB.trans (B5.mono hB.size)).trans (h11.mono (by omega))).setCell (p := ⟨W.heap.size + 1 + 1, 0, none⟩) (show W.heap.size ≤ W.heap.size + 1 + 1 by omega) _).trans ((Below.refl _ _).grown (grownBy_putObj' _ D _) (by have := (Array.getElem?_eq_some_iff.1 HDD.out).1; omega) (fun k e => by cases e; omega))⟩)
        clear hKD z2
        go_wp2_with fail
        refine ⟨by simp, .inl ⟨_, _, rfl, run_takeDeferred HDD.out, ?_⟩⟩
        exact ⟨_, results_cell1 rfl _ _ _ _ rfl HE.out.1, rfl, HE.out.2⟩
    · rw [hst1] at nb
      have dN : (st + 1 == ((t.cnt : Int) + 1)) = false := by simp; omega
      have dN2 : (st + 1 != ((t.cnt : Int) + 1)) = true := by simp; omega
      have wst : IntKind.i64.wrap (st + 1) = st + 1 := IntWalk.i64_in _ (by omega)
      obtain ⟨x0, x1, x2, x3, _⟩ := MK.out W' h5
      have hDW := (Array.getElem?_eq_some_iff.1 hKD).1
      have CLN := Lib.hid (desc_clone k n (.slice p m c) t W.heap.size W' (HK.out W' (B5.trans (h5.mono B5.size))) (by have := h5.size; omega) (by omega))
      go_wp2_with fail
      refine (CLN.out).mono ?_
      rintro e w8 ⟨F, q, rfl, hq, hF, b8⟩
      obtain ⟨ka, kc, hkv⟩ := kidv_form F 0 t.len
      rw [hkv]
      obtain ⟨w9, hw9⟩ : ∃ w9, w8.alloc (.cells #[.int .i64 k, .int .i64 n, .slice ka t.len kc] 24) = w9 := ⟨_, rfl⟩
      have b9 : Below W'.heap.size W' w9 := by rw [← hw9]; exact b8.alloc b8.size _
      have hc9 : w9.heap[w8.heap.size]? = some (.cells #[.int .i64 k, .int .i64 n, .slice ka t.len kc] 24 (0, 0)) := by rw [← hw9]; exact heap_alloc_new w8 _
      have hq9 : Cloned w9 F t q := hq.below (by rw [← hw9]; exact Below.heap_alloc _ _ _ hq.blk) (by rw [← hw9]; simp)
      have h9 := h5.trans (b9.mono h5.size)
      have hFg : F < w8.heap.size := hq.blk
      have hz9 : w9.heap.size = w8.heap.size + 1 := by rw [← hw9]; simp
      have hz5' := h5.size
      have hz8 := b8.size
      obtain ⟨gc, hgc⟩ : ∃ gc, w8.heap.size = gc := ⟨_, rfl⟩
      rw [hgc] at hc9 hFg hz9 hz8
      replace hKD := (b9.block D (Array.getElem?_eq_some_iff.1 hKD).1).trans hKD
      have SM1 := Lib.hid (r13_same t t (.slice ka t.len kc) (.slice p m c) k n k n w9.heap.size w9 (by rw [← hkv]; exact hq9.kids (by omega) (by omega)) ((HK.out w9 (B5.trans (h9.mono B5.size))).mono (by have := h9.size; omega)) (Nat.le_refl _))
      rw [cmpN_self, show decide ((0 : Int) = 0) = true from rfl] at SM1
      clear x0 x1 x2 x3 b8 hq
      obtain ⟨x0, x1, x2, x3, _⟩ := MK.out w9 h9
      obtain ⟨y0, y1, y2, _, _, _⟩ := row_cells3 hc9
      go_wp2_with fail
      refine (SM1.out).mono ?_
      rintro e w10 ⟨rfl, b10⟩
      have h10 := h9.trans (b10.mono h9.size)
      replace hKD := (b10.block D (Array.getElem?_eq_some_iff.1 hKD).1).trans hKD
      have hc10 := (b10.block gc (by omega)).trans hc9
      have hq10 : Cloned w10 F t q := hq9.below (b10.block F (by omega)) b10.size
      have hz10 := b10.size
      clear x0 x1 x2 x3 y0 y1 y2
      obtain ⟨x0, x1, x2, x3, _⟩ := MK.out w10 h10
      obtain ⟨y0, y1, y2, _, _, _⟩ := row_cells3 hc10
      by_cases hm0 : 0 < m
      · have dm : decide ((0 : Int) < (m : Int)) = true := decide_eq_true (by omega)
        have htl : 0 < t.len := by rw [← HM.out]; exact hm0
        have hq1 : q[0]? = some ⟨t.k 0, t.n 0, t.kids 0⟩ := hq10.top 0 htl
        have hka : ka = some ⟨F, 0, none⟩ := by obtain ⟨lf, hlf⟩ : ∃ lf, t.len = lf + 1 := ⟨t.len - 1, by omega⟩; rw [hlf] at hkv; have h2 : Value.slice (some ⟨F, 0 * 3, none⟩) (lf + 1) (lf + 1) = _ := hkv; cases h2; rfl
        subst hka
        have cF : w10.cell? ⟨F, 1, none⟩ = some (.int .i64 (t.n 0)) := (hq10.laid 0 _ trivial hq1).2.1
        have fF : w10.frozen? ⟨F, 1, none⟩ = false := hq10.free 1
        obtain ⟨n1, hn1⟩ : ∃ n1, bits .xor .i64 (t.n 0) 1 = n1 := ⟨_, rfl⟩
        have hne1 : n1 ≠ t.n 0 := by rw [← hn1]; exact xor_one_ne _
        go_wp2_with fail
        go_region
        have hD10 := hDW
        obtain ⟨w11, hw11⟩ : ∃ w11, (w10.setCell ⟨F, 1, none⟩ (.int .i64 n1)).drew = w11 := ⟨_, rfl⟩
        have e11 : ∀ x, x ≠ F → w11.heap[x]? = w10.heap[x]? := fun x hx => by rw [← hw11]; exact heap_setCell_other w10 ⟨F, 1, none⟩ x _ hx
        have b11 : Below w5.heap.size w10 w11 := by rw [← hw11]; exact ((Below.refl _ w10).setCell (p := ⟨F, 1, none⟩) (show w5.heap.size ≤ F by omega) _).drew
        have h11 := h10.trans b11
        have hc11 := (e11 gc (by omega)).trans hc10
        replace hKD := (e11 D (by omega)).trans hKD
        have hz11 : w11.heap.size = w10.heap.size := by rw [← hw11]; simp
        have hk11 : Kids w11 w11.heap.size (.slice (some ⟨F, 0, none⟩) t.len kc) (t.setk 0 (t.k 0) n1 (t.kids 0)) := by have := clone_poke hq10 htl (by omega) n1; rw [hkv] at this; rw [← hw11]; exact this.carry ((Below.refl _ _).drew)
        have SM2 := Lib.hid (r13_same (t.setk 0 (t.k 0) n1 (t.kids 0)) t (.slice (some ⟨F, 0, none⟩) t.len kc) (.slice p m c) k n k n w11.heap.size w11 hk11 ((HK.out w11 (B5.trans (h11.mono B5.size))).mono (by have := h11.size; omega)) (Nat.le_refl _))
        rw [cmp_poke k n t htl n1 hne1] at SM2
        rw [hw11]
        clear x0 x1 x2 x3 y0 y1 y2 cF fF hk11 hq10 hq9 b9 b10
        clear hw11
        obtain ⟨x0, x1, x2, x3, _⟩ := MK.out w11 h11
        obtain ⟨y0, y1, y2, _, _, _⟩ := row_cells3 hc11
        go_wp2_with fail
        refine (SM2.out).mono ?_
        rintro e w12 ⟨rfl, b12⟩
        have h12 := h11.trans (b12.mono h11.size)
        replace hKD := (b12.block D (Array.getElem?_eq_some_iff.1 hKD).1).trans hKD
        clear x0 x1 x2 x3 y0 y1 y2
        go_wp2_with fail
        refine (LV.out _).mono ?_
        rintro e w13 ⟨rfl, b13⟩
        have h13 := h12.trans (b13.mono h12.size)
        replace hKD := (b13.block D (Array.getElem?_eq_some_iff.1 hKD).1).trans hKD
        have z2 := (h13.block _ (show W.heap.size + 1 + 1 < w5.heap.size by omega)).trans r25
        have c2 : w13.cell? ⟨W.heap.size + 1 + 1, 0, none⟩ = some (.bool false) := by rw [cell_of_row _ _ _ _ _ _ z2]; rfl
        have f2 : w13.frozen? ⟨W.heap.size + 1 + 1, 0, none⟩ = false := frozen_of_row _ _ _ _ _ z2
        have HDD := Lib.hid (show (w13.setCell ⟨W.heap.size + 1 + 1, 0, none⟩ (.bool true)).heap[D]? = some (.deferred (some [])) by rw [heap_setCell_other _ _ _ _ (by show D ≠ W.heap.size + 1 + 1; omega)]; exact hKD)
        have HE := Lib.hid (show ((w13.setCell ⟨W.heap.size + 1 + 1, 0, none⟩ (.bool true)).putObj D (.deferred none)).cell? ⟨W.heap.size + 1 + 1, 0, none⟩ = some (.bool true) ∧ Below W.heap.size W ((w13.setCell ⟨W.heap.size + 1 + 1, 0, none⟩ (.bool true)).putObj D (.deferred none)) from
          ⟨(World.cell?_of_block (a := ⟨W.heap.size + 1 + 1, 0, none⟩) (World.putObj_heap_other (by show W.heap.size + 1 + 1 ≠ D; omega))).trans (World.cell?_setCell_same _ _ _ c2), (((hB.trans (B5.mono hB.size)).trans (h13.mono (by omega))).setCell (p := ⟨W.heap.size + 1 + 1, 0, none⟩) (show W.heap.size ≤ W.heap.size + 1 + 1 by omega) _).trans ((Below.refl _ _).grown (grownBy_putObj' _ D _) (by have := (Array.getElem?_eq_some_iff.1 HDD.out).1; omega) (fun k e => by cases e; omega))⟩)
        clear hKD z2
        go_wp2_with fail
        refine ⟨by simp, .inl ⟨_, _, rfl, run_takeDeferred HDD.out, ?_⟩⟩
        exact ⟨_, results_cell1 rfl _ _ _ _ rfl HE.out.1, rfl, HE.out.2⟩
      · have dm : decide ((0 : Int) < (m : Int)) = false := decide_eq_false (by omega)
        go_wp2_with fail
        refine (LV.out _).mono ?_
        rintro e w11 ⟨rfl, b11⟩
        have h11 := h10.trans (b11.mono h10.size)
        replace hKD := (b11.block D (Array.getElem?_eq_some_iff.1 hKD).1).trans hKD
        clear x0 x1 x2 x3 y0 y1 y2
        have z2 := (h11.block _ (show W.heap.size + 1 + 1 < w5.heap.size by omega)).trans r25
        have c2 : w11.cell? ⟨W.heap.size + 1 + 1, 0, none⟩ = some (.bool false) := by rw [cell_of_row _ _ _ _ _ _ z2]; rfl
        have f2 : w11.frozen? ⟨W.heap.size + 1 + 1, 0, none⟩ = false := frozen_of_row _ _ _ _ _ z2
        have HDD := Lib.hid (show (w11.setCell ⟨W.heap.size + 1 + 1, 0, none⟩ (.bool true)).heap[D]? = some (.deferred (some [])) by rw [heap_setCell_other _ _ _ _ (by show D ≠ W.heap.size + 1 + 1; omega)]; exact hKD)
        have HE := Lib.hid (show ((w11.setCell ⟨W.heap.size + 1 + 1, 0, none⟩ (.bool true)).putObj D (.deferred none)).cell? ⟨W.heap.size + 1 + 1, 0, none⟩ = some (.bool true) ∧ Below W.heap.size W ((w11.setCell ⟨W.heap.size + 1 + 1, 0, none⟩ (.bool true)).putObj D (.deferred none)) from
          ⟨(World.cell?_of_block (a := ⟨W.heap.size + 1 + 1, 0, none⟩) (World.putObj_heap_other (by show W.heap.size + 1 + 1 ≠ D; omega))).trans (World.cell?_setCell_same _ _ _ c2), (((hB.trans (B5.mono hB.size)).trans (h11.mono (by omega))).setCell (p := ⟨W.heap.size + 1 + 1, 0, none⟩) (show W.heap.size ≤ W.heap.size + 1 + 1 by omega) _).trans ((Below.refl _ _).grown (grownBy_putObj' _ D _) (by have := (Array.getElem?_eq_some_iff.1 HDD.out).1; omega) (fun k e => by cases e; omega))⟩)
        clear hKD z2
        go_wp2_with fail
        refine ⟨by simp, .inl ⟨_, _, rfl, run_takeDeferred HDD.out, ?_⟩⟩
        exact ⟨_, results_cell1 rfl _ _ _ _ rfl HE.out.1, rfl, HE.out.2⟩
theorem walk (W : World) (dk0 dn0 : Int) (s0 : Value) (t0 : Fo) (hK0 : Kids W W.heap.size s0 t0) (wf0 : t0.wf) (wk0 : -9223372036854775808 ≤ dk0 ∧ dk0 ≤ 9223372036854775807) (wn0 : -9223372036854775808 ≤ dn0 ∧ dn0 ≤ 9223372036854775807) (hN0 : t0.cnt + 1 ≤ 1048576) (a1 : Int) (w1 : 0 ≤ a1 ∧ a1 ≤ 255) :
    Calls Try.prog 3 #[.agg #[.int .i64 dk0, .int .i64 dn0, s0], .int .u8 a1] W fun e W' => e = .returned (.bool true) ∧ Below W.heap.size W W' :=
  main dk0 dn0 a1 s0 t0 W hK0 (by omega) w1
end descTells
end Go.Proofs.Ytfjioflggkmhcaa
