/- package root's Sizes. -/
import Derived.Test.YtcbiennifmfkgaaSizit
import Derived.Test.YtcbiennifmfkgaaSortz
namespace Go.Proofs.Ytcbiennifmfkgaa
open Go.ChangeShapes Go.WideShapes Go.ChangeAt Go.RowKit
set_option linter.unusedVariables false
open Go.Shelf
set_option linter.unusedSimpArgs false
attribute [local go_sem] Oper.semAt_some
theorem root_szs (g : Nat) (mm : Int) (w : World) :
    Calls Try.prog 8 #[.int .i64 mm] w fun e w' => e = .returned (.func (.func 12) #[] #[.pointer (some ⟨w.heap.size, 0, none⟩)]) ∧ w' = w.alloc (.cells #[.int .i64 mm] 3) := by
  go_enter Try.func8, Try.ntmps8
  go_wp2_with fail
  go_ret
  exact ⟨rfl, rfl⟩
/-- 'append(l, y)' within a round. -/
theorem append_one_in {F : Fence} {n : Nat} {ops : Array Oper} {rest : List Oper} {o : Oper} {a : Act} {Q : Exit → Act → World → Prop} {W : World} {B : Nat} {v : Value} {ys : List Int} {y : Int} (hgd : o.guard = none) (s x : Operand)
    (ho : o.op = .call { callee := .builtin .append, args := #[s, x], argTypes := #[22, 22] }) (hs : a.eval s = v) (hown : Owns W B 3 .i64 v ys) (hx : a.eval x = .slice (some ⟨W.heap.size, 0, none⟩) 1 1) (hB : B ≤ W.heap.size) (hlen : ys.length < 17592186044415)
    (h : ∀ g n' c w', Owns w' B 3 .i64 (.slice (some ⟨g, 0, none⟩) n' c) (ys ++ [y]) → Below B W w' → wpListIn F n Try.prog ops Q rest (a.put o.dst (.slice (some ⟨g, 0, none⟩) n' c)) w') : wpListIn F n Try.prog ops Q (o :: rest) a (W.alloc (.cells #[.int .i64 y] 3)) := by
  obtain ⟨i0, hi, hz0, hz1, hz2⟩ := info_parts info_i64
  refine wpListIn_append_own _ hgd s x 22 ho B 3 i0 (.int .i64 0) 1 8 Try.underlying22 hi hz0 hz1 hz2 rfl (by decide) v ys.length (ys.map (Value.int .i64)) hs (hown.alloc _) ⟨W.heap.size, 0, none⟩ 1 1 [.int .i64 y] hx rfl ?_ ?_ ?_ ?_ ?_ ?_
  · intro j u hj
    match j, hj with
    | 0, hj => simp at hj; subst hj; simp [Addr.add, go_sem]
  · intro u hu; simp at hu; subst hu; rfl
  · unfold maxLen; omega
  · omega
  · simp; omega
  · intro v' w' h1 h2 _
    have h3 := owns_snoc h1
    obtain ⟨a', c', rfl, hr, h4, h5⟩ := h3.shape
    rcases h1.2 with ⟨e, he⟩ | ⟨g, cap, cur, e, _⟩
    · omega
    · rw [e] at h3 ⊢
      exact h g _ cap w' h3 (below_grow (Below.refl _ _) hown hB _ h2)
set_option maxRecDepth 100000 in
set_option maxHeartbeats 4000000 in
theorem root_sizes_of (most mm : Int) (W : World) (h0 : -9223372036854775808 ≤ most) (hmm : min most 16777216 = mm) :
    Calls Try.prog 4 #[.int .i64 most] W fun e w' => ∃ v, e = .returned v ∧ Owns w' W.heap.size 3 .i64 v ((ints (sizL mm.toNat)).mergeSort fun x y => decide (x ≤ y)) ∧ Below W.heap.size W w' := by
  have hm1 : mm ≤ 16777216 := by omega
  have hm2 : -9223372036854775808 ≤ mm := by omega
  have SZ := Lib.hid (root_szs 0 mm (W.alloc (.cells #[.slice none 0 0] 22)))
  obtain ⟨w2, hw2⟩ : ∃ w2, (W.alloc (.cells #[.slice none 0 0] 22)).alloc (.cells #[.int .i64 mm] 3) = w2 := ⟨_, rfl⟩
  have hB2 : Below W.heap.size W w2 := by rw [← hw2]; exact ((Below.refl _ W).alloc (Nat.le_refl _) _).alloc (by simp) _
  have hs2 : w2.heap.size = W.heap.size + 2 := by rw [← hw2]; simp
  have hL2 : Bx w2 W.heap.size 22 (.slice none 0 0) := by rw [← hw2]; exact (Bx.new W 22 _ _ rfl).alloc _
  have hM2 : w2.cell? ⟨W.heap.size + 1, 0, none⟩ = some (.int .i64 mm) := by
    have h := Bx.new (W.alloc (.cells #[.slice none 0 0] 22)) 3 (.int .i64 mm) _ rfl
    rw [hw2, World.size_alloc] at h
    exact h.cell
  have HW2 := Lib.hid hw2
  clear hw2
  refine (callsIn_wide (n := 20)).1 ?_
  refine callsIn_of_wp_marks Try.func4 rfl trivial ?_ rfl
  simp only [Try.ntmps4, List.size_toArray, List.length_cons, List.length_nil, Nat.reduceAdd, Nat.reduceSub, Array.replicate_succ, Array.replicate_zero, List.push_toArray, List.append_toArray, List.nil_append, List.cons_append]
  refine wpIn_wide.2 ?_
  go_wp2_with fail
  refine (SZ.out).mono ?_
  rintro e w1 ⟨rfl, rfl⟩
  rw [HW2.out, World.size_alloc]
  go_wp2_with fail
  refine (wpIn_wide (n := 20)).1 ?_
  refine wp_range_to rfl (by omega) (gf := 12) (lb := #[.pointer (some ⟨W.heap.size + 1, 0, none⟩)]) rfl trivial (enters_of Try.func12 (by kernel_rfl) rfl)
    (sizes_to (20 - 1) (by omega) (W.heap.size + 1) mm w2 hm1 hm2 hM2) (by omega) (Below.refl _ _) (fun _ => rfl)
    (fun T pre W' => (∃ v, Bx W' W.heap.size 22 v ∧ Owns W' T 3 .i64 v (ints pre)) ∧ Below W.heap.size W W' ∧ W.heap.size + 2 ≤ T)
    (fun T pre A l o o' hl ho hc ⟨⟨v, h1, h2⟩, h3, h4⟩ => ⟨⟨v, by unfold Bx; rw [World.putObj_heap_other (by omega)]; exact h1, ownsRow_putObj h2 o' ho hc⟩, h3.grown (grownBy_putObj' A l o') (by have := (Array.getElem?_eq_some_iff.1 ho).1; omega) (fun k e => by cases e; omega), h4⟩)
    (fun C hC => ⟨⟨_, by unfold Bx; rw [hC.block _ (by omega)]; exact hL2, World.ownsRow_nil C C.heap.size 3 1⟩, hB2.trans (hC.mono (by omega)), by have := hC.size; omega⟩)
    (fun x => { tmps := #[.int .i64 most, undef, .slice none 0 0, .pointer (some ⟨W.heap.size, 0, none⟩), .int .i64 (x : Int), .int .i64 most, .int .i64 mm, .func (.func 12) #[] #[.pointer (some ⟨W.heap.size + 1, 0, none⟩)], .int .i64 (x : Int), undef, undef, undef, undef, undef, undef, undef], defers := [] })
    ?assign ?body ?done
  case assign =>
    rintro l2 x W' K hK
    dsimp only [encI] at hK ⊢
    gi_wp2
    exact hK
  case body =>
    rintro l2 T pre x W' ⟨⟨v, hb, ho⟩, hB, hT3⟩ ⟨r, hr⟩ hT1 hT2
    have cb := hb.cell
    have fb : W'.frozen? ⟨W.heap.size, 0, none⟩ = false := frozen_of_row _ _ _ _ _ hb
    have hlen : (ints pre).length < 17592186044415 := by
      rw [ints_len]
      have h1 := congrArg List.length hr
      rw [List.length_append, siz_len (by omega)] at h1
      have h2 : ∀ k, cntS k ≤ k := fun k => by
        induction k with
        | zero => exact Nat.le_refl _
        | succ k ih => unfold cntS; split <;> omega
      have := h2 mm.toNat
      omega
    have HO := Lib.hid ho
    have HB := Lib.hid hb
    have HBB := Lib.hid hB
    clear hb ho hB
    gi_wp2_with (gi_at_builtin; refine append_one_in (y := (x : Int)) rfl _ _ rfl rfl HO.out rfl hT2 hlen ?_; intro g' n' c' w5 hO5 hB5; have HO5 := Lib.hid hO5; have HB5 := Lib.hid hB5; have hb5 : Bx w5 W.heap.size 22 v := (by unfold Bx; rw [hB5.block _ (by omega)]; exact HB.out); have cb5 := hb5.cell; have fb5 : w5.frozen? ⟨W.heap.size, 0, none⟩ = false := frozen_of_row _ _ _ _ _ hb5; clear hO5 hB5)
    have hin : ints (pre ++ [x]) = ints pre ++ [(x : Int)] := by simp [ints]
    refine ⟨⟨fun o ho => (heap_setCell_other w5 ⟨W.heap.size, 0, none⟩ _ _ (by show W.heap.size + 1 ≠ W.heap.size; omega)).trans ((HB5.out.block _ (by omega)).trans ho), fun k o hk hkT ho => (heap_setCell_other w5 ⟨W.heap.size, 0, none⟩ _ _ (by show k ≠ W.heap.size; omega)).trans ((HB5.out.block _ hkT).trans ho)⟩, ⟨_, hb5.set _, ?_⟩, (HBB.out.trans (HB5.out.mono (by omega))).setCell (p := ⟨W.heap.size, 0, none⟩) (Nat.le_refl _) _, hT3⟩
    rw [hin]
    obtain ⟨q0, q1⟩ := HO5.out
    exact ⟨q0, q1.imp id (fun ⟨g, cap, cur, e, hB, hg, h3⟩ => ⟨g, cap, cur, e, hB, (heap_setCell_other w5 ⟨W.heap.size, 0, none⟩ g _ (by show g ≠ W.heap.size; omega)).trans hg, h3⟩)⟩
  case done =>
    rintro D T zs W' hD rfl ⟨⟨v, hb, ho⟩, hB, hT⟩ hK
    have cb := hb.cell
    have hbl : W.heap.size < W'.heap.size := hb.lt
    have hlen : (ints (sizL mm.toNat)).length < 4611686018427387904 := by
      rw [ints_len, siz_len (by omega)]
      have h2 : ∀ k, cntS k ≤ k := fun k => by
        induction k with
        | zero => exact Nat.le_refl _
        | succ k ih => unfold cntS; split <;> omega
      have := h2 mm.toNat
      omega
    have hne : v.ownBlock ≠ some W.heap.size := fun e => by have := (World.ownsRow.lt ho _ e).1; omega
    have hneD : v.ownBlock ≠ some D := fun e => by
      rcases ho.2 with ⟨rfl, _⟩ | ⟨g, cap, cur, rfl, _, hg, _⟩
      · cases e
      · have : g = D := by simpa [Value.ownBlock] using e
        rw [this, hK] at hg; cases hg
    have hDz := (Array.getElem?_eq_some_iff.1 hK).1
    have SO := Lib.hid (c_sort W' T v (ints (sizL mm.toNat)) ho hlen)
    clear ho
    go_wp2_with fail
    refine (SO.out).mono ?_
    rintro e w3 ⟨rfl, ho3, hb3, hot⟩
    have hb3' : Bx w3 W.heap.size 22 v := by unfold Bx; rw [hot _ hbl hne]; exact hb
    have cb3 := hb3'.cell
    have hK3 := (hot D hDz hneD).trans hK
    have HG := Lib.hid (show Owns (w3.putObj D (.deferred none)) W.heap.size 3 .i64 v ((ints (sizL mm.toNat)).mergeSort fun x y => decide (x ≤ y)) ∧ Below W.heap.size W (w3.putObj D (.deferred none)) from by
      have h := ownsRow_putObj ho3 (.deferred none) hK3 rfl
      refine ⟨⟨by simp, ?_⟩, (hB.trans (hb3.mono (by omega))).grown (grownBy_putObj' w3 D _) (by have := (Array.getElem?_eq_some_iff.1 hK3).1; omega) (fun k e => by cases e; omega)⟩
      rw [List.length_mergeSort]
      exact h.2.imp id (fun ⟨g, cap, cur, e, hB, hg, h3⟩ => ⟨g, cap, cur, e, by omega, hg, h3⟩))
    clear hot hb3' hb
    go_wp2_with fail
    refine ⟨by simp, .inl ⟨_, _, rfl, run_takeDeferred hK3, ?_⟩⟩
    exact ⟨_, results_tmp rfl _ _ _, v, rfl, HG.out.1, HG.out.2⟩
theorem root_sizes (most : Int) (W : World) (h0 : -9223372036854775808 ≤ most) :
    Calls Try.prog 4 #[.int .i64 most] W fun e w' => ∃ v, e = .returned v ∧ Owns w' W.heap.size 3 .i64 v ((ints (sizL (min most 16777216).toNat)).mergeSort fun x y => decide (x ≤ y)) ∧ Below W.heap.size W w' := root_sizes_of most _ W h0 rfl
end Go.Proofs.Ytcbiennifmfkgaa
