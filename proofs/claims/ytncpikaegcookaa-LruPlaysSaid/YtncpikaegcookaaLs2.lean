/- The reference of layer 32: Del, Front. -/
import Derived.Test.YtncpikaegcookaaLs1
import Derived.Deep.AppendSrc
import Derived.Deep.Upon
import Derived.Test.YtncpikaegcookaaGate
namespace Go.Proofs.Ytncpikaegcookaa
open Go.ChangeShapes Go.WideShapes Go.ChangeAt Go.RowKit
set_option linter.unusedVariables false
set_option linter.unusedSimpArgs false
theorem owns_void (w : World) : Owns (w.alloc (.cells #[] 3)) w.heap.size 3 .i64 (.slice (some ⟨w.heap.size, 0, none⟩) 0 0) [] :=
  World.ownsRow_lit w #[] 0 (Nat.le_refl _) (by unfold maxLen; omega) rfl
/-- A part of a row. -/
theorem reads_take {w : World} {p : Option Addr} {xs : List Int} (h : Reads .i64 w p xs) (j : Nat) : Reads .i64 w p (xs.take j) := by
  rcases h with h | ⟨b, o, rfl, hb, hc⟩
  · exact .inl (by rw [h]; simp)
  · refine .inr ⟨b, o, rfl, hb, fun i hi => ?_⟩
    rw [List.length_take] at hi
    have := hc i (by omega)
    rw [List.getD_eq_getElem?_getD, List.getElem?_take, if_pos (by omega), ← List.getD_eq_getElem?_getD]
    exact this
theorem reads_drop {w : World} {b o : Nat} {xs : List Int} (h : Reads .i64 w (some ⟨b, o, none⟩) xs) (hx : xs ≠ []) (j : Nat) : Reads .i64 w (some ⟨b, o + j, none⟩) (xs.drop j) := by
  rcases h with h | ⟨b', o', he, hb, hc⟩
  · exact absurd h hx
  · cases he
    refine .inr ⟨b, o + j, rfl, hb, fun i hi => ?_⟩
    rw [List.length_drop] at hi
    have := hc (j + i) (by omega)
    rw [List.getD_eq_getElem?_getD, List.getElem?_drop, ← List.getD_eq_getElem?_getD, Nat.add_assoc]
    exact this
theorem row_setCell3 {w : World} {g o : Nat} {cs : Array Value} {T : TypeId} {fr : Nat × Nat} (h : w.heap[g]? = some (.cells cs T fr)) (v : Value) : (w.setCell ⟨g, o, none⟩ v).heap[g]? = some (.cells (cs.setIfInBounds o v) T fr) := by
  simp [World.setCell, Array.getElem?_modify, h]
theorem row_cells3 {w : World} {g : Nat} {a b c : Value} {T : TypeId} (h : w.heap[g]? = some (.cells #[a, b, c] T (0, 0))) : w.cell? ⟨g, 0, none⟩ = some a ∧ w.cell? ⟨g, 1, none⟩ = some b ∧ w.cell? ⟨g, 2, none⟩ = some c ∧ w.frozen? ⟨g, 0, none⟩ = false ∧ w.frozen? ⟨g, 1, none⟩ = false ∧ w.frozen? ⟨g, 2, none⟩ = false :=
  ⟨by rw [cell_of_row _ _ _ _ _ _ h]; rfl, by rw [cell_of_row _ _ _ _ _ _ h]; rfl, by rw [cell_of_row _ _ _ _ _ _ h]; rfl, frozen_of_row _ _ _ _ _ h, frozen_of_row _ _ _ _ _ h, frozen_of_row _ _ _ _ _ h⟩
theorem clone_start (W : World) (a b c a' b' c' : Value) (T : TypeId) : ∃ w0 : World, w0 = (W.alloc (.cells #[a, b, c] T)).alloc (.cells #[a', b', c'] T) ∧ w0.heap[W.heap.size]? = some (.cells #[a, b, c] T (0, 0)) ∧ w0.heap[W.heap.size + 1]? = some (.cells #[a', b', c'] T (0, 0)) ∧ Below W.heap.size W w0 ∧ w0.heap.size = W.heap.size + 2 := by
  have h1 := heap_alloc_new W (.cells #[a, b, c] T)
  have h2 := heap_alloc_new (W.alloc (.cells #[a, b, c] T)) (.cells #[a', b', c'] T)
  simp only [World.size_alloc] at h2
  exact ⟨_, rfl, by rw [Below.heap_alloc _ _ _ (by simp)]; exact h1, h2, ((Below.refl _ _).alloc (Nat.le_refl _) _).alloc (by simp) _, by simp⟩
theorem row_put3 {w : World} {g : Nat} {x y z a b c : Value} {T : TypeId} (h : w.heap[g]? = some (.cells #[x, y, z] T (0, 0))) : (((w.setCell ⟨g, 0, none⟩ a).setCell ⟨g, 1, none⟩ b).setCell ⟨g, 2, none⟩ c).heap[g]? = some (.cells #[a, b, c] T (0, 0)) := by
  rw [row_setCell3 (row_setCell3 (row_setCell3 h _) _) _]; rfl
theorem below_put3 {B g : Nat} {W w : World} (h : Below B W w) (hg : B ≤ g) (a b c : Value) : Below B W (((w.setCell ⟨g, 0, none⟩ a).setCell ⟨g, 1, none⟩ b).setCell ⟨g, 2, none⟩ c) :=
  ((h.setCell (p := ⟨g, 0, none⟩) hg _).setCell (p := ⟨g, 1, none⟩) hg _).setCell (p := ⟨g, 2, none⟩) hg _
/-- 'append' of a row onto an own row, at the operation. -/
theorem wp_append_all {o : Oper} {a : Act} {K : Act → World → Prop} {Q : Exit → Act → World → Prop} {W : World} {B : Nat} {v : Value} {ys zs : List Int} {p : Option Addr} {m c : Nat} (s x : Operand)
    (ho : o.op = .call { callee := .builtin .append, args := #[s, x], argTypes := #[30, 30] }) (hs : a.eval s = v) (hown : Owns W B 3 .i64 v ys) (hx : a.eval x = .slice p m c) (hm : zs.length = m) (hr : Reads .i64 W p zs) (hB : B ≤ W.heap.size) (hlen : ys.length + m ≤ 1000)
    (h : ∀ v' w', Owns w' B 3 .i64 v' (ys ++ zs) → Below B W w' → K (a.put o.dst v') w') : o.wp Try.prog a W K Q := by
  obtain ⟨i0, hi, hz0, hz1, hz2⟩ := info_parts info_i64
  by_cases hne : 0 < m
  · rcases hr with hnil | ⟨b, off, rfl, hb, hcell⟩
    · rw [hnil] at hm; simp at hm; omega
    refine wp_append_lies _ s x 30 ho B 3 i0 (.int .i64 0) 1 8 Try.underlying30 hi hz0 hz1 hz2 rfl (by decide) v ys.length (ys.map (Value.int .i64)) hs hown ⟨b, off, none⟩ m c (zs.map (Value.int .i64)) hx (by simpa using hm) ?_ ?_ hne ?_ ?_ hB _ rfl ?_
    · intro j u hj
      have hj' : j < zs.length := by
        by_cases hlt : j < zs.length
        · exact hlt
        · have : (zs.map (Value.int .i64))[j]? = none := by simp; omega
          rw [this] at hj; cases hj
      have e : (zs.map (Value.int .i64))[j]? = some (.int .i64 (zs.getD j 0)) := by simp [List.getD, hj']
      rw [e] at hj
      cases hj
      have hadd : (⟨b, off, none⟩ : Addr).add j = ⟨b, off + j, none⟩ := by unfold Addr.add; split <;> simp_all
      rw [hadd]
      exact hcell j hj'
    · intro u hu
      obtain ⟨z, _, rfl⟩ := List.mem_map.1 hu
      rfl
    · unfold maxLen; omega
    · omega
    · intro g cap w' h1 h2 _ _
      refine h _ w' ?_ ((Below.refl _ _).grown h2 hB (fun i hi => (World.ownsRow.lt hown i hi).1))
      unfold Owns
      rw [List.length_append, hm, List.map_append]
      exact h1
  · obtain rfl : m = 0 := by omega
    have hz : zs = [] := List.length_eq_zero_iff.1 hm
    subst hz
    rw [List.append_nil] at h
    obtain ⟨q, cap, hv, hr', hcap, _⟩ := hown.shape
    have hsrc : Src Try.prog i0.size 30 (.slice p 0 c) 0 [] W := by
      cases p with
      | none => exact Src.ofNil W Try.underlying30 c
      | some ad => exact Src.ofSlice W Try.underlying30 ad 0 c [] (by simp) (fun j u hj => by simp at hj) (fun u hu => by cases hu)
    have hrun := run_append_nothing W 30 30 o.type 3 i0 Try.underlying30 hi q ys.length cap hcap _ hsrc
    unfold Oper.wp execOp
    have h' := h v W hown (Below.refl _ _)
    rw [← hs] at h'
    simp only [ho, resolve, invoke, builtin, Sem.run_bind, Sem.run_pure, Result.andThen_ok, List.map_toArray, List.map_cons, List.map_nil, hx]
    rw [hs, hv, hrun]
    rw [hs, hv] at h'
    exact h'
theorem Owns.set {w : World} {B : Nat} {v : Value} {ys : List Int} (h : Owns w B 3 .i64 v ys) {X o : Nat} {u : Value} (hX : X < B) : Owns (w.setCell ⟨X, o, none⟩ u) B 3 .i64 v ys := by
  obtain ⟨hl, h | ⟨g, cap, cur, rfl, hb, hh, r⟩⟩ := h
  · exact ⟨hl, .inl h⟩
  · exact ⟨hl, .inr ⟨g, cap, cur, rfl, hb, (heap_setCell_other _ _ _ _ (by show g ≠ X; omega)).trans hh, r⟩⟩
def Fresh (B : Nat) (p : Option Addr) : Prop := ∀ a, p = some a → B ≤ a.block
theorem Fresh.mono {B C : Nat} {p : Option Addr} (h : Fresh B p) (hC : C ≤ B) : Fresh C p := fun a e => Nat.le_trans hC (h a e)
theorem Owns.fresh {w : World} {B : Nat} {p : Option Addr} {n c : Nat} {ys : List Int} (h : Owns w B 3 .i64 (.slice p n c) ys) : Fresh B p := by
  obtain ⟨-, h | ⟨g, cap, cur, e, hb, -, -⟩⟩ := h
  · intro a ha
    have := h.1
    rw [ha] at this
    cases this
  · cases e
    intro a ha
    cases ha
    exact hb
def Near (B : Nat) (p q : Option Addr) : Prop := q = p ∨ Fresh B q
theorem Owns.reads {w : World} {B : Nat} {p : Option Addr} {n c : Nat} {ys : List Int} (h : Owns w B 3 .i64 (.slice p n c) ys) : Reads .i64 w p ys := by
  obtain ⟨a, c', e, hr, -, -⟩ := h.shape
  cases e
  exact hr
structure DS (W u : World) (a b c : Value) : Prop where
  d0 : u.heap[W.heap.size]? = some (.cells #[a, b, c] 32 (0, 0))
  d1 : u.heap[W.heap.size + 1]? = some (.cells #[.int .i64 0, .slice none 0 0, .slice none 0 0] 32 (0, 0))
  be : Below W.heap.size W u
theorem DS.next {W u u' : World} {a b c : Value} (h : DS W u a b c) (hb : Below u.heap.size u u') : DS W u' a b c :=
  ⟨(hb.block _ (g_lt h.d0)).trans h.d0, (hb.block _ (g_lt h.d1)).trans h.d1, h.be.trans (hb.mono h.be.size)⟩
set_option maxRecDepth 100000 in
set_option maxHeartbeats 8000000 in
theorem r32_del (room : Int) (s : List (Int × Int)) (pk : Option Addr) (ck : Nat) (pv : Option Addr) (cv : Nat) (k : Int) (W : World) (h : LR W s pk ck pv cv) :
    Calls Try.prog 17 #[lrv room s.length pk ck pv cv, .int .i64 k] W fun e w' => (∃ qk dk qv dv, e = .returned (lrv room (delN s k).length qk dk qv dv) ∧ LR w' (delN s k) qk dk qv dv ∧ Near W.heap.size pk qk ∧ Near W.heap.size pv qv) ∧ Below W.heap.size W w' := by
  have H := Lib.hid h
  clear h
  unfold lrv
  obtain ⟨x0, hx0, r0, r1, hB, hs⟩ := clone_start W (.int .i64 room) (.slice pk s.length ck) (.slice pv s.length cv) (.int .i64 0) (.slice none 0 0) (.slice none 0 0) 32
  have HD := Lib.hid (show DS W x0 (.int .i64 room) (.slice pk s.length ck) (.slice pv s.length cv) from ⟨r0, r1, hB⟩)
  have CP := Lib.hid (r32_place room s pk ck pv cv k x0 (H.out.below hB))
  unfold lrv at CP
  go_enter Try.func17, Try.ntmps17
  go_upto_region 1 with fail
  rw [← hx0]
  clear hx0 hB hs
  obtain ⟨g0, g1, g2, -, -, -⟩ := row_cells3 r0
  have hl := g_lt r0
  clear r0 r1
  go_wp2_with fail
  refine (CP.out).mono ?_
  rintro e x1 ⟨rfl, hb1⟩
  have HD1 := Lib.hid (HD.out.next hb1)
  have H1 := Lib.hid (H.out.below HD1.out.be)
  clear g0 g1 g2 hb1 hl
  obtain ⟨g0, g1, g2, f0, f1, f2⟩ := row_cells3 HD1.out.d0
  obtain ⟨q0, q1, q2, e0, e1, e2⟩ := row_cells3 HD1.out.d1
  have hl0 := g_lt HD1.out.d0
  have hl1 := g_lt HD1.out.d1
  unfold plN
  cases hv : vidx s k with
  | none =>
    have HVN := Lib.hid (delN_none hv)
    have HZ := Lib.hid (row_put3 (a := .int .i64 room) (b := .slice pk s.length ck) (c := .slice pv s.length cv) HD1.out.d1)
    have HZB := Lib.hid (below_put3 (g := W.heap.size + 1) HD1.out.be (by omega) (.int .i64 room) (.slice pk s.length ck) (.slice pv s.length cv))
    clear hv
    go_wp2_with fail
    refine bodyPost_ret (results_cell_row (p := 4) (ty := 32) rfl _ _ _ 32 #[.int .i64 room, .slice pk s.length ck, .slice pv s.length cv] (0, 0) _ rfl HZ.out Try.underlying32 rfl (by kernel_rfl)) rfl ?_
    exact ⟨⟨pk, ck, pv, cv, by rw [HVN.out], by rw [HVN.out]; exact H.out.below HZB.out, .inl rfl, .inl rfl⟩, HZB.out⟩
  | some j =>
    obtain ⟨p, hp, -⟩ := vidx_some hv
    have HVN := Lib.hid (delN_some hv)
    have hj := vidx_lt hv
    obtain ⟨b, o, rfl, hb, -⟩ := reads_at (x := p.1) H1.out.k (by rw [List.getElem?_map, hp]; rfl)
    obtain ⟨b', o', rfl, hb', -⟩ := reads_at (x := p.2) H1.out.v (by rw [List.getElem?_map, hp]; rfl)
    have hne1 : s.map Prod.fst ≠ [] := by intro e; have := congrArg List.length e; simp at this; subst this; simp at hj
    have hne2 : s.map Prod.snd ≠ [] := by intro e; have := congrArg List.length e; simp at this; subst this; simp at hj
    have hck := H1.out.ck
    have hcv := H1.out.cv
    have hn := H1.out.n
    unfold maxLen at hck hcv
    have hj0 : (0 : Int) ≤ (j : Int) := by omega
    have hn0 : ¬ (j : Int) < 0 := by omega
    obtain ⟨j1, hj1e⟩ : ∃ j1, j + 1 = j1 := ⟨_, rfl⟩
    have WR : IntKind.i64.wrap ((j : Int) + 1) = (j1 : Int) := by simp only [IntKind.wrap_i64]; omega
    have hj1 : (j1 : Int) ≤ (s.length : Int) := by omega
    have hj2 : (j : Int) ≤ (ck : Int) := by omega
    have hj3 : (j : Int) ≤ (cv : Int) := by omega
    have hj4 : ((s.length : Nat) : Int) ≤ (ck : Int) := by omega
    have hj5 : ((s.length : Nat) : Int) ≤ (cv : Int) := by omega
    have hj6 : (0 : Int) ≤ (j1 : Int) := by omega
    have HaA := Lib.hid (reads_take H1.out.k j)
    have HaB := Lib.hid (show Reads .i64 x1 (if ck = j1 then some ⟨b, o, none⟩ else some ⟨b, o + j1, none⟩) ((s.map Prod.fst).drop j1) from by
      split
      · exact .inl (List.drop_eq_nil_of_le (by rw [List.length_map]; omega))
      · exact reads_drop H1.out.k hne1 j1)
    have HLA : Hid (((s.map Prod.fst).take j).length = j ∧ ((s.map Prod.fst).drop j1).length = s.length - j1) := Lib.hid ⟨by rw [List.length_take, List.length_map]; omega, by simp⟩
    have HNE2 := Lib.hid hne2
    clear hv hp hck hcv hn hne1 hne2
    go_upto_region 4 with fail
    have HN := Lib.hid H.out.n
    obtain ⟨s2, hs2⟩ : ∃ s2, s.eraseIdx j = s2 := ⟨_, rfl⟩
    rw [hs2] at HVN
    have HLA2 := Lib.hid (show s2.map Prod.fst = [] ++ (s.map Prod.fst).take j ++ (s.map Prod.fst).drop j1 by rw [← hs2, ← hj1e, List.nil_append, ← List.eraseIdx_eq_take_drop_succ, map_erase])
    have HLB2 := Lib.hid (show s2.map Prod.snd = [] ++ (s.map Prod.snd).take j ++ (s.map Prod.snd).drop j1 by rw [← hs2, ← hj1e, List.nil_append, ← List.eraseIdx_eq_take_drop_succ, map_erase])
    have HN2 := Lib.hid (show s2.length ≤ 70 by have := HN.out; rw [← hs2, List.length_eraseIdx]; split <;> omega)
    have HSa0 := Lib.hid (show Below x1.heap.size x1 (x1.alloc (.cells #[] 3)).drew from ((Below.refl _ _).alloc (Nat.le_refl _) _).drew)
    have HSa1 := Lib.hid (show Below x1.heap.size x1.drew (x1.alloc (.cells #[] 3)).drew from (show Below x1.heap.size x1.drew (x1.drew.alloc (.cells #[] 3)) from (Below.refl x1.heap.size x1.drew).alloc (Nat.le_refl x1.heap.size) _))
    have da := HD1.out.d0
    refine region_gate (fun w' => Below x1.heap.size x1.drew w') 13 (by kernel_rfl) (Below.refl _ _) (fun hHeld => ?_)
    clear hHeld
    refine gate_take (i := 1) (v := ?va1) rfl (by kernel_rfl) (by kernel_rfl) (by kernel_rfl) (by kernel_rfl) (by kernel_rfl) (fun _ _ _ h => h) (Or.inl ⟨by kernel_rfl, ?hya1⟩) (Below.refl _ _) ?resta1
    case hya1 => intro w hSw; go_simp; (first | done | with_reducible rfl)
    (try simp only [Act.put, List.getElem_toArray, List.getElem_cons_zero, List.getElem_cons_succ, List.setIfInBounds_toArray, List.set_cons_zero, List.set_cons_succ])
    refine gate_take (i := 2) (v := ?va2) rfl (by kernel_rfl) (by kernel_rfl) (by kernel_rfl) (by kernel_rfl) (by kernel_rfl) (fun _ _ _ h => h) (Or.inl ⟨by kernel_rfl, ?hya2⟩) (Below.refl _ _) ?resta2
    case hya2 => intro w hSw; have hcl := (hSw.cell (p := ⟨W.heap.size, 1, none⟩) hl0).trans g1; go_simp; (first | done | with_reducible rfl)
    (try simp only [Act.put, List.getElem_toArray, List.getElem_cons_zero, List.getElem_cons_succ, List.setIfInBounds_toArray, List.set_cons_zero, List.set_cons_succ])
    refine gate_take (i := 3) (v := ?va3) rfl (by kernel_rfl) (by kernel_rfl) (by kernel_rfl) (by kernel_rfl) (by kernel_rfl) (fun _ _ _ h => h) (Or.inl ⟨by kernel_rfl, ?hya3⟩) (Below.refl _ _) ?resta3
    case hya3 => intro w hSw; go_simp; (first | done | with_reducible rfl)
    (try simp only [Act.put, List.getElem_toArray, List.getElem_cons_zero, List.getElem_cons_succ, List.setIfInBounds_toArray, List.set_cons_zero, List.set_cons_succ])
    refine gate_take (i := 4) (v := ?va4) rfl (by kernel_rfl) (by kernel_rfl) (by kernel_rfl) (by kernel_rfl) (by kernel_rfl) (fun _ _ _ h => h) (Or.inl ⟨by kernel_rfl, ?hya4⟩) (Below.refl _ _) ?resta4
    case hya4 => intro w hSw; go_simp; (first | done | with_reducible rfl)
    (try simp only [Act.put, List.getElem_toArray, List.getElem_cons_zero, List.getElem_cons_succ, List.setIfInBounds_toArray, List.set_cons_zero, List.set_cons_succ])
    refine gate_take (i := 6) (v := ?va5) rfl (by kernel_rfl) (by kernel_rfl) (by kernel_rfl) (by kernel_rfl) (by kernel_rfl) (fun _ _ _ h => h) (Or.inl ⟨by kernel_rfl, ?hya5⟩) (Below.refl _ _) ?resta5
    case hya5 => intro w hSw; go_simp; (first | done | with_reducible rfl)
    (try simp only [Act.put, List.getElem_toArray, List.getElem_cons_zero, List.getElem_cons_succ, List.setIfInBounds_toArray, List.set_cons_zero, List.set_cons_succ])
    refine gate_take (i := 7) (v := ?va6) rfl (by kernel_rfl) (by kernel_rfl) (by kernel_rfl) (by kernel_rfl) (by kernel_rfl) (fun _ _ _ h => h) (Or.inl ⟨by kernel_rfl, ?hya6⟩) (Below.refl _ _) ?resta6
    case hya6 => intro w hSw; have hcl := (hSw.cell (p := ⟨W.heap.size, 1, none⟩) hl0).trans g1; go_simp; (first | done | with_reducible rfl)
    (try simp only [Act.put, List.getElem_toArray, List.getElem_cons_zero, List.getElem_cons_succ, List.setIfInBounds_toArray, List.set_cons_zero, List.set_cons_succ])
    refine gate_take (i := 8) (v := ?va7) rfl (by kernel_rfl) (by kernel_rfl) (by kernel_rfl) (by kernel_rfl) (by kernel_rfl) (fun _ _ _ h => h) (Or.inl ⟨by kernel_rfl, ?hya7⟩) (Below.refl _ _) ?resta7
    case hya7 => intro w hSw; go_simp; (first | done | with_reducible rfl)
    (try simp only [Act.put, List.getElem_toArray, List.getElem_cons_zero, List.getElem_cons_succ, List.setIfInBounds_toArray, List.set_cons_zero, List.set_cons_succ])
    refine gate_take (i := 9) (v := .int .i64 j1) rfl (by kernel_rfl) (by kernel_rfl) (by kernel_rfl) (by kernel_rfl) (by kernel_rfl) (fun _ _ _ h => h) (Or.inl ⟨by kernel_rfl, ?hya8⟩) (Below.refl _ _) ?resta8
    case hya8 => intro w hSw; go_simp; 
    (try simp only [Act.put, List.getElem_toArray, List.getElem_cons_zero, List.getElem_cons_succ, List.setIfInBounds_toArray, List.set_cons_zero, List.set_cons_succ])
    refine gate_take (i := 10) (v := ?va9) rfl (by kernel_rfl) (by kernel_rfl) (by kernel_rfl) (by kernel_rfl) (by kernel_rfl) (fun _ _ _ h => h) (Or.inl ⟨by kernel_rfl, ?hya9⟩) (Below.refl _ _) ?resta9
    case hya9 => intro w hSw; go_simp; (first | done | with_reducible rfl)
    (try simp only [Act.put, List.getElem_toArray, List.getElem_cons_zero, List.getElem_cons_succ, List.setIfInBounds_toArray, List.set_cons_zero, List.set_cons_succ])
    refine gate_one (i := 0) rfl (by kernel_rfl) (fun K hK => ?_)
    go_simp
    refine hK.out _ _ HSa1.out (fun _ => ?_)
    clear hK K
    (try simp only [Act.put, List.getElem_toArray, List.getElem_cons_zero, List.getElem_cons_succ, List.setIfInBounds_toArray, List.set_cons_zero, List.set_cons_succ])
    refine gate_one (i := 5) rfl (by kernel_rfl) (fun K hK => ?_)
    rw [if_pos (by kernel_rfl)]
    refine wp_append_all (ys := []) (zs := ((s.map Prod.fst).take j)) (B := x1.heap.size) (v := .slice (some ⟨x1.heap.size, 0, none⟩) 0 0) _ _ rfl rfl ((owns_void x1).below ((Below.refl _ _).drew)) rfl HLA.out.1 (readsI_below HaA.out HSa0.out) (by simp) (by have := HN.out; simp; omega) (fun v1 y1a hO1 hb1 => ?_)
    have HSa2 := Lib.hid (HSa1.out.trans hb1)
    refine hK.out _ _ HSa2.out (fun _ => ?_)
    have HO1 := Lib.hid hO1
    clear hK K hO1 hb1
    (try simp only [Act.put, List.getElem_toArray, List.getElem_cons_zero, List.getElem_cons_succ, List.setIfInBounds_toArray, List.set_cons_zero, List.set_cons_succ])
    refine gate_one (i := 11) rfl (by kernel_rfl) (fun K hK => ?_)
    rw [if_pos (by kernel_rfl)]
    refine wp_append_all (zs := ((s.map Prod.fst).drop j1)) (B := x1.heap.size) (v := v1) _ _ rfl rfl HO1.out rfl HLA.out.2 (readsI_below HaB.out (((Below.refl _ _).drew).trans HSa2.out)) HSa2.out.size (by have := HN.out; simp; omega) (fun v2 y2a hO2 hb2 => ?_)
    have HSa3 := Lib.hid (HSa2.out.trans hb2)
    refine hK.out _ _ HSa3.out (fun _ => ?_)
    have HOa := Lib.hid (show Owns y2a x1.heap.size 3 .i64 v2 (s2.map Prod.fst) from by rw [HLA2.out]; exact hO2)
    clear hK K hO2 hb2 HO1
    obtain ⟨pa, ca, hv, hra, hca1, hca2⟩ := HOa.out.shape
    rw [List.length_map] at hv hca1
    subst hv
    have HaC := Lib.hid (And.intro hca1 hca2)
    clear hra hca1 hca2
    (try simp only [Act.put, List.getElem_toArray, List.getElem_cons_zero, List.getElem_cons_succ, List.setIfInBounds_toArray, List.set_cons_zero, List.set_cons_succ])
    refine gate_take (i := 12) (v := ?va12) rfl (by kernel_rfl) (by kernel_rfl) (by kernel_rfl) (by kernel_rfl) (by kernel_rfl) (fun _ _ _ h => h) (Or.inl ⟨by kernel_rfl, ?hya12⟩) HSa3.out ?resta12
    case hya12 => intro w hSw; go_simp; (first | done | with_reducible rfl)
    (try simp only [Act.put, List.getElem_toArray, List.getElem_cons_zero, List.getElem_cons_succ, List.setIfInBounds_toArray, List.set_cons_zero, List.set_cons_succ])
    refine gate_past (i := 13) rfl (by kernel_rfl) (by kernel_rfl) (fun K hK => ?_)
    have hcl := (HSa3.out.cell (p := ⟨W.heap.size, 1, none⟩) hl0).trans g1
    have hfr : y2a.frozen? ⟨W.heap.size, 1, none⟩ = false := frozen_of_row _ _ _ _ _ ((HSa3.out.block _ hl0).trans da)
    go_simp
    refine hK.out _ _ ?_
    clear hK K hcl hfr
    (try simp only [Act.put, List.getElem_toArray, List.getElem_cons_zero, List.getElem_cons_succ, List.setIfInBounds_toArray, List.set_cons_zero, List.set_cons_succ])
    refine gate_done (by kernel_rfl) ?_ _
    have HDa := Lib.hid (HD1.out.next (((Below.refl _ _).drew).trans HSa3.out))
    obtain ⟨x5, hx5⟩ : ∃ x5, x5 = y2a.setCell ⟨W.heap.size, 1, none⟩ (.slice pa s2.length ca) := ⟨_, rfl⟩
    have HD5 := Lib.hid (show DS W x5 (.int .i64 room) (.slice pa s2.length ca) (.slice (some ⟨b', o', none⟩) s.length cv) from by rw [hx5]; exact ⟨by rw [row_setCell3 HDa.out.d0]; rfl, by rw [heap_setCell_other _ _ _ _ (by show W.heap.size + 1 ≠ W.heap.size; omega)]; exact HDa.out.d1, HDa.out.be.setCell (p := ⟨W.heap.size, 1, none⟩) (Nat.le_refl _) _⟩)
    have HOa5 := Lib.hid (show Owns x5 x1.heap.size 3 .i64 (.slice pa s2.length ca) (s2.map Prod.fst) from by rw [hx5]; exact HOa.out.set hl0)
    have H15 := Lib.hid (show x1.heap.size ≤ x5.heap.size by rw [hx5]; have := HSa3.out.size; simpa using this)
    rw [← hx5]
    clear hx5 g0 g1 g2 f0 f1 f2 q0 q1 q2 e0 e1 e2 da
    have H5 := Lib.hid (H.out.below HD5.out.be)
    obtain ⟨g0, g1, g2, f0, f1, f2⟩ := row_cells3 HD5.out.d0
    have hl5 := g_lt HD5.out.d0
    have db := HD5.out.d0
    have HbA := Lib.hid (reads_take H5.out.v j)
    have HbB := Lib.hid (show Reads .i64 x5 (if cv = j1 then some ⟨b', o', none⟩ else some ⟨b', o' + j1, none⟩) ((s.map Prod.snd).drop j1) from by
      split
      · exact .inl (List.drop_eq_nil_of_le (by have := H5.out.cv; rw [List.length_map]; omega))
      · exact reads_drop H5.out.v HNE2.out j1)
    have HLB : Hid (((s.map Prod.snd).take j).length = j ∧ ((s.map Prod.snd).drop j1).length = s.length - j1) := Lib.hid ⟨by rw [List.length_take, List.length_map]; omega, by simp⟩
    have HSb0 := Lib.hid (show Below x5.heap.size x5 (x5.alloc (.cells #[] 3)).drew from ((Below.refl _ _).alloc (Nat.le_refl _) _).drew)
    have HSb1 := Lib.hid (show Below x5.heap.size x5.drew (x5.alloc (.cells #[] 3)).drew from (show Below x5.heap.size x5.drew (x5.drew.alloc (.cells #[] 3)) from (Below.refl x5.heap.size x5.drew).alloc (Nat.le_refl x5.heap.size) _))
    go_upto_region 5 with fail
    refine region_gate (fun w' => Below x5.heap.size x5.drew w') 13 (by kernel_rfl) (Below.refl _ _) (fun hHeld => ?_)
    clear hHeld
    refine gate_take (i := 1) (v := ?vb1) rfl (by kernel_rfl) (by kernel_rfl) (by kernel_rfl) (by kernel_rfl) (by kernel_rfl) (fun _ _ _ h => h) (Or.inl ⟨by kernel_rfl, ?hyb1⟩) (Below.refl _ _) ?restb1
    case hyb1 => intro w hSw; go_simp; (first | done | with_reducible rfl)
    (try simp only [Act.put, List.getElem_toArray, List.getElem_cons_zero, List.getElem_cons_succ, List.setIfInBounds_toArray, List.set_cons_zero, List.set_cons_succ])
    refine gate_take (i := 2) (v := ?vb2) rfl (by kernel_rfl) (by kernel_rfl) (by kernel_rfl) (by kernel_rfl) (by kernel_rfl) (fun _ _ _ h => h) (Or.inl ⟨by kernel_rfl, ?hyb2⟩) (Below.refl _ _) ?restb2
    case hyb2 => intro w hSw; have hcl := (hSw.cell (p := ⟨W.heap.size, 2, none⟩) hl5).trans g2; go_simp; (first | done | with_reducible rfl)
    (try simp only [Act.put, List.getElem_toArray, List.getElem_cons_zero, List.getElem_cons_succ, List.setIfInBounds_toArray, List.set_cons_zero, List.set_cons_succ])
    refine gate_take (i := 3) (v := ?vb3) rfl (by kernel_rfl) (by kernel_rfl) (by kernel_rfl) (by kernel_rfl) (by kernel_rfl) (fun _ _ _ h => h) (Or.inl ⟨by kernel_rfl, ?hyb3⟩) (Below.refl _ _) ?restb3
    case hyb3 => intro w hSw; go_simp; (first | done | with_reducible rfl)
    (try simp only [Act.put, List.getElem_toArray, List.getElem_cons_zero, List.getElem_cons_succ, List.setIfInBounds_toArray, List.set_cons_zero, List.set_cons_succ])
    refine gate_take (i := 4) (v := ?vb4) rfl (by kernel_rfl) (by kernel_rfl) (by kernel_rfl) (by kernel_rfl) (by kernel_rfl) (fun _ _ _ h => h) (Or.inl ⟨by kernel_rfl, ?hyb4⟩) (Below.refl _ _) ?restb4
    case hyb4 => intro w hSw; go_simp; (first | done | with_reducible rfl)
    (try simp only [Act.put, List.getElem_toArray, List.getElem_cons_zero, List.getElem_cons_succ, List.setIfInBounds_toArray, List.set_cons_zero, List.set_cons_succ])
    refine gate_take (i := 6) (v := ?vb5) rfl (by kernel_rfl) (by kernel_rfl) (by kernel_rfl) (by kernel_rfl) (by kernel_rfl) (fun _ _ _ h => h) (Or.inl ⟨by kernel_rfl, ?hyb5⟩) (Below.refl _ _) ?restb5
    case hyb5 => intro w hSw; go_simp; (first | done | with_reducible rfl)
    (try simp only [Act.put, List.getElem_toArray, List.getElem_cons_zero, List.getElem_cons_succ, List.setIfInBounds_toArray, List.set_cons_zero, List.set_cons_succ])
    refine gate_take (i := 7) (v := ?vb6) rfl (by kernel_rfl) (by kernel_rfl) (by kernel_rfl) (by kernel_rfl) (by kernel_rfl) (fun _ _ _ h => h) (Or.inl ⟨by kernel_rfl, ?hyb6⟩) (Below.refl _ _) ?restb6
    case hyb6 => intro w hSw; have hcl := (hSw.cell (p := ⟨W.heap.size, 2, none⟩) hl5).trans g2; go_simp; (first | done | with_reducible rfl)
    (try simp only [Act.put, List.getElem_toArray, List.getElem_cons_zero, List.getElem_cons_succ, List.setIfInBounds_toArray, List.set_cons_zero, List.set_cons_succ])
    refine gate_take (i := 8) (v := ?vb7) rfl (by kernel_rfl) (by kernel_rfl) (by kernel_rfl) (by kernel_rfl) (by kernel_rfl) (fun _ _ _ h => h) (Or.inl ⟨by kernel_rfl, ?hyb7⟩) (Below.refl _ _) ?restb7
    case hyb7 => intro w hSw; go_simp; (first | done | with_reducible rfl)
    (try simp only [Act.put, List.getElem_toArray, List.getElem_cons_zero, List.getElem_cons_succ, List.setIfInBounds_toArray, List.set_cons_zero, List.set_cons_succ])
    refine gate_take (i := 9) (v := .int .i64 j1) rfl (by kernel_rfl) (by kernel_rfl) (by kernel_rfl) (by kernel_rfl) (by kernel_rfl) (fun _ _ _ h => h) (Or.inl ⟨by kernel_rfl, ?hyb8⟩) (Below.refl _ _) ?restb8
    case hyb8 => intro w hSw; go_simp; 
    (try simp only [Act.put, List.getElem_toArray, List.getElem_cons_zero, List.getElem_cons_succ, List.setIfInBounds_toArray, List.set_cons_zero, List.set_cons_succ])
    refine gate_take (i := 10) (v := ?vb9) rfl (by kernel_rfl) (by kernel_rfl) (by kernel_rfl) (by kernel_rfl) (by kernel_rfl) (fun _ _ _ h => h) (Or.inl ⟨by kernel_rfl, ?hyb9⟩) (Below.refl _ _) ?restb9
    case hyb9 => intro w hSw; go_simp; (first | done | with_reducible rfl)
    (try simp only [Act.put, List.getElem_toArray, List.getElem_cons_zero, List.getElem_cons_succ, List.setIfInBounds_toArray, List.set_cons_zero, List.set_cons_succ])
    refine gate_one (i := 0) rfl (by kernel_rfl) (fun K hK => ?_)
    go_simp
    refine hK.out _ _ HSb1.out (fun _ => ?_)
    clear hK K
    (try simp only [Act.put, List.getElem_toArray, List.getElem_cons_zero, List.getElem_cons_succ, List.setIfInBounds_toArray, List.set_cons_zero, List.set_cons_succ])
    refine gate_one (i := 5) rfl (by kernel_rfl) (fun K hK => ?_)
    rw [if_pos (by kernel_rfl)]
    refine wp_append_all (ys := []) (zs := ((s.map Prod.snd).take j)) (B := x5.heap.size) (v := .slice (some ⟨x5.heap.size, 0, none⟩) 0 0) _ _ rfl rfl ((owns_void x5).below ((Below.refl _ _).drew)) rfl HLB.out.1 (readsI_below HbA.out HSb0.out) (by simp) (by have := HN.out; simp; omega) (fun v1 y1b hO1 hb1 => ?_)
    have HSb2 := Lib.hid (HSb1.out.trans hb1)
    refine hK.out _ _ HSb2.out (fun _ => ?_)
    have HO1 := Lib.hid hO1
    clear hK K hO1 hb1
    (try simp only [Act.put, List.getElem_toArray, List.getElem_cons_zero, List.getElem_cons_succ, List.setIfInBounds_toArray, List.set_cons_zero, List.set_cons_succ])
    refine gate_one (i := 11) rfl (by kernel_rfl) (fun K hK => ?_)
    rw [if_pos (by kernel_rfl)]
    refine wp_append_all (zs := ((s.map Prod.snd).drop j1)) (B := x5.heap.size) (v := v1) _ _ rfl rfl HO1.out rfl HLB.out.2 (readsI_below HbB.out (((Below.refl _ _).drew).trans HSb2.out)) HSb2.out.size (by have := HN.out; simp; omega) (fun v2 y2b hO2 hb2 => ?_)
    have HSb3 := Lib.hid (HSb2.out.trans hb2)
    refine hK.out _ _ HSb3.out (fun _ => ?_)
    have HOb := Lib.hid (show Owns y2b x5.heap.size 3 .i64 v2 (s2.map Prod.snd) from by rw [HLB2.out]; exact hO2)
    clear hK K hO2 hb2 HO1
    obtain ⟨pb, cb, hv, hrb, hcb1, hcb2⟩ := HOb.out.shape
    rw [List.length_map] at hv hcb1
    subst hv
    have HbC := Lib.hid (And.intro hcb1 hcb2)
    clear hrb hcb1 hcb2
    (try simp only [Act.put, List.getElem_toArray, List.getElem_cons_zero, List.getElem_cons_succ, List.setIfInBounds_toArray, List.set_cons_zero, List.set_cons_succ])
    refine gate_take (i := 12) (v := ?vb12) rfl (by kernel_rfl) (by kernel_rfl) (by kernel_rfl) (by kernel_rfl) (by kernel_rfl) (fun _ _ _ h => h) (Or.inl ⟨by kernel_rfl, ?hyb12⟩) HSb3.out ?restb12
    case hyb12 => intro w hSw; go_simp; (first | done | with_reducible rfl)
    (try simp only [Act.put, List.getElem_toArray, List.getElem_cons_zero, List.getElem_cons_succ, List.setIfInBounds_toArray, List.set_cons_zero, List.set_cons_succ])
    refine gate_past (i := 13) rfl (by kernel_rfl) (by kernel_rfl) (fun K hK => ?_)
    have hcl := (HSb3.out.cell (p := ⟨W.heap.size, 2, none⟩) hl5).trans g2
    have hfr : y2b.frozen? ⟨W.heap.size, 2, none⟩ = false := frozen_of_row _ _ _ _ _ ((HSb3.out.block _ hl5).trans db)
    go_simp
    refine hK.out _ _ ?_
    clear hK K hcl hfr
    (try simp only [Act.put, List.getElem_toArray, List.getElem_cons_zero, List.getElem_cons_succ, List.setIfInBounds_toArray, List.set_cons_zero, List.set_cons_succ])
    refine gate_done (by kernel_rfl) ?_ _
    have HDb := Lib.hid (HD5.out.next (((Below.refl _ _).drew).trans HSb3.out))
    obtain ⟨x6, hx6⟩ : ∃ x6, x6 = y2b.setCell ⟨W.heap.size, 2, none⟩ (.slice pb s2.length cb) := ⟨_, rfl⟩
    have HD6 := Lib.hid (show DS W x6 (.int .i64 room) (.slice pa s2.length ca) (.slice pb s2.length cb) from by rw [hx6]; exact ⟨by rw [row_setCell3 HDb.out.d0]; rfl, by rw [heap_setCell_other _ _ _ _ (by show W.heap.size + 1 ≠ W.heap.size; omega)]; exact HDb.out.d1, HDb.out.be.setCell (p := ⟨W.heap.size, 2, none⟩) (Nat.le_refl _) _⟩)
    have HOa6 := Lib.hid (show Owns x6 x1.heap.size 3 .i64 (.slice pa s2.length ca) (s2.map Prod.fst) from by rw [hx6]; exact (HOa5.out.below (((Below.refl _ _).drew).trans HSb3.out)).set hl0)
    have HOb6 := Lib.hid (show Owns x6 x5.heap.size 3 .i64 (.slice pb s2.length cb) (s2.map Prod.snd) from by rw [hx6]; exact HOb.out.set hl5)
    rw [← hx6]
    clear hx6 g0 g1 g2 f0 f1 f2 db
    obtain ⟨g0, g1, g2, f0, f1, f2⟩ := row_cells3 HD6.out.d0
    obtain ⟨q0, q1, q2, e0, e1, e2⟩ := row_cells3 HD6.out.d1
    have hl6 := g_lt HD6.out.d1
    have HZ := Lib.hid (row_put3 (a := .int .i64 room) (b := .slice pa s2.length ca) (c := .slice pb s2.length cb) HD6.out.d1)
    have HZB := Lib.hid (below_put3 (g := W.heap.size + 1) HD6.out.be (by omega) (.int .i64 room) (.slice pa s2.length ca) (.slice pb s2.length cb))
    have HOa7 := Lib.hid (((HOa6.out.set (X := W.heap.size + 1) (o := 0) (u := .int .i64 room) hl1).set (X := W.heap.size + 1) (o := 1) (u := .slice pa s2.length ca) hl1).set (X := W.heap.size + 1) (o := 2) (u := .slice pb s2.length cb) hl1)
    have HL15 := Lib.hid (Nat.lt_of_lt_of_le hl1 H15.out)
    have HOb7 := Lib.hid (((HOb6.out.set (X := W.heap.size + 1) (o := 0) (u := .int .i64 room) HL15.out).set (X := W.heap.size + 1) (o := 1) (u := .slice pa s2.length ca) HL15.out).set (X := W.heap.size + 1) (o := 2) (u := .slice pb s2.length cb) HL15.out)
    go_wp2_with fail
    all_goals refine bodyPost_ret (results_cell_row (p := 4) (ty := 32) rfl _ _ _ 32 #[.int .i64 room, .slice pa s2.length ca, .slice pb s2.length cb] (0, 0) _ rfl HZ.out Try.underlying32 rfl (by kernel_rfl)) rfl ?_
    all_goals exact ⟨⟨pa, ca, pb, cb, by rw [HVN.out], by rw [HVN.out]; exact ⟨HOa7.out.reads, HOb7.out.reads, HaC.out, HbC.out, HN2.out⟩, .inr (HOa7.out.fresh.mono HD1.out.be.size), .inr (HOb7.out.fresh.mono (Nat.le_trans HD1.out.be.size H15.out))⟩, HZB.out⟩
end Go.Proofs.Ytncpikaegcookaa
