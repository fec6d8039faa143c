/- Put together by program (merge2.py): Flat Rowsl Nodesl Depthd Clonel. -/
import Derived.Deep.Upon
import Derived.RangeFuncNested
import Derived.RangeFuncBound
import Derived.RangeFuncCalls
import Derived.RangeFuncLeaves
import Derived.Shelf.Abstract
import Derived.Shelf.RegionOpen
import Derived.WalkKit
import Derived.OwnWalkIn
import Derived.TacticsInMore
import Derived.LoopNIn
import Derived.LoopIn
import Derived.Test.YtafmiilkdhdngaaGreatDoorD11
import Derived.Test.YtafmiilkdhdngaaGreatDoorR7
/- package desc's Clone: the nodes in one piece, level by level; its part. -/
namespace Go.Proofs.YtafmiilkdhdngaaGreatDoor
open Go.ChangeShapes Go.WideShapes Go.ChangeAt Go.RowKit
set_option linter.unusedVariables false
set_option linter.unusedSimpArgs false
/-- The state of the copy: the nodes q lie in block F; the first i of them have kids that lie there too. -/
structure Fl (w : World) (F lim C m : Nat) (q : List Nd) (i : Nat) : Prop where
  blk : F < w.heap.size
  room : ∀ x, x < C * 3 → (w.cell? ⟨F, x, none⟩).isSome = true
  free : ∀ x, w.frozen? ⟨F, x, none⟩ = false
  num : ∀ j d, q[j]? = some d → w.cell? ⟨F, j * 3, none⟩ = some (.int .i64 d.k) ∧ w.cell? ⟨F, j * 3 + 1, none⟩ = some (.int .i64 d.n)
  old : ∀ j d, q[j]? = some d → i ≤ j → ∃ v, w.cell? ⟨F, j * 3 + 2, none⟩ = some v ∧ Kids w lim v d.ks
  new : ∀ j d, q[j]? = some d → j < i → w.cell? ⟨F, j * 3 + 2, none⟩ = some (kidv F (pos m q j) d.ks.len)
theorem Fl.keep {w w' : World} {F lim C m i : Nat} {q : List Nd} (h : Fl w F lim C m q i) (hF : w'.heap[F]? = w.heap[F]?) (hB : Below lim w w') : Fl w' F lim C m q i := by
  have hc : ∀ x, w'.cell? ⟨F, x, none⟩ = w.cell? ⟨F, x, none⟩ := fun x => World.cell?_of_block hF
  refine ⟨Nat.lt_of_lt_of_le h.blk hB.size, fun x hx => by rw [hc]; exact h.room x hx, fun x => (World.frozen?_of_block (a := ⟨F, x, none⟩) hF).trans (h.free x), fun j d hj => ?_, fun j d hj hi => ?_, fun j d hj hi => ?_⟩
  · rw [hc, hc]; exact h.num j d hj
  · obtain ⟨v, h1, h2⟩ := h.old j d hj hi
    exact ⟨v, by rw [hc]; exact h1, h2.carry hB⟩
  · rw [hc]; exact h.new j d hj hi
theorem Fl.below {w w' : World} {F lim C m i : Nat} {q : List Nd} (h : Fl w F lim C m q i) (hl : lim ≤ w.heap.size) (hB : Below w.heap.size w w') : Fl w' F lim C m q i := h.keep (hB.block F h.blk) (hB.mono hl)
theorem Fl.store {w : World} {F lim C m i : Nat} {q : List Nd} (h : Fl w F lim C m q i) (hl : lim ≤ F) {d : Nd} (hd : q[i]? = some d) : Fl (w.setCell ⟨F, i * 3 + 2, none⟩ (kidv F (pos m q i) d.ks.len)) F lim C m q (i + 1) := by
  have hB : Below lim w (w.setCell ⟨F, i * 3 + 2, none⟩ (kidv F (pos m q i) d.ks.len)) := (Below.refl _ _).setCell hl _
  have hc : ∀ x, x ≠ i * 3 + 2 → (w.setCell ⟨F, i * 3 + 2, none⟩ (kidv F (pos m q i) d.ks.len)).cell? ⟨F, x, none⟩ = w.cell? ⟨F, x, none⟩ := fun x hx => World.cell?_setCell_other _ _ _ _ (fun e => hx (by cases e; rfl))
  obtain ⟨u, hu, _⟩ := h.old i d hd (Nat.le_refl _)
  have hs := World.cell?_setCell_same w ⟨F, i * 3 + 2, none⟩ (kidv F (pos m q i) d.ks.len) hu
  refine ⟨by simpa using h.blk, fun x hx => ?_, fun x => by rw [World.frozen?_setCell]; exact h.free x, fun j d' hj => ?_, fun j d' hj hi => ?_, fun j d' hj hi => ?_⟩
  · by_cases e : x = i * 3 + 2
    · subst e; rw [hs]; rfl
    · rw [hc x e]; exact h.room x hx
  · rw [hc _ (by omega), hc _ (by omega)]; exact h.num j d' hj
  · obtain ⟨v, h1, h2⟩ := h.old j d' hj (by omega)
    exact ⟨v, by rw [hc _ (by omega)]; exact h1, h2.carry hB⟩
  · by_cases e : j = i
    · subst e
      obtain rfl : d = d' := by rw [hd] at hj; cases hj; rfl
      exact hs
    · rw [hc _ (by omega)]; exact h.new j d' hj (by omega)
/-- A row's cells, as nodes. -/
theorem at_nods : ∀ (f : Fo) (w : World) (lim b o : Nat), f.At w lim b o → ∃ news, Nods w lim news f.top ∧ ∀ j u, news[j]? = some u → w.cell? ⟨b, o + j, none⟩ = some u
  | .nil, _, _, _, _, _ => ⟨[], rfl, fun j u h => by simp at h⟩
  | .cons k n ks r, w, lim, b, o, ⟨hb, c0, c1, ⟨a, c, c2, h1, h2, h3⟩, hr⟩ => by
    obtain ⟨ys, hy, hc⟩ := at_nods r w lim b (o + 3) hr
    refine ⟨.int .i64 k :: .int .i64 n :: .slice a ks.len c :: ys, ⟨.slice a ks.len c, ys, rfl, ⟨a, c, rfl, h1, h2, h3⟩, hy⟩, fun j u hj => ?_⟩
    match j, hj with
    | 0, hj => simp at hj; subst hj; exact c0
    | 1, hj => simp at hj; subst hj; exact c1
    | 2, hj => simp at hj; subst hj; exact c2
    | j + 3, hj => rw [show o + (j + 3) = o + 3 + j by omega]; exact hc j u (by simpa using hj)
theorem but_setCells (F : Nat) : ∀ (vs : List Value) (o : Nat) (w : World), But w (w.setCells F o vs) F
  | [], _, w => But.refl w F
  | v :: r, o, w => (But.set w F o v).trans (but_setCells F r (o + 1) _)
theorem Fl.append {w : World} {F lim C m i : Nat} {q l : List Nd} {news : List Value} (h : Fl w F lim C m q i) (hl : lim ≤ F) (hi : i ≤ q.length) (hn : Nods w lim news l) (hr : q.length + l.length ≤ C) : Fl (w.setCells F (q.length * 3) news) F lim C m (q ++ l) i := by
  have hlF : F < w.heap.size := h.blk
  have hB : Below lim w (w.setCells F (q.length * 3) news) := (but_setCells F news (q.length * 3) w).b lim hl (by omega)
  have hlen := hn.len
  have hin := World.cell?_setCells_in F news (q.length * 3) w (fun j hj => h.room _ (by omega))
  have hout : ∀ x, x < q.length * 3 → (w.setCells F (q.length * 3) news).cell? ⟨F, x, none⟩ = w.cell? ⟨F, x, none⟩ := fun x hx => World.cell?_setCells_out F news _ w ⟨F, x, none⟩ (fun _ _ => .inl hx)
  have hin2 : ∀ x u, news[x]? = some u → (w.setCells F (q.length * 3) news).cell? ⟨F, q.length * 3 + x, none⟩ = some u := fun x u hx => by
    obtain ⟨h1, h2⟩ := List.getElem?_eq_some_iff.1 hx
    rw [hin x h1, h2]
  have hq : ∀ j d, (q ++ l)[j]? = some d → (j < q.length ∧ q[j]? = some d) ∨ (q.length ≤ j ∧ l[j - q.length]? = some d) := fun j d hj => by
    by_cases hlt : j < q.length
    · exact .inl ⟨hlt, by rwa [List.getElem?_append_left hlt] at hj⟩
    · exact .inr ⟨by omega, by rwa [List.getElem?_append_right (by omega)] at hj⟩
  have hnew : ∀ j d, q.length ≤ j → l[j - q.length]? = some d → (w.setCells F (q.length * 3) news).cell? ⟨F, j * 3, none⟩ = some (.int .i64 d.k) ∧ (w.setCells F (q.length * 3) news).cell? ⟨F, j * 3 + 1, none⟩ = some (.int .i64 d.n) ∧ ∃ v, (w.setCells F (q.length * 3) news).cell? ⟨F, j * 3 + 2, none⟩ = some v ∧ Kids (w.setCells F (q.length * 3) news) lim v d.ks := fun j d h1 h2 => by
    obtain ⟨h3, h4⟩ := List.getElem?_eq_some_iff.1 h2
    obtain ⟨v, a0, a1, a2, hk⟩ := hn.get (j - q.length) h3
    rw [h4] at a0 a1 hk
    have b0 := hin2 _ _ a0
    have b1 := hin2 _ _ a1
    have b2 := hin2 _ _ a2
    rw [show q.length * 3 + (j - q.length) * 3 = j * 3 by omega] at b0
    rw [show q.length * 3 + ((j - q.length) * 3 + 1) = j * 3 + 1 by omega] at b1
    rw [show q.length * 3 + ((j - q.length) * 3 + 2) = j * 3 + 2 by omega] at b2
    exact ⟨b0, b1, v, b2, hk.carry hB⟩
  refine ⟨Nat.lt_of_lt_of_le hlF hB.size, fun x hx => World.isSome_setCells F news _ w _ (h.room x hx), fun x => by rw [World.frozen?_setCells]; exact h.free x, fun j d hj => ?_, fun j d hj hi2 => ?_, fun j d hj hi2 => ?_⟩
  · rcases hq j d hj with ⟨h1, h2⟩ | ⟨h1, h2⟩
    · rw [hout _ (by omega), hout _ (by omega)]; exact h.num j d h2
    · obtain ⟨a0, a1, _⟩ := hnew j d h1 h2
      exact ⟨a0, a1⟩
  · rcases hq j d hj with ⟨h1, h2⟩ | ⟨h1, h2⟩
    · obtain ⟨v, g1, g2⟩ := h.old j d h2 hi2
      exact ⟨v, by rw [hout _ (by omega)]; exact g1, g2.carry hB⟩
    · exact (hnew j d h1 h2).2.2
  · rcases hq j d hj with ⟨h1, h2⟩ | ⟨h1, h2⟩
    · rw [hout _ (by omega), pos_append _ _ _ _ (by omega)]; exact h.new j d h2 hi2
    · omega
/-- 'append(flat, row...)' within its room. -/
theorem append_flat {ops : Array Oper} {rest : List Oper} {o : Oper} {a : Act} {Q : Exit → Act → World → Prop} {w : World} {F lim C k i m c L : Nat} {q : List Nd} {f : Fo} {ad : Option Addr} (hgd : o.guard = none) (s x : Operand)
    (ho : o.op = .call { callee := .builtin .append, args := #[s, x], argTypes := #[40, 40] }) (hs : a.eval s = .slice (some ⟨F, 0, none⟩) L C) (hx : a.eval x = .slice ad m c) (hL : q.length = L)
    (hF : Fl w F lim C k q i) (hl : lim ≤ F) (hi : i ≤ q.length) (hK : Kids w lim (.slice ad m c) f) (h0 : 0 < m) (hr : L + m ≤ C)
    (h : ∀ w1, Fl w1 F lim C k (q ++ f.top) i → But w w1 F → w1.heap.size = w.heap.size → wpList Tryz.prog ops Q rest (a.put o.dst (.slice (some ⟨F, 0, none⟩) (L + m) C)) w1) : wpList Tryz.prog ops Q (o :: rest) a w := by
  obtain ⟨i0, hi0⟩ : ∃ i, Tryz.prog.info? 42 = some i := by
    cases h0 : Tryz.prog.info? 42 with
    | none => have := info_desc; rw [h0] at this; cases this
    | some i => exact ⟨i, rfl⟩
  have h1 := info_desc
  rw [hi0] at h1
  simp only [Option.map_some, Option.some.injEq, Prod.mk.injEq] at h1
  obtain ⟨_, hsz, _⟩ := h1
  obtain ⟨a', c', e, _, _, h3⟩ := hK
  cases e
  rcases h3 with h3 | ⟨b, of, rfl, h3⟩
  · omega
  · obtain ⟨news, hn, hc⟩ := at_nods f w lim b of h3
    have hlen := hn.len
    rw [Fo.top_len] at hlen
    have hsrc : Src Tryz.prog i0.size 40 (.slice (some ⟨b, of, none⟩) f.len c) f.len news w := by
      rw [hsz]
      exact Src.ofSlice _ Tryz.underlying40 _ _ _ news hlen (fun j u hj => by rw [Addr.add_lit]; exact hc j u hj) hn.one
    have hrun := run_append_room_src (P := Tryz.prog) w 40 40 o.type 42 i0 Tryz.underlying40 hi0 F 0 L C _ f.len news hsrc hr
      (fun j hj => by rw [hsz, show 0 + L * 3 + j = L * 3 + j by omega]; exact hF.room _ (by omega)) (fun j hj => hF.free _)
    rw [hsz, show 0 + L * 3 = q.length * 3 by rw [hL]; omega] at hrun
    have hz : ∀ (vs : List Value) (o : Nat) (w : World), (w.setCells F o vs).heap.size = w.heap.size := fun vs => by
      induction vs with
      | nil => intro o w; rfl
      | cons v r ih => intro o w; rw [World.setCells, ih]; simp
    have h := h _ (hF.append hl hi hn (by rw [Fo.top_len]; omega)) (but_setCells F news (q.length * 3) w) (hz _ _ _)
    refine wpList_plain hgd fun _ hK => ?_
    unfold Oper.wp execOp
    simp only [ho, resolve, invoke, builtin, Sem.run_bind, Sem.run_pure, Result.andThen_ok, List.map_toArray, List.map_cons, List.map_nil, hx, hs, hrun]
    exact hK _ _ h
set_option maxRecDepth 100000 in
set_option maxHeartbeats 2000000 in
theorem clone_part (f : Fo) (v : Value) (w : World) (F b lim C m i : Nat) (q : List Nd) (hF : Fl w F lim C m q i) (hb : Bx w b 40 (.slice (some ⟨F, 0, none⟩) q.length C)) (hK : Kids w lim v f) (hl : lim ≤ F) (hbF : b ≠ F) (hlb : lim ≤ b) (hr : q.length + f.len ≤ C) (hi : i ≤ q.length) (hC : C ≤ 1048576) :
    Calls Tryz.prog 81 #[v, .pointer (some ⟨b, 0, none⟩)] w fun e w' => e = .returned (kidv F q.length f.len) ∧ Fl w' F lim C m (q ++ f.top) i ∧ Bx w' b 40 (.slice (some ⟨F, 0, none⟩) (q.length + f.len) C) ∧ w'.heap.size = w.heap.size ∧ (∀ X, X ≠ F → X ≠ b → X < w.heap.size → w'.heap[X]? = w.heap[X]?) ∧ (∀ B, B ≤ F → B ≤ b → Below B w w') := by
  obtain ⟨p, n, c, rfl, hc1, hc2, HM⟩ := hK.shape
  have cb := hb.cell
  have fb : w.frozen? ⟨b, 0, none⟩ = false := frozen_of_row _ _ _ _ _ hb
  obtain ⟨L, hL⟩ : ∃ L, q.length = L := ⟨_, rfl⟩
  rw [hL] at cb hb hr hi ⊢
  have hFb := hF.blk
  have hbb := hb.lt
  have HF := Lib.hid hF
  have HB := Lib.hid hb
  have HK := Lib.hid hK
  rw [← HM.out] at hr ⊢
  clear hF hb hK
  by_cases h0 : n = 0
  · subst h0
    have E : f.top = [] := List.length_eq_zero_iff.1 (by rw [Fo.top_len]; exact HM.out.symm)
    have R := Lib.hid (show Fl w F lim C m (q ++ f.top) i by rw [E, List.append_nil]; exact HF.out)
    go_enter Tryz.func81, Tryz.ntmps81
    go_wp2_with fail
    go_ret
    exact ⟨rfl, R.out, HB.out, rfl, fun _ _ _ _ => rfl, fun _ _ _ => Below.refl _ _⟩
  · have d1 : ((n : Int) == 0) = false := by simp; omega
    have hn0 : 0 < n := by omega
    have a1 : (0 : Int) ≤ (L : Int) := by omega
    have a2 : ((L : Int)) ≤ ((L : Int) + (n : Int)) := by omega
    have a3 : L ≤ C := by omega
    go_enter Tryz.func81, Tryz.ntmps81
    go_wp2_with (at_builtin; refine append_flat rfl _ _ rfl rfl rfl hL HF.out hl (by omega) HK.out hn0 hr ?_; intro w1 hF1 hB1 hs1; have HB1 := Lib.hid (HB.out.but hB1 hbF); have cb1 := HB1.out.cell; have fb1 : w1.frozen? ⟨b, 0, none⟩ = false := frozen_of_row _ _ _ _ _ HB1.out; have HF1 := Lib.hid hF1; have HBt := Lib.hid hB1; clear hF1 hB1)
    have hB2 := But.set w1 b 0 (.slice (some ⟨F, 0, none⟩) (L + n) C)
    go_ret
    refine ⟨?_, (HF1.out.keep (heap_setCell_other w1 ⟨b, 0, none⟩ F _ (Ne.symm hbF)) (hB2.b lim hlb (by omega))), HB1.out.set _, by simp; omega, fun X h1 h2 h3 => (heap_setCell_other w1 ⟨b, 0, none⟩ X _ h2).trans (HBt.out.o X h3 h1), fun B h1 h2 => (HBt.out.b B h1 (by omega)).trans (hB2.b B h2 (by omega))⟩
    obtain ⟨n', rfl⟩ : ∃ n', n = n' + 1 := ⟨n - 1, by omega⟩
    rw [show L + (n' + 1) - L = n' + 1 by omega]
    rfl
end Go.Proofs.YtafmiilkdhdngaaGreatDoor
/- package desc's rows and Nodes, where no kid has kids. -/
namespace Go.Proofs.YtafmiilkdhdngaaGreatDoor
open Go.ChangeShapes Go.WideShapes Go.ChangeAt Go.RowKit
set_option linter.unusedVariables false
open Go.Shelf
attribute [local go_sem] Oper.semAt_some
theorem desc_rows (g : Nat) (k n : Int) (v : Value) (w : World) :
    CallsIn Fence.wide g Tryz.prog 97 #[.agg #[.int .i64 k, .int .i64 n, v]] w fun e w' => e = .returned (.func (.func 110) #[] #[.pointer (some ⟨w.heap.size, 0, none⟩)]) ∧ w' = w.alloc (.cells #[.int .i64 k, .int .i64 n, v] 42) := by
  refine callsIn_of_wp Tryz.func97 rfl trivial ?_ rfl
  simp only [Tryz.ntmps97, List.size_toArray, List.length_cons, List.length_nil, Nat.reduceAdd, Nat.reduceSub, Array.replicate_succ, Array.replicate_zero, List.push_toArray, List.append_toArray, List.nil_append, List.cons_append]
  gi_wp2
  go_ret
  exact ⟨rfl, rfl⟩
end Go.Proofs.YtafmiilkdhdngaaGreatDoor
/- package desc's Nodes, where no kid has kids. -/
namespace Go.Proofs.YtafmiilkdhdngaaGreatDoor
open Go.ChangeShapes Go.WideShapes Go.ChangeAt Go.RowKit
set_option linter.unusedVariables false
open Go.Shelf
attribute [local go_sem] Oper.semAt_some
end Go.Proofs.YtafmiilkdhdngaaGreatDoor
/- package desc's Depth, for every tree. -/
namespace Go.Proofs.YtafmiilkdhdngaaGreatDoor
open Go.ChangeShapes Go.WideShapes Go.ChangeAt Go.RowKit
set_option linter.unusedVariables false
end Go.Proofs.YtafmiilkdhdngaaGreatDoor
/- package desc's Clone of a leaf, At, and the live example of layer 13. -/
namespace Go.Proofs.YtafmiilkdhdngaaGreatDoor
open Go.ChangeShapes Go.WideShapes Go.ChangeAt Go.RowKit
set_option linter.unusedVariables false
theorem row_setCell3 {w : World} {g o : Nat} {cs : Array Value} {T : TypeId} {fr : Nat × Nat} (h : w.heap[g]? = some (.cells cs T fr)) (v : Value) : (w.setCell ⟨g, o, none⟩ v).heap[g]? = some (.cells (cs.setIfInBounds o v) T fr) := by
  simp [World.setCell, Array.getElem?_modify, h]
theorem row_cells3 {w : World} {g : Nat} {a b c : Value} {T : TypeId} (h : w.heap[g]? = some (.cells #[a, b, c] T (0, 0))) : w.cell? ⟨g, 0, none⟩ = some a ∧ w.cell? ⟨g, 1, none⟩ = some b ∧ w.cell? ⟨g, 2, none⟩ = some c ∧ w.frozen? ⟨g, 0, none⟩ = false ∧ w.frozen? ⟨g, 1, none⟩ = false ∧ w.frozen? ⟨g, 2, none⟩ = false :=
  ⟨by rw [cell_of_row _ _ _ _ _ _ h]; rfl, by rw [cell_of_row _ _ _ _ _ _ h]; rfl, by rw [cell_of_row _ _ _ _ _ _ h]; rfl, frozen_of_row _ _ _ _ _ h, frozen_of_row _ _ _ _ _ h, frozen_of_row _ _ _ _ _ h⟩
theorem clone_start (W : World) (a b c a' b' c' : Value) (T : TypeId) : ∃ w0 : World, w0 = (W.alloc (.cells #[a, b, c] T)).alloc (.cells #[a', b', c'] T) ∧ w0.heap[W.heap.size]? = some (.cells #[a, b, c] T (0, 0)) ∧ w0.heap[W.heap.size + 1]? = some (.cells #[a', b', c'] T (0, 0)) ∧ Below W.heap.size W w0 ∧ w0.heap.size = W.heap.size + 2 := by
  have h1 := heap_alloc_new W (.cells #[a, b, c] T)
  have h2 := heap_alloc_new (W.alloc (.cells #[a, b, c] T)) (.cells #[a', b', c'] T)
  simp only [World.size_alloc] at h2
  exact ⟨_, rfl, by rw [Below.heap_alloc _ _ _ (by simp)]; exact h1, h2, ((Below.refl _ _).alloc (Nat.le_refl _) _).alloc (by simp) _, by simp⟩
end Go.Proofs.YtafmiilkdhdngaaGreatDoor
