/- Put together by program (merge2.py): Flat Rowsl Nodesl Depthd Clonel Cloneg Rangeb. -/
import Derived.Deep.Upon
import Derived.RangeFuncNested
import Derived.RangeFuncBound
import Derived.RangeFuncCalls
import Derived.RangeFuncLeaves
import Derived.Shelf.Abstract
import Derived.Shelf.RegionOpen
import Derived.WalkKit
import Derived.OwnWalkIn
import Derived.TacticsInMore
import Derived.LoopNIn
import Derived.LoopIn
import Derived.Deep.RegionWith
import Derived.Deep.DeepCutAuto
import Derived.RangeFuncFrom
import Derived.Test.YtmbcfijhlpeddaaD11
import Derived.Test.YtmbcfijhlpeddaaP4
/- package desc's Clone: the nodes in one piece, level by level; its part. -/
namespace Go.Proofs.Ytmbcfijhlpeddaa
open Go.ChangeShapes Go.WideShapes Go.ChangeAt Go.RowKit
set_option linter.unusedVariables false
set_option linter.unusedSimpArgs false
/-- The state of the copy: the nodes q lie in block F; the first i of them have kids that lie there too. -/
structure Fl (w : World) (F lim C m : Nat) (q : List Nd) (i : Nat) : Prop where
  blk : F < w.heap.size
  room : ∀ x, x < C * 3 → (w.cell? ⟨F, x, none⟩).isSome = true
  free : ∀ x, w.frozen? ⟨F, x, none⟩ = false
  num : ∀ j d, q[j]? = some d → w.cell? ⟨F, j * 3, none⟩ = some (.int .i64 d.k) ∧ w.cell? ⟨F, j * 3 + 1, none⟩ = some (.int .i64 d.n)
  old : ∀ j d, q[j]? = some d → i ≤ j → ∃ v, w.cell? ⟨F, j * 3 + 2, none⟩ = some v ∧ Kids w lim v d.ks
  new : ∀ j d, q[j]? = some d → j < i → w.cell? ⟨F, j * 3 + 2, none⟩ = some (kidv F (pos m q j) d.ks.len)
theorem Fl.keep {w w' : World} {F lim C m i : Nat} {q : List Nd} (h : Fl w F lim C m q i) (hF : w'.heap[F]? = w.heap[F]?) (hB : Below lim w w') : Fl w' F lim C m q i := by
  have hc : ∀ x, w'.cell? ⟨F, x, none⟩ = w.cell? ⟨F, x, none⟩ := fun x => World.cell?_of_block hF
  refine ⟨Nat.lt_of_lt_of_le h.blk hB.size, fun x hx => by rw [hc]; exact h.room x hx, fun x => (World.frozen?_of_block (a := ⟨F, x, none⟩) hF).trans (h.free x), fun j d hj => ?_, fun j d hj hi => ?_, fun j d hj hi => ?_⟩
  · rw [hc, hc]; exact h.num j d hj
  · obtain ⟨v, h1, h2⟩ := h.old j d hj hi
    exact ⟨v, by rw [hc]; exact h1, h2.carry hB⟩
  · rw [hc]; exact h.new j d hj hi
theorem Fl.below {w w' : World} {F lim C m i : Nat} {q : List Nd} (h : Fl w F lim C m q i) (hl : lim ≤ w.heap.size) (hB : Below w.heap.size w w') : Fl w' F lim C m q i := h.keep (hB.block F h.blk) (hB.mono hl)
theorem Fl.store {w : World} {F lim C m i : Nat} {q : List Nd} (h : Fl w F lim C m q i) (hl : lim ≤ F) {d : Nd} (hd : q[i]? = some d) : Fl (w.setCell ⟨F, i * 3 + 2, none⟩ (kidv F (pos m q i) d.ks.len)) F lim C m q (i + 1) := by
  have hB : Below lim w (w.setCell ⟨F, i * 3 + 2, none⟩ (kidv F (pos m q i) d.ks.len)) := (Below.refl _ _).setCell hl _
  have hc : ∀ x, x ≠ i * 3 + 2 → (w.setCell ⟨F, i * 3 + 2, none⟩ (kidv F (pos m q i) d.ks.len)).cell? ⟨F, x, none⟩ = w.cell? ⟨F, x, none⟩ := fun x hx => World.cell?_setCell_other _ _ _ _ (fun e => hx (by cases e; rfl))
  obtain ⟨u, hu, _⟩ := h.old i d hd (Nat.le_refl _)
  have hs := World.cell?_setCell_same w ⟨F, i * 3 + 2, none⟩ (kidv F (pos m q i) d.ks.len) hu
  refine ⟨by simpa using h.blk, fun x hx => ?_, fun x => by rw [World.frozen?_setCell]; exact h.free x, fun j d' hj => ?_, fun j d' hj hi => ?_, fun j d' hj hi => ?_⟩
  · by_cases e : x = i * 3 + 2
    · subst e; rw [hs]; rfl
    · rw [hc x e]; exact h.room x hx
  · rw [hc _ (by omega), hc _ (by omega)]; exact h.num j d' hj
  · obtain ⟨v, h1, h2⟩ := h.old j d' hj (by omega)
    exact ⟨v, by rw [hc _ (by omega)]; exact h1, h2.carry hB⟩
  · by_cases e : j = i
    · subst e
      obtain rfl : d = d' := by rw [hd] at hj; cases hj; rfl
      exact hs
    · rw [hc _ (by omega)]; exact h.new j d' hj (by omega)
/-- A row's cells, as nodes. -/
theorem at_nods : ∀ (f : Fo) (w : World) (lim b o : Nat), f.At w lim b o → ∃ news, Nods w lim news f.top ∧ ∀ j u, news[j]? = some u → w.cell? ⟨b, o + j, none⟩ = some u
  | .nil, _, _, _, _, _ => ⟨[], rfl, fun j u h => by simp at h⟩
  | .cons k n ks r, w, lim, b, o, ⟨hb, c0, c1, ⟨a, c, c2, h1, h2, h3⟩, hr⟩ => by
    obtain ⟨ys, hy, hc⟩ := at_nods r w lim b (o + 3) hr
    refine ⟨.int .i64 k :: .int .i64 n :: .slice a ks.len c :: ys, ⟨.slice a ks.len c, ys, rfl, ⟨a, c, rfl, h1, h2, h3⟩, hy⟩, fun j u hj => ?_⟩
    match j, hj with
    | 0, hj => simp at hj; subst hj; exact c0
    | 1, hj => simp at hj; subst hj; exact c1
    | 2, hj => simp at hj; subst hj; exact c2
    | j + 3, hj => rw [show o + (j + 3) = o + 3 + j by omega]; exact hc j u (by simpa using hj)
theorem but_setCells (F : Nat) : ∀ (vs : List Value) (o : Nat) (w : World), But w (w.setCells F o vs) F
  | [], _, w => But.refl w F
  | v :: r, o, w => (But.set w F o v).trans (but_setCells F r (o + 1) _)
theorem Fl.append {w : World} {F lim C m i : Nat} {q l : List Nd} {news : List Value} (h : Fl w F lim C m q i) (hl : lim ≤ F) (hi : i ≤ q.length) (hn : Nods w lim news l) (hr : q.length + l.length ≤ C) : Fl (w.setCells F (q.length * 3) news) F lim C m (q ++ l) i := by
  have hlF : F < w.heap.size := h.blk
  have hB : Below lim w (w.setCells F (q.length * 3) news) := (but_setCells F news (q.length * 3) w).b lim hl (by omega)
  have hlen := hn.len
  have hin := World.cell?_setCells_in F news (q.length * 3) w (fun j hj => h.room _ (by omega))
  have hout : ∀ x, x < q.length * 3 → (w.setCells F (q.length * 3) news).cell? ⟨F, x, none⟩ = w.cell? ⟨F, x, none⟩ := fun x hx => World.cell?_setCells_out F news _ w ⟨F, x, none⟩ (fun _ _ => .inl hx)
  have hin2 : ∀ x u, news[x]? = some u → (w.setCells F (q.length * 3) news).cell? ⟨F, q.length * 3 + x, none⟩ = some u := fun x u hx => by
    obtain ⟨h1, h2⟩ := List.getElem?_eq_some_iff.1 hx
    rw [hin x h1, h2]
  have hq : ∀ j d, (q ++ l)[j]? = some d → (j < q.length ∧ q[j]? = some d) ∨ (q.length ≤ j ∧ l[j - q.length]? = some d) := fun j d hj => by
    by_cases hlt : j < q.length
    · exact .inl ⟨hlt, by rwa [List.getElem?_append_left hlt] at hj⟩
    · exact .inr ⟨by omega, by rwa [List.getElem?_append_right (by omega)] at hj⟩
  have hnew : ∀ j d, q.length ≤ j → l[j - q.length]? = some d → (w.setCells F (q.length * 3) news).cell? ⟨F, j * 3, none⟩ = some (.int .i64 d.k) ∧ (w.setCells F (q.length * 3) news).cell? ⟨F, j * 3 + 1, none⟩ = some (.int .i64 d.n) ∧ ∃ v, (w.setCells F (q.length * 3) news).cell? ⟨F, j * 3 + 2, none⟩ = some v ∧ Kids (w.setCells F (q.length * 3) news) lim v d.ks := fun j d h1 h2 => by
    obtain ⟨h3, h4⟩ := List.getElem?_eq_some_iff.1 h2
    obtain ⟨v, a0, a1, a2, hk⟩ := hn.get (j - q.length) h3
    rw [h4] at a0 a1 hk
    have b0 := hin2 _ _ a0
    have b1 := hin2 _ _ a1
    have b2 := hin2 _ _ a2
    rw [show q.length * 3 + (j - q.length) * 3 = j * 3 by omega] at b0
    rw [show q.length * 3 + ((j - q.length) * 3 + 1) = j * 3 + 1 by omega] at b1
    rw [show q.length * 3 + ((j - q.length) * 3 + 2) = j * 3 + 2 by omega] at b2
    exact ⟨b0, b1, v, b2, hk.carry hB⟩
  refine ⟨Nat.lt_of_lt_of_le hlF hB.size, fun x hx => World.isSome_setCells F news _ w _ (h.room x hx), fun x => by rw [World.frozen?_setCells]; exact h.free x, fun j d hj => ?_, fun j d hj hi2 => ?_, fun j d hj hi2 => ?_⟩
  · rcases hq j d hj with ⟨h1, h2⟩ | ⟨h1, h2⟩
    · rw [hout _ (by omega), hout _ (by omega)]; exact h.num j d h2
    · obtain ⟨a0, a1, _⟩ := hnew j d h1 h2
      exact ⟨a0, a1⟩
  · rcases hq j d hj with ⟨h1, h2⟩ | ⟨h1, h2⟩
    · obtain ⟨v, g1, g2⟩ := h.old j d h2 hi2
      exact ⟨v, by rw [hout _ (by omega)]; exact g1, g2.carry hB⟩
    · exact (hnew j d h1 h2).2.2
  · rcases hq j d hj with ⟨h1, h2⟩ | ⟨h1, h2⟩
    · rw [hout _ (by omega), pos_append _ _ _ _ (by omega)]; exact h.new j d h2 hi2
    · omega
/-- 'append(flat, row...)' within its room. -/
theorem append_flat {ops : Array Oper} {rest : List Oper} {o : Oper} {a : Act} {Q : Exit → Act → World → Prop} {w : World} {F lim C k i m c L : Nat} {q : List Nd} {f : Fo} {ad : Option Addr} (hgd : o.guard = none) (s x : Operand)
    (ho : o.op = .call { callee := .builtin .append, args := #[s, x], argTypes := #[32, 32] }) (hs : a.eval s = .slice (some ⟨F, 0, none⟩) L C) (hx : a.eval x = .slice ad m c) (hL : q.length = L)
    (hF : Fl w F lim C k q i) (hl : lim ≤ F) (hi : i ≤ q.length) (hK : Kids w lim (.slice ad m c) f) (h0 : 0 < m) (hr : L + m ≤ C)
    (h : ∀ w1, Fl w1 F lim C k (q ++ f.top) i → But w w1 F → w1.heap.size = w.heap.size → wpList Try.prog ops Q rest (a.put o.dst (.slice (some ⟨F, 0, none⟩) (L + m) C)) w1) : wpList Try.prog ops Q (o :: rest) a w := by
  obtain ⟨i0, hi0⟩ : ∃ i, Try.prog.info? 34 = some i := by
    cases h0 : Try.prog.info? 34 with
    | none => have := info_desc; rw [h0] at this; cases this
    | some i => exact ⟨i, rfl⟩
  have h1 := info_desc
  rw [hi0] at h1
  simp only [Option.map_some, Option.some.injEq, Prod.mk.injEq] at h1
  obtain ⟨_, hsz, _⟩ := h1
  obtain ⟨a', c', e, _, _, h3⟩ := hK
  cases e
  rcases h3 with h3 | ⟨b, of, rfl, h3⟩
  · omega
  · obtain ⟨news, hn, hc⟩ := at_nods f w lim b of h3
    have hlen := hn.len
    rw [Fo.top_len] at hlen
    have hsrc : Src Try.prog i0.size 32 (.slice (some ⟨b, of, none⟩) f.len c) f.len news w := by
      rw [hsz]
      exact Src.ofSlice _ Try.underlying32 _ _ _ news hlen (fun j u hj => by rw [Addr.add_lit]; exact hc j u hj) hn.one
    have hrun := run_append_room_src (P := Try.prog) w 32 32 o.type 34 i0 Try.underlying32 hi0 F 0 L C _ f.len news hsrc hr
      (fun j hj => by rw [hsz, show 0 + L * 3 + j = L * 3 + j by omega]; exact hF.room _ (by omega)) (fun j hj => hF.free _)
    rw [hsz, show 0 + L * 3 = q.length * 3 by rw [hL]; omega] at hrun
    have hz : ∀ (vs : List Value) (o : Nat) (w : World), (w.setCells F o vs).heap.size = w.heap.size := fun vs => by
      induction vs with
      | nil => intro o w; rfl
      | cons v r ih => intro o w; rw [World.setCells, ih]; simp
    have h := h _ (hF.append hl hi hn (by rw [Fo.top_len]; omega)) (but_setCells F news (q.length * 3) w) (hz _ _ _)
    refine wpList_plain hgd fun _ hK => ?_
    unfold Oper.wp execOp
    simp only [ho, resolve, invoke, builtin, Sem.run_bind, Sem.run_pure, Result.andThen_ok, List.map_toArray, List.map_cons, List.map_nil, hx, hs, hrun]
    exact hK _ _ h
set_option maxRecDepth 100000 in
set_option maxHeartbeats 2000000 in
theorem clone_part (f : Fo) (v : Value) (w : World) (F b lim C m i : Nat) (q : List Nd) (hF : Fl w F lim C m q i) (hb : Bx w b 32 (.slice (some ⟨F, 0, none⟩) q.length C)) (hK : Kids w lim v f) (hl : lim ≤ F) (hbF : b ≠ F) (hlb : lim ≤ b) (hr : q.length + f.len ≤ C) (hi : i ≤ q.length) (hC : C ≤ 1048576) :
    Calls Try.prog 36 #[v, .pointer (some ⟨b, 0, none⟩)] w fun e w' => e = .returned (kidv F q.length f.len) ∧ Fl w' F lim C m (q ++ f.top) i ∧ Bx w' b 32 (.slice (some ⟨F, 0, none⟩) (q.length + f.len) C) ∧ w'.heap.size = w.heap.size ∧ (∀ X, X ≠ F → X ≠ b → X < w.heap.size → w'.heap[X]? = w.heap[X]?) ∧ (∀ B, B ≤ F → B ≤ b → Below B w w') := by
  obtain ⟨p, n, c, rfl, hc1, hc2, HM⟩ := hK.shape
  have cb := hb.cell
  have fb : w.frozen? ⟨b, 0, none⟩ = false := frozen_of_row _ _ _ _ _ hb
  obtain ⟨L, hL⟩ : ∃ L, q.length = L := ⟨_, rfl⟩
  rw [hL] at cb hb hr hi ⊢
  have hFb := hF.blk
  have hbb := hb.lt
  have HF := Lib.hid hF
  have HB := Lib.hid hb
  have HK := Lib.hid hK
  rw [← HM.out] at hr ⊢
  clear hF hb hK
  by_cases h0 : n = 0
  · subst h0
    have E : f.top = [] := List.length_eq_zero_iff.1 (by rw [Fo.top_len]; exact HM.out.symm)
    have R := Lib.hid (show Fl w F lim C m (q ++ f.top) i by rw [E, List.append_nil]; exact HF.out)
    go_enter Try.func36, Try.ntmps36
    go_wp2_with fail
    go_ret
    exact ⟨rfl, R.out, HB.out, rfl, fun _ _ _ _ => rfl, fun _ _ _ => Below.refl _ _⟩
  · have d1 : ((n : Int) == 0) = false := by simp; omega
    have hn0 : 0 < n := by omega
    have a1 : (0 : Int) ≤ (L : Int) := by omega
    have a2 : ((L : Int)) ≤ ((L : Int) + (n : Int)) := by omega
    have a3 : L ≤ C := by omega
    go_enter Try.func36, Try.ntmps36
    go_wp2_with (at_builtin; refine append_flat rfl _ _ rfl rfl rfl hL HF.out hl (by omega) HK.out hn0 hr ?_; intro w1 hF1 hB1 hs1; have HB1 := Lib.hid (HB.out.but hB1 hbF); have cb1 := HB1.out.cell; have fb1 : w1.frozen? ⟨b, 0, none⟩ = false := frozen_of_row _ _ _ _ _ HB1.out; have HF1 := Lib.hid hF1; have HBt := Lib.hid hB1; clear hF1 hB1)
    have hB2 := But.set w1 b 0 (.slice (some ⟨F, 0, none⟩) (L + n) C)
    go_ret
    refine ⟨?_, (HF1.out.keep (heap_setCell_other w1 ⟨b, 0, none⟩ F _ (Ne.symm hbF)) (hB2.b lim hlb (by omega))), HB1.out.set _, by simp; omega, fun X h1 h2 h3 => (heap_setCell_other w1 ⟨b, 0, none⟩ X _ h2).trans (HBt.out.o X h3 h1), fun B h1 h2 => (HBt.out.b B h1 (by omega)).trans (hB2.b B h2 (by omega))⟩
    obtain ⟨n', rfl⟩ : ∃ n', n = n' + 1 := ⟨n - 1, by omega⟩
    rw [show L + (n' + 1) - L = n' + 1 by omega]
    rfl
end Go.Proofs.Ytmbcfijhlpeddaa
/- package desc's rows and Nodes, where no kid has kids. -/
namespace Go.Proofs.Ytmbcfijhlpeddaa
open Go.ChangeShapes Go.WideShapes Go.ChangeAt Go.RowKit
set_option linter.unusedVariables false
open Go.Shelf
attribute [local go_sem] Oper.semAt_some
theorem below_grown00 {w w' : World} (h : Below w.heap.size w w') : w.grownBy w' none := ⟨h.os, h.tape, h.output, h.size, fun k hk _ => h.block k hk⟩
theorem kpl_b {n₀ : Nat} {w : World} (hn : n₀ ≤ w.heap.size) (W : World) (l : Nat) (o o' : Obj) (hl : w.heap.size ≤ l) (h : W.heap[l]? = some o) (h1 : o.isCells = false) (h2 : o.isWalk = false) : Below n₀ W (W.putObj l o') := belowK_b (w := w) hn W l o o' hl h h1 h2
def encr (v : Value) (_ : Unit) : Array Value := #[v]
def lenv : Value → Nat
  | .slice _ n _ => n
  | _ => 0
set_option maxRecDepth 100000 in
set_option maxHeartbeats 2000000 in
theorem desc_rows1 (g : Nat) (hg : 1 ≤ g) (l B1 n₀ m c : Nat) (p : Option Addr) (f : Fo) (hL : ∀ i, i < m → (f.kids i).len = 0) (hc : m ≤ c) (hc2 : c ≤ 9223372036854775807) (J Jx : List Unit → World → Prop)
    (hJ : ∀ pre A C, J pre A → Below A.heap.size A C → J pre C)
    (hY : ∀ pre x W, J pre W → pre.length < 1 → YieldAt Fence.wide (g - 1) Try.prog l (encr (.slice p m c) x) W fun e W' =>
      (e = .returned (.bool true) ∧ J (pre ++ [x]) W' ∧ Below n₀ W W') ∨ (e = .returned (.bool false) ∧ Jx (pre ++ [x]) W'))
    (W : World) (hB1 : W.cell? ⟨B1, 2, none⟩ = some (.slice p m c)) (hK : Kids W n₀ (.slice p m c) f) (hn0 : n₀ ≤ W.heap.size) (h0 : J [] W) :
    CallsIn Fence.wide g Try.prog 53 #[.func (.yield l) #[] #[], .pointer (some ⟨B1, 0, none⟩)] W fun e W' => (∃ v, e = .returned v) ∧
      ((∃ zs, zs.length = 1 ∧ J zs W') ∨ (∃ pre, True ∧ Jx pre W')) := by
  have lB := block_lt_of_cell hB1
  obtain ⟨W2, hW2⟩ : ∃ W2, W.alloc (.cells #[.slice p m c] 32) = W2 := ⟨_, rfl⟩
  have HJ := Lib.hid (show J [] W2 from hJ [] W W2 h0 (by rw [← hW2]; exact (Below.refl _ _).alloc (Nat.le_refl _) _))
  have hb2 : Below n₀ W W2 := by rw [← hW2]; exact (Below.refl _ _).alloc hn0 _
  have cX : W2.cell? ⟨W.heap.size, 0, none⟩ = some (.slice p m c) := by
    rw [← hW2]
    have hn := heap_alloc_new W (.cells #[.slice p m c] 32)
    rw [cell_of_row _ _ _ _ _ _ hn]; rfl
  have HK := Lib.hid (hK.carry hb2)
  refine callsIn_of_wp Try.func53 rfl trivial ?_ rfl
  simp only [Try.ntmps53, List.size_toArray, List.length_cons, List.length_nil, Nat.reduceAdd, Nat.reduceSub, Array.replicate_succ, Array.replicate_zero, List.push_toArray, List.append_toArray, List.nil_append, List.cons_append]
  gi_wp2
  clear hW2
  have lX : W.heap.size < W2.heap.size := block_lt_of_cell cX
  gi_loopw [3] (fun s wr => Hid (Below n₀ W2 wr) ∧ ((s = .slice (some ⟨W.heap.size, 0, none⟩) 1 1 ∧ wr.cell? ⟨W.heap.size, 0, none⟩ = some (.slice p m c) ∧ Hid (J [] wr)) ∨ (s = .slice (some ⟨W.heap.size, 0, none⟩) 0 1 ∧ Hid (J [()] wr)))) (fun s _ => lenv s)
  case atStart => exact ⟨Lib.hid (Below.refl _ _), .inl ⟨rfl, cX, HJ⟩⟩
  case round =>
    clear cX HJ
    obtain ⟨HB, ⟨rfl, cX, HJ⟩ | ⟨rfl, HJ⟩⟩ := hrel
    · obtain ⟨fn, tmps, assign, body, hy1, hR⟩ := hY [] () wr HJ.out (by simp)
      dsimp only [encr] at hy1 hR
      gi_wp2
      refine hR.mono ?_
      rintro e W3 (⟨rfl, hJ3, hk3⟩ | ⟨rfl, hJx3⟩)
      · have HB3 := Lib.hid (HB.out.trans hk3)
        have HK3 := Lib.hid (HK.out.carry HB3.out)
        have HJ3 := Lib.hid hJ3
        clear hJ3 hk3 hR HJ HB cX HK h0 hY
        gi_wp2
        gi_loopw [3, 29] (fun t j wr => ∃ s : Nat, s ≤ m ∧ t = .slice (some ⟨W.heap.size, 0, none⟩) 0 1 ∧ j = .int .i64 s ∧ W3 = wr) (fun _ j _ => m - (intOf j).toNat)
        case atStart => exact ⟨0, Nat.zero_le _, rfl, rfl, rfl⟩
        case round =>
          obtain ⟨s, hs, rfl, rfl, rfl⟩ := hrel
          by_cases hlt : s < m
          · obtain ⟨b, o, v, rfl, hb, g0, g1, g2, hKi⟩ := HK3.out.get hlt
            obtain ⟨a', c', rfl, _, _⟩ := hKi.form
            rw [hL s hlt] at g2
            have dd : decide ((s : Int) < (m : Int)) = true := decide_eq_true (by omega)
            clear hKi
            gi_wp2
            go_roundw
            case rel => exact ⟨s + 1, by omega, rfl, by go_num, trivial⟩
            case measure => (first | (simp [intOf]; done) | (simp [intOf]; omega) | (simp only [intOf]; omega))
          · obtain rfl : s = m := by omega
            have dd : decide ((s : Int) < (s : Int)) = false := decide_eq_false (by omega)
            gi_wp2
            go_roundw
            case rel => exact ⟨HB3, .inr ⟨rfl, HJ3⟩⟩
            case measure => exact Nat.zero_lt_one
      · gi_wp2
        refine bodyPost_ret (results_none rfl _ _ _) rfl ?_
        exact ⟨⟨_, rfl⟩, .inr ⟨_, trivial, hJx3⟩⟩
    · gi_wp2
      go_end0
      exact ⟨⟨_, rfl⟩, .inl ⟨[()], rfl, HJ.out⟩⟩
theorem desc_rows (g : Nat) (k n : Int) (v : Value) (w : World) :
    CallsIn Fence.wide g Try.prog 43 #[.agg #[.int .i64 k, .int .i64 n, v]] w fun e w' => e = .returned (.func (.func 53) #[] #[.pointer (some ⟨w.heap.size, 0, none⟩)]) ∧ w' = w.alloc (.cells #[.int .i64 k, .int .i64 n, v] 34) := by
  refine callsIn_of_wp Try.func43 rfl trivial ?_ rfl
  simp only [Try.ntmps43, List.size_toArray, List.length_cons, List.length_nil, Nat.reduceAdd, Nat.reduceSub, Array.replicate_succ, Array.replicate_zero, List.push_toArray, List.append_toArray, List.nil_append, List.cons_append]
  gi_wp2
  go_ret
  exact ⟨rfl, rfl⟩
theorem desc_stops (g : Nat) (hg : 1 ≤ g) (B1 n₀ m c : Nat) (p : Option Addr) (f : Fo) (hL : ∀ i, i < m → (f.kids i).len = 0) (hc : m ≤ c) (hc2 : c ≤ 9223372036854775807) (w : World)
    (hB1 : w.cell? ⟨B1, 2, none⟩ = some (.slice p m c)) (hK : Kids w n₀ (.slice p m c) f) (hn0 : n₀ ≤ w.heap.size) :
    SeqStopsK Fence.wide g Try.prog 53 #[.pointer (some ⟨B1, 0, none⟩)] (encr (.slice p m c)) (Below n₀) (fun zs => zs.length = 1) (fun _ => True) 1 w := fun l J Jx W hW hJ _ hY h0 =>
  desc_rows1 g hg l B1 n₀ m c p f hL hc hc2 J Jx (fun pre A C h hb => hJ pre A C none h (below_grown00 hb) (fun r e => by cases e)) hY W ((hW.cell (p := ⟨B1, 2, none⟩) (block_lt_of_cell hB1)).trans hB1) (hK.carry (hW.mono hn0)) (Nat.le_trans hn0 hW.size) h0
end Go.Proofs.Ytmbcfijhlpeddaa
/- package desc's Nodes, where no kid has kids. -/
namespace Go.Proofs.Ytmbcfijhlpeddaa
open Go.ChangeShapes Go.WideShapes Go.ChangeAt Go.RowKit
set_option linter.unusedVariables false
open Go.Shelf
attribute [local go_sem] Oper.semAt_some
theorem bxn_kept {W W' : World} {row : Option Nat} {B : Nat} {T : TypeId} {v : Value} (h : Bx W B T v) (hg : W.grownBy W' row) (hr : ∀ r, row = some r → ∃ o : Obj, W.heap[r]? = some o ∧ o.isCells = false) : Bx W' B T v := by
  unfold Bx
  rw [hg.block B h.lt (fun e => by obtain ⟨o, h1, h2⟩ := hr B e.symm; unfold Bx at h; rw [h] at h1; cases h1; cases h2)]
  exact h
set_option maxRecDepth 100000 in
set_option maxHeartbeats 2000000 in
theorem desc_nodes1 (k n : Int) (m c lim : Nat) (p : Option Addr) (f : Fo) (W : World) (hL : ∀ i, i < m → (f.kids i).len = 0) (hc : m ≤ c) (hc2 : c ≤ 9223372036854775807) (hK : Kids W lim (.slice p m c) f) (hl : lim ≤ W.heap.size) (hm : m ≤ 1048576) :
    Calls Try.prog 35 #[.agg #[.int .i64 k, .int .i64 n, .slice p m c]] W fun e w' => e = .returned (.int .i64 ((m + 1 : Nat) : Int)) ∧ Below W.heap.size W w' := by
  refine (callsIn_wide (n := 6)).1 ?_
  refine callsIn_of_wp_marks Try.func35 rfl trivial ?_ rfl
  simp only [Try.ntmps35, List.size_toArray, List.length_cons, List.length_nil, Nat.reduceAdd, Nat.reduceSub, Array.replicate_succ, Array.replicate_zero, List.push_toArray, List.append_toArray, List.nil_append, List.cons_append]
  gi_wp2
  refine ⟨trivial, (desc_rows _ k n (.slice p m c) _).mono ?_⟩
  rintro e w1 ⟨rfl, rfl⟩
  gi_wp2
  have hB0 : Below W.heap.size W (((W.alloc (.cells #[.int .i64 k, .int .i64 n, .slice p m c] 34)).alloc (.cells #[.int .i64 1] 3)).alloc (.cells #[.int .i64 k, .int .i64 n, .slice p m c] 34)) := (((Below.refl _ W).alloc (Nat.le_refl _) _).alloc (by simp) _).alloc (by simp; omega) _
  have hsz : (((W.alloc (.cells #[.int .i64 k, .int .i64 n, .slice p m c] 34)).alloc (.cells #[.int .i64 1] 3)).alloc (.cells #[.int .i64 k, .int .i64 n, .slice p m c] 34)).heap.size = W.heap.size + 3 := by simp
  have bN := (Bx.new (W.alloc (.cells #[.int .i64 k, .int .i64 n, .slice p m c] 34)) 3 (.int .i64 1) _ rfl).alloc (.cells #[.int .i64 k, .int .i64 n, .slice p m c] 34)
  have c2 : (((W.alloc (.cells #[.int .i64 k, .int .i64 n, .slice p m c] 34)).alloc (.cells #[.int .i64 1] 3)).alloc (.cells #[.int .i64 k, .int .i64 n, .slice p m c] 34)).cell? ⟨W.heap.size + 1 + 1, 2, none⟩ = some (.slice p m c) := by
    have hn := heap_alloc_new ((W.alloc (.cells #[.int .i64 k, .int .i64 n, .slice p m c] 34)).alloc (.cells #[.int .i64 1] 3)) (.cells #[.int .i64 k, .int .i64 n, .slice p m c] 34)
    simp only [World.size_alloc] at hn
    rw [cell_of_row _ _ _ _ _ _ hn]; rfl
  simp only [World.size_alloc] at bN
  obtain ⟨W0, hW0⟩ : ∃ W0, (((W.alloc (.cells #[.int .i64 k, .int .i64 n, .slice p m c] 34)).alloc (.cells #[.int .i64 1] 3)).alloc (.cells #[.int .i64 k, .int .i64 n, .slice p m c] 34)) = W0 := ⟨_, rfl⟩
  rw [hW0] at hB0 hsz bN c2 ⊢
  clear hW0
  refine wpIn_rangeFunc_ownF rfl (by omega) (gf := 53) (lb := #[.pointer (some ⟨W.heap.size + 1 + 1, 0, none⟩)]) rfl trivial (enters_of Try.func53 (by kernel_rfl) rfl)
    (desc_stops _ (by omega) (W.heap.size + 1 + 1) W.heap.size m c p f hL hc hc2 W0 c2 ((hK.mono hl).below (Nat.le_refl _) hB0) (by omega))
    (fun h k => h.trans k) (kpl_b (w := W0) (by omega)) (Below.refl _ _) (fun _ => rfl)
    (fun pre W' => Bx W' (W.heap.size + 1) 3 (.int .i64 ((1 + m * pre.length : Nat) : Int)) ∧ Below W.heap.size W W')
    (fun _ _ _ => False)
    (OwnFrom.and (Own.from (fun s A B row hs hg hr => by exact bxn_kept hs hg hr) _) (ownFrom_below (Nat.le_refl _) (by omega)))
    (fun _ _ _ _ _ hs _ _ => hs)
    ⟨by simpa using bN, hB0⟩
    (fun x => { tmps := #[.agg #[.int .i64 k, .int .i64 n, .slice p m c], .pointer (some ⟨W.heap.size, 0, none⟩), .int .i64 0, .pointer (some ⟨W.heap.size + 1, 0, none⟩), .slice p m c, .agg #[.int .i64 k, .int .i64 n, .slice p m c], .func (.func 53) #[] #[.pointer (some ⟨W.heap.size + 1 + 1, 0, none⟩)], .slice p m c, undef, undef, undef, undef, undef], defers := [] })
    ?assign ?body ?done ?stop
  case assign =>
    intro l x W' K hK
    dsimp only [encr]
    gi_wp2
    exact hK
  case body =>
    rintro l pre x W' ⟨hN, hB⟩ hlen
    obtain rfl : pre = [] := List.length_eq_zero_iff.1 (by omega)
    have cN := hN.cell
    have fN : W'.frozen? ⟨W.heap.size + 1, 0, none⟩ = false := frozen_of_row _ _ _ _ _ hN
    have w1 : IntKind.i64.wrap (((1 + m * ([] : List Unit).length : Nat) : Int) + (m : Int)) = ((1 + m * ([] ++ [x]).length : Nat) : Int) := by
      rw [IntWalk.i64_in _ (by simp; omega)]; simp
    have hN2 := hN.set (.int .i64 ((1 + m * ([] ++ [x]).length : Nat) : Int))
    obtain ⟨y, hy⟩ : ∃ y : Int, ((1 + m * ([] : List Unit).length : Nat) : Int) = y := ⟨_, rfl⟩
    obtain ⟨z, hz⟩ : ∃ z : Int, ((1 + m * ([] ++ [x]).length : Nat) : Int) = z := ⟨_, rfl⟩
    rw [hy] at cN w1
    rw [hz] at w1 hN2
    have HN3 := Lib.hid (show Bx (W'.setCell ⟨W.heap.size + 1, 0, none⟩ (.int .i64 z)) (W.heap.size + 1) 3 (.int .i64 ((1 + m * ([] ++ [x]).length : Nat) : Int)) by rw [hz]; exact hN2)
    clear hy hz hN hN2
    gi_wp2
    exact ⟨KeepsOthers.setCell _ _ _, (Below.refl _ _).setCell (by show W.heap.size ≤ W.heap.size + 1; omega) _, HN3.out, hB.setCell (by show W.heap.size ≤ W.heap.size + 1; omega) _⟩
  case done =>
    rintro D zs W' hD hzs ⟨hN, hB⟩ hK
    have cN := hN.cell
    rw [hzs] at cN
    gi_wp2
    refine ⟨by simp, .inl ⟨_, _, rfl, run_takeDeferred hK, ?_⟩⟩
    exact ⟨_, results_tmp rfl _ _ _, by show Ending.returned (.int .i64 (1 + (m : Int))) = _; rw [show (1 + (m : Int)) = ((m + 1 : Nat) : Int) by omega], hB.trans (belowK_b (w := W) (Nat.le_refl _) W' D _ _ (by omega) hK rfl rfl)⟩
  case stop =>
    rintro D c pre W' _ _ h _
    exact h.elim
end Go.Proofs.Ytmbcfijhlpeddaa
/- package desc's Depth, for every tree. -/
namespace Go.Proofs.Ytmbcfijhlpeddaa
open Go.ChangeShapes Go.WideShapes Go.ChangeAt Go.RowKit
set_option linter.unusedVariables false
end Go.Proofs.Ytmbcfijhlpeddaa
/- package desc's Clone of a leaf, At, and the live example of layer 13. -/
namespace Go.Proofs.Ytmbcfijhlpeddaa
open Go.ChangeShapes Go.WideShapes Go.ChangeAt Go.RowKit
set_option linter.unusedVariables false
theorem desc_nodes0 (k n : Int) (c : Nat) (p : Option Addr) (W : World) (hc2 : c ≤ 9223372036854775807) :
    Calls Try.prog 35 #[.agg #[.int .i64 k, .int .i64 n, .slice p 0 c]] W fun e w' => e = .returned (.int .i64 1) ∧ Below W.heap.size W w' := by
  by_cases hm : c ≤ maxLen
  · exact desc_nodes1 k n 0 c 0 p .nil W (fun i h => by omega) (Nat.zero_le _) hc2 ⟨p, c, rfl, Nat.zero_le _, hm, .inl rfl⟩ (Nat.zero_le _) (by omega)
  · exact absurd hc2 (by unfold maxLen at hm; omega)
theorem clone_part0 (c : Nat) (p : Option Addr) (q : Value) (W : World) :
    Calls Try.prog 36 #[.slice p 0 c, q] W fun e w' => e = .returned (.slice none 0 0) ∧ W = w' := by
  go_enter Try.func36, Try.ntmps36
  go_wp2_with fail
  go_ret
  exact ⟨rfl, rfl⟩
theorem make_desc0 (w : World) : ∃ w', (Instr.makeSlice 32 (.int .i64 0) (.int .i64 0)).run Try.prog w = .ok (.slice (some ⟨w.heap.size, 0, none⟩) 0 0) w' ∧ Below w.heap.size w w' := by
  obtain ⟨i, hi, hz, hs, hb⟩ := info_parts (show (Try.prog.info? 34).map (fun i => (i.zero, i.size, i.bytes)) = some (some (.agg #[.int .i64 0, .int .i64 0, .slice none 0 0]), 3, 40) by kernel_rfl)
  have := run_make w 32 34 i _ Try.underlying32 hi hz .i64 .i64 0 0 (by omega) (by omega) (by omega) (by omega)
  exact ⟨_, this, (Below.refl _ _).alloc (Nat.le_refl _) _⟩
theorem row_setCell3 {w : World} {g o : Nat} {cs : Array Value} {T : TypeId} {fr : Nat × Nat} (h : w.heap[g]? = some (.cells cs T fr)) (v : Value) : (w.setCell ⟨g, o, none⟩ v).heap[g]? = some (.cells (cs.setIfInBounds o v) T fr) := by
  simp [World.setCell, Array.getElem?_modify, h]
theorem row_cells3 {w : World} {g : Nat} {a b c : Value} {T : TypeId} (h : w.heap[g]? = some (.cells #[a, b, c] T (0, 0))) : w.cell? ⟨g, 0, none⟩ = some a ∧ w.cell? ⟨g, 1, none⟩ = some b ∧ w.cell? ⟨g, 2, none⟩ = some c ∧ w.frozen? ⟨g, 0, none⟩ = false ∧ w.frozen? ⟨g, 1, none⟩ = false ∧ w.frozen? ⟨g, 2, none⟩ = false :=
  ⟨by rw [cell_of_row _ _ _ _ _ _ h]; rfl, by rw [cell_of_row _ _ _ _ _ _ h]; rfl, by rw [cell_of_row _ _ _ _ _ _ h]; rfl, frozen_of_row _ _ _ _ _ h, frozen_of_row _ _ _ _ _ h, frozen_of_row _ _ _ _ _ h⟩
theorem clone_start (W : World) (a b c a' b' c' : Value) (T : TypeId) : ∃ w0 : World, w0 = (W.alloc (.cells #[a, b, c] T)).alloc (.cells #[a', b', c'] T) ∧ w0.heap[W.heap.size]? = some (.cells #[a, b, c] T (0, 0)) ∧ w0.heap[W.heap.size + 1]? = some (.cells #[a', b', c'] T (0, 0)) ∧ Below W.heap.size W w0 ∧ w0.heap.size = W.heap.size + 2 := by
  have h1 := heap_alloc_new W (.cells #[a, b, c] T)
  have h2 := heap_alloc_new (W.alloc (.cells #[a, b, c] T)) (.cells #[a', b', c'] T)
  simp only [World.size_alloc] at h2
  exact ⟨_, rfl, by rw [Below.heap_alloc _ _ _ (by simp)]; exact h1, h2, ((Below.refl _ _).alloc (Nat.le_refl _) _).alloc (by simp) _, by simp⟩
set_option maxRecDepth 100000 in
set_option maxHeartbeats 2000000 in
theorem desc_clone0 (k n : Int) (c : Nat) (p : Option Addr) (W : World) (hc2 : c ≤ 9223372036854775807) :
    Calls Try.prog 26 #[.agg #[.int .i64 k, .int .i64 n, .slice p 0 c]] W fun e w' => e = .returned (.agg #[.int .i64 k, .int .i64 n, .slice none 0 0]) ∧ Below W.heap.size W w' := by
  have ND := Lib.hid (fun w => desc_nodes0 k n c p w hc2)
  have CP := Lib.hid (fun q w => clone_part0 c p q w)
  obtain ⟨w0, hw0, r0, r1, hB, hs⟩ := clone_start W (.int .i64 k) (.int .i64 n) (.slice p 0 c) (.int .i64 0) (.int .i64 0) (.slice none 0 0) 34
  have l0 : W.heap.size < w0.heap.size := by omega
  have l1 : W.heap.size + 1 < w0.heap.size := by omega
  go_enter Try.func26, Try.ntmps26
  go_wp2_with fail
  rw [← hw0]
  clear hw0
  refine (ND.out _).mono ?_
  rintro e w1 ⟨rfl, b1⟩
  obtain ⟨w2, mk, b2⟩ := make_desc0 w1
  obtain ⟨w3, hw3⟩ : ∃ w3, w2.alloc (.cells #[.slice (some ⟨w1.heap.size, 0, none⟩) 0 0] 32) = w3 := ⟨_, rfl⟩
  have b3 : Below w1.heap.size w1 w3 := by rw [← hw3]; exact b2.alloc b2.size _
  have z0 : w3.cell? ⟨w2.heap.size, 0, none⟩ = some (.slice (some ⟨w1.heap.size, 0, none⟩) 0 0) := by
    have hn := heap_alloc_new w2 (.cells #[.slice (some ⟨w1.heap.size, 0, none⟩) 0 0] 32)
    rw [hw3] at hn
    rw [cell_of_row _ _ _ _ _ _ hn]; rfl
  have b4 := b1.trans (b3.mono b1.size)
  have s0 : w3.heap[W.heap.size]? = _ := (b4.block _ l0).trans r0
  have s1 : w3.heap[W.heap.size + 1]? = _ := (b4.block _ l1).trans r1
  have hB3 := hB.trans (b4.mono hB.size)
  have m0 := Nat.lt_of_lt_of_le l0 b4.size
  have m1 := Nat.lt_of_lt_of_le l1 b4.size
  have m2 := block_lt_of_cell z0
  have m3 : w2.heap.size ≠ W.heap.size := by have := b1.size; have := b2.size; omega
  have m4 : w2.heap.size ≠ W.heap.size + 1 := by have := b1.size; have := b2.size; omega
  clear b1 b2 b3 b4 r0 r1 hB l0 l1 hs
  obtain ⟨x0, x1, x2, f0, f1, f2⟩ := row_cells3 s0
  obtain ⟨y0, y1, y2, g0, g1, g2⟩ := row_cells3 s1
  go_wp2_with fail
  refine (CP.out _ _).mono ?_
  rintro e w4 ⟨rfl, rfl⟩
  obtain ⟨w5, hw5⟩ : ∃ w5, w3.setCell ⟨W.heap.size, 2, none⟩ (.slice none 0 0) = w5 := ⟨_, rfl⟩
  have q0 : w5.heap[W.heap.size]? = some (.cells #[.int .i64 k, .int .i64 n, .slice none 0 0] 34 (0, 0)) := by rw [← hw5, row_setCell3 s0]; rfl
  have q1 : w5.heap[W.heap.size + 1]? = some (.cells #[.int .i64 0, .int .i64 0, .slice none 0 0] 34 (0, 0)) := by rw [← hw5, Below.heap_setCell _ _ _ _ (by show W.heap.size + 1 ≠ W.heap.size; omega)]; exact s1
  have q2 : w5.cell? ⟨w2.heap.size, 0, none⟩ = some (.slice (some ⟨w1.heap.size, 0, none⟩) 0 0) := by rw [← hw5, World.cell?_setCell_far _ _ _ _ (by show W.heap.size ≠ w2.heap.size; omega)]; exact z0
  have hB5 : Below W.heap.size W w5 := by rw [← hw5]; exact hB3.setCell (Nat.le_refl _) _
  have HR := Lib.hid (show (((w5.setCell ⟨W.heap.size + 1, 0, none⟩ (.int .i64 k)).setCell ⟨W.heap.size + 1, 1, none⟩ (.int .i64 n)).setCell ⟨W.heap.size + 1, 2, none⟩ (.slice none 0 0)).heap[W.heap.size + 1]? = some (.cells #[.int .i64 k, .int .i64 n, .slice none 0 0] 34 (0, 0)) by rw [row_setCell3 (row_setCell3 (row_setCell3 q1 _) _) _]; rfl)
  have HB := Lib.hid (((hB5.setCell (p := ⟨W.heap.size + 1, 0, none⟩) (show W.heap.size ≤ W.heap.size + 1 by omega) (.int .i64 k)).setCell (p := ⟨W.heap.size + 1, 1, none⟩) (show W.heap.size ≤ W.heap.size + 1 by omega) (.int .i64 n)).setCell (p := ⟨W.heap.size + 1, 2, none⟩) (show W.heap.size ≤ W.heap.size + 1 by omega) (.slice none 0 0))
  go_wp2_with fail
  clear x0 x1 x2 f0 f1 f2 y0 y1 y2 g0 g1 g2 hw5 hw3 s0 s1 z0 mk hB3 hB5
  obtain ⟨x0, x1, x2, f0, f1, f2⟩ := row_cells3 q0
  obtain ⟨y0, y1, y2, g0, g1, g2⟩ := row_cells3 q1
  go_loopw [5] (fun x wr => x = .int .i64 0 ∧ w5 = wr) (fun _ _ => 0)
  case atStart => exact ⟨rfl, rfl⟩
  case round =>
    obtain ⟨rfl, rfl⟩ := hrel
    go_wp2_with fail
    refine bodyPost_ret (results_cell_row (p := 2) (ty := 34) rfl _ _ _ 34 #[.int .i64 k, .int .i64 n, .slice none 0 0] (0, 0) _ rfl HR.out Try.underlying34 rfl (by kernel_rfl)) rfl ⟨rfl, HB.out⟩
end Go.Proofs.Ytmbcfijhlpeddaa
/- package desc's Clone, for every tree. -/
namespace Go.Proofs.Ytmbcfijhlpeddaa
open Go.ChangeShapes Go.WideShapes Go.ChangeAt Go.RowKit
set_option linter.unusedVariables false
set_option linter.unusedSimpArgs false
/-- All nodes below one, level by level, in a block of new memory. -/
structure Cloned (w : World) (F : Nat) (f : Fo) (q : List Nd) : Prop where
  blk : F < w.heap.size
  room : ∀ x, x < f.cnt * 3 → (w.cell? ⟨F, x, none⟩).isSome = true
  free : ∀ x, w.frozen? ⟨F, x, none⟩ = false
  laid : Laid w F f.len q (fun _ => True)
  top : Ly q f 0
  full : Full f.len q
  rises : Rises f.len q
  len : q.length = f.cnt
theorem Cloned.kids {w : World} {F lim : Nat} {f : Fo} {q : List Nd} (h : Cloned w F f q) (hF : F < lim) (hC : f.cnt ≤ 1048576) : Kids w lim (kidv F 0 f.len) f := by
  have h1 := h.top.len
  have h2 := h.len
  refine kidv_kids (by unfold maxLen; omega) ?_
  exact laid_at hF h.laid h.full f 0 h.top (fun _ _ _ _ => trivial)
theorem Cloned.below {w w' : World} {F : Nat} {f : Fo} {q : List Nd} (h : Cloned w F f q) (hb : w'.heap[F]? = w.heap[F]?) (hz : w.heap.size ≤ w'.heap.size) : Cloned w' F f q := by
  have hc : ∀ x, w'.cell? ⟨F, x, none⟩ = w.cell? ⟨F, x, none⟩ := fun x => World.cell?_of_block hb
  refine ⟨Nat.lt_of_lt_of_le h.blk hz, fun x hx => by rw [hc]; exact h.room x hx, fun x => (World.frozen?_of_block (a := ⟨F, x, none⟩) hb).trans (h.free x), fun j d hj hq => ?_, h.top, h.full, h.rises, h.len⟩
  obtain ⟨a, b, c⟩ := h.laid j d hj hq
  exact ⟨(hc _).trans a, (hc _).trans b, (hc _).trans c⟩
theorem kidv_form (F s n : Nat) : ∃ a c, kidv F s n = .slice a n c := by
  cases n with
  | zero => exact ⟨_, _, rfl⟩
  | succ n => exact ⟨_, _, rfl⟩
/-- The state of Clone's loop. -/
structure ClR (W w : World) (F b C : Nat) (k n : Int) (f : Fo) (q : List Nd) (i : Nat) : Prop where
  lv : Lv f q i
  fl : Fl w F W.heap.size C f.len q i
  bx : Bx w b 32 (.slice (some ⟨F, 0, none⟩) q.length C)
  d0 : w.heap[W.heap.size]? = some (.cells #[.int .i64 k, .int .i64 n, kidv F 0 f.len] 34 (0, 0))
  d1 : w.heap[W.heap.size + 1]? = some (.cells #[.int .i64 0, .int .i64 0, .slice none 0 0] 34 (0, 0))
  be : Below W.heap.size W w
theorem ClR.step {W w w0 w6 : World} {F C : Nat} {k n : Int} {f : Fo} {q : List Nd} {i : Nat} (h : ClR W w F (F + 1) C k n f q i) (h0 : w0.heap = w.heap) (hb0 : Below W.heap.size w w0) {d : Nd} (hd : q[i]? = some d) (hF : Fl w6 F W.heap.size C f.len (q ++ d.ks.top) i) (hZ : Bx w6 (F + 1) 32 (.slice (some ⟨F, 0, none⟩) (q.length + d.ks.len) C))
    (hX : ∀ X, X ≠ F → X ≠ F + 1 → X < w0.heap.size → w6.heap[X]? = w0.heap[X]?) (hB : ∀ B, B ≤ F → B ≤ F + 1 → Below B w0 w6) (hW : W.heap.size + 1 < F) (hz : F < w.heap.size) : ClR W (w6.setCell ⟨F, i * 3 + 2, none⟩ (kidv F q.length d.ks.len)) F (F + 1) C k n f (q ++ d.ks.top) (i + 1) := by
  have hlt := (List.getElem?_eq_some_iff.1 hd).1
  have hdi : (q ++ d.ks.top)[i]? = some d := by rw [List.getElem?_append_left hlt]; exact hd
  have hp : pos f.len (q ++ d.ks.top) i = q.length := by rw [pos_append _ _ _ _ h.lv.le]; exact h.lv.nx
  have hs := hF.store (by omega) hdi
  rw [hp] at hs
  have e6 : ∀ j, j ≠ F → (w6.setCell ⟨F, i * 3 + 2, none⟩ (kidv F q.length d.ks.len)).heap[j]? = w6.heap[j]? := fun j hj => heap_setCell_other _ _ _ _ hj
  refine ⟨h.lv.step hd, hs, ?_, ?_, ?_, ?_⟩
  · unfold Bx
    rw [e6 _ (by omega), List.length_append, Fo.top_len]
    exact hZ
  · rw [e6 _ (by omega), hX _ (by omega) (by omega) (by rw [h0]; omega), h0]; exact h.d0
  · rw [e6 _ (by omega), hX _ (by omega) (by omega) (by rw [h0]; omega), h0]; exact h.d1
  · exact (h.be.trans (hb0.trans (hB W.heap.size (by omega) (by omega)))).setCell (p := ⟨F, i * 3 + 2, none⟩) (show W.heap.size ≤ F by omega) _
theorem ClR.done {W w : World} {F b C : Nat} {k n : Int} {f : Fo} {q : List Nd} (h : ClR W w F b C k n f q q.length) (hC : f.cnt = C) (hc : C ≤ 1048576) : Cloned w F f q := by
  obtain ⟨h1, h2, h3⟩ := h.lv.done (by omega)
  refine ⟨h.fl.blk, fun x hx => h.fl.room x (by omega), h.fl.free, fun j d _ hj => ?_, h.lv.top, h2, h3, h1⟩
  obtain ⟨a, b⟩ := h.fl.num j d hj
  exact ⟨a, b, h.fl.new j d hj (List.getElem?_eq_some_iff.1 hj).1⟩
theorem make_descs (w : World) (C : Nat) (hC : C ≤ 1048576) : ∃ w', (Instr.makeSlice 32 (.int .i64 0) (.int .i64 C)).run Try.prog w = .ok (.slice (some ⟨w.heap.size, 0, none⟩) 0 C) w' ∧ Below w.heap.size w w' ∧ w'.heap.size = w.heap.size + 1 ∧ ∀ lim m, Fl w' w.heap.size lim C m [] 0 := by
  obtain ⟨i, hi, hz, hs, hb⟩ := info_parts (show (Try.prog.info? 34).map (fun i => (i.zero, i.size, i.bytes)) = some (some (.agg #[.int .i64 0, .int .i64 0, .slice none 0 0]), 3, 40) by kernel_rfl)
  have hr := run_make w 32 34 i _ Try.underlying32 hi hz .i64 .i64 0 (C : Int) (by omega) (by omega) (by rw [hb]; omega) (by omega)
  rw [hs] at hr
  refine ⟨_, hr, (Below.refl _ _).alloc (Nat.le_refl _) _, World.size_alloc _ _, fun lim m => ?_⟩
  have hn := heap_alloc_new w (.cells (madeCells (Value.cells (.agg #[.int .i64 0, .int .i64 0, .slice none 0 0])) ((C : Int).toNat * 3)) 34)
  refine ⟨by simp, fun x hx => ?_, fun x => frozen_of_row _ _ _ _ _ hn, fun j d h => by simp at h, fun j d h => by simp at h, fun j d h => by simp at h⟩
  rw [cell_of_row _ _ _ _ _ _ hn, Array.getElem?_eq_getElem (by rw [size_madeCells]; simp; omega)]
  rfl
set_option maxRecDepth 100000 in
set_option maxHeartbeats 4000000 in
theorem desc_clone_of (k n : Int) (v : Value) (f : Fo) (lim : Nat) (W : World) (hK : Kids W lim v f) (hl : lim ≤ W.heap.size) (hC : f.cnt ≤ 1048576)
    (ND : ∀ w, Below W.heap.size W w → Calls Try.prog 35 #[.agg #[.int .i64 k, .int .i64 n, v]] w fun e w' => e = .returned (.int .i64 ((f.cnt : Int) + 1)) ∧ Below w.heap.size w w') :
    Calls Try.prog 26 #[.agg #[.int .i64 k, .int .i64 n, v]] W fun e w' => ∃ F q, e = .returned (.agg #[.int .i64 k, .int .i64 n, kidv F 0 f.len]) ∧ Cloned w' F f q ∧ W.heap.size ≤ F ∧ Below W.heap.size W w' := by
  obtain ⟨w0, hw0, r0, r1, hB, hs⟩ := clone_start W (.int .i64 k) (.int .i64 n) v (.int .i64 0) (.int .i64 0) (.slice none 0 0) 34
  have l0 : W.heap.size < w0.heap.size := by omega
  have l1 : W.heap.size + 1 < w0.heap.size := by omega
  have hK0 := (hK.mono hl).below (Nat.le_refl _) hB
  have ND := Lib.hid (ND w0 hB)
  obtain ⟨C, hCC⟩ : ∃ C, f.cnt = C := ⟨_, rfl⟩
  rw [hCC] at ND hC
  have wC : IntKind.i64.wrap ((C : Int) + 1 - 1) = (C : Int) := by rw [show (C : Int) + 1 - 1 = (C : Int) by omega]; exact IntWalk.i64_in _ (by omega)
  obtain ⟨p, m, c, rfl, hc1, hc2, HM⟩ := hK.shape
  have HK := Lib.hid hK0
  clear hK hK0
  go_enter Try.func26, Try.ntmps26
  go_wp2_with fail
  rw [← hw0]
  clear hw0
  refine (ND.out).mono ?_
  rintro e w1 ⟨rfl, b1⟩
  obtain ⟨w2, mk, b2, s2, hF⟩ := make_descs w1 C hC
  obtain ⟨w3, hw3⟩ : ∃ w3, w2.alloc (.cells #[.slice (some ⟨w1.heap.size, 0, none⟩) 0 C] 32) = w3 := ⟨_, rfl⟩
  have b3 : Below w1.heap.size w1 w3 := by rw [← hw3]; exact b2.alloc b2.size _
  have z0 : Bx w3 w2.heap.size 32 (.slice (some ⟨w1.heap.size, 0, none⟩) 0 C) := by rw [← hw3]; exact Bx.new w2 32 _ _ rfl
  have hF3 : Fl w3 w1.heap.size W.heap.size C f.len [] 0 := by
    rw [← hw3]
    exact (hF W.heap.size f.len).below (by have := b1.size; omega) ((Below.refl _ _).alloc (Nat.le_refl _) _)
  have b4 := b1.trans (b3.mono b1.size)
  have s0 := (b4.block _ l0).trans r0
  have s1 := (b4.block _ l1).trans r1
  have hB3 := hB.trans (b4.mono hB.size)
  have hK3 := HK.out.carry (b4.mono hB.size)
  have m0 : W.heap.size + 1 < w1.heap.size := by have := b1.size; omega
  obtain ⟨b, hb⟩ : ∃ b, w2.heap.size = b := ⟨_, rfl⟩
  rw [hb] at z0
  obtain ⟨F, hFF⟩ : ∃ F, w1.heap.size = F := ⟨_, rfl⟩
  rw [hFF] at z0 hF3 m0 mk hw3
  have hbF : b = F + 1 := by omega
  have m2 : b < w3.heap.size := z0.lt
  subst hbF
  obtain ⟨ka, kc, hkv⟩ := kidv_form F 0 f.len
  have HP := clone_part f (.slice p m c) w3 F (F + 1) W.heap.size C f.len 0 [] hF3 z0 hK3 (by omega) (by omega) (by omega) (by have := Fo.top_kin f; simp; omega) (Nat.zero_le _) hC
  rw [show ([] : List Nd).length = 0 from rfl, hkv] at HP
  have HP := Lib.hid HP
  clear b1 b2 b3 b4 r0 r1 hB l0 l1 hs HK z0 hF3 hK3
  obtain ⟨x0, x1, x2, f0, f1, f2⟩ := row_cells3 s0
  obtain ⟨y0, y1, y2, g0, g1, g2⟩ := row_cells3 s1
  go_wp2_with fail
  with_reducible refine (HP.out).mono ?_
  rintro e w4 ⟨rfl, hF4, z4, s4, hX4, hB4⟩
  have t0 := (hX4 W.heap.size (by omega) (by omega) (by omega)).trans s0
  have t1 := (hX4 (W.heap.size + 1) (by omega) (by omega) (by omega)).trans s1
  have hB4 := hB3.trans (hB4 W.heap.size (by omega) (by omega))
  obtain ⟨w5, hw5⟩ : ∃ w5, w4.setCell ⟨W.heap.size, 2, none⟩ (.slice ka f.len kc) = w5 := ⟨_, rfl⟩
  have e5 : ∀ j, j ≠ W.heap.size → w5.heap[j]? = w4.heap[j]? := fun j hj => by rw [← hw5]; exact heap_setCell_other _ _ _ _ hj
  have hB5 : Below W.heap.size w4 w5 := by rw [← hw5]; exact (Below.refl _ _).setCell (p := ⟨W.heap.size, 2, none⟩) (Nat.le_refl _) _
  have H5 : ClR W w5 F (F + 1) C k n f f.top 0 := by
    refine ⟨Lv.start f, ?_, ?_, ?_, (e5 _ (by omega)).trans t1, hB4.trans hB5⟩
    · exact (by simpa using hF4 : Fl w4 F W.heap.size C f.len f.top 0).keep (e5 _ (by omega)) hB5
    · unfold Bx
      rw [e5 _ (by omega)]
      rw [Fo.top_len]
      have := z4
      rw [Nat.zero_add] at this
      exact this
    · rw [← hw5, row_setCell3 t0, hkv]; rfl
  clear x0 x1 x2 f0 f1 f2 y0 y1 y2 g0 g1 g2 s0 s1 hB3 hw3 hF4 z4 s4 hX4 hB4 hB5 e5 mk hF
  obtain ⟨x0, x1, x2, f0, f1, f2⟩ := row_cells3 t0
  go_wp2_with fail
  clear x0 x1 x2 f0 f1 f2 t0 t1 hw5
  have H5 := Lib.hid H5
  go_loopw [5] (fun x wr => ∃ (i : Nat) (q : List Nd), x = .int .i64 i ∧ Hid (ClR W wr F (F + 1) C k n f q i)) (fun x _ => C - (intOf x).toNat)
  case atStart => exact ⟨0, _, rfl, H5⟩
  case round =>
    clear H5
    obtain ⟨i, q, rfl, H⟩ := hrel
    have zb := H.out.bx.cell
    obtain ⟨L, hL⟩ : ∃ L, q.length = L := ⟨_, rfl⟩
    rw [hL] at zb
    by_cases hi : i < L
    · have d1 : decide ((i : Int) < (L : Int)) = true := decide_eq_true (by omega)
      obtain ⟨d, hd⟩ : ∃ d, q[i]? = some d := ⟨q[i]'(by omega), List.getElem?_eq_getElem (by omega)⟩
      obtain ⟨v, hv, hKv⟩ := H.out.fl.old i d hd (Nat.le_refl _)
      obtain ⟨a', c', rfl, hc1', hc2'⟩ := hKv.form
      obtain ⟨ja, jc, hjv⟩ := kidv_form F L d.ks.len
      have hr := H.out.lv.room hd
      rw [hL, hCC] at hr
      have fF : wr.frozen? ⟨F, i * 3 + 2, none⟩ = false := H.out.fl.free _
      have HPd := Lib.hid (fun (u : World) (hu1 : u.heap = wr.heap) (hu2 : Below W.heap.size wr u) => clone_part d.ks (.slice a' d.ks.len c') u F (F + 1) W.heap.size C f.len i q (H.out.fl.keep (by rw [hu1]) hu2) (by unfold Bx; rw [hu1]; exact H.out.bx) (hKv.carry hu2) (by omega) (by omega) (by omega) (by omega) (by omega) hC)
      rw [hL, hjv] at HPd
      have a1 : i < L + d.ks.len := by omega
      have lC : L ≤ C := by omega
      have lC2 : L + d.ks.len ≤ C := by omega
      have HX := Lib.hid hd
      clear hKv hd
      go_wp2_with fail
      go_region_with (go_at_call 36; with_reducible refine (HPd.out wr.drew rfl ((Below.refl _ _).drew)).mono ?_; rintro e w6 ⟨rfl, hF6, z6, s6, hX6, hB6⟩; obtain ⟨v6, hv6, -⟩ := hF6.old i d (by rw [List.getElem?_append_left (by omega)]; exact HX.out) (Nat.le_refl _); have zc6 := z6.cell; have f6 : w6.frozen? ⟨F, i * 3 + 2, none⟩ = false := hF6.free _; have H6 := Lib.hid hF6; have Z6 := Lib.hid z6; have X6 := Lib.hid hX6; have B6 := Lib.hid hB6; clear hF6 z6 hX6 hB6)
      all_goals
        have HN := Lib.hid (show ClR W (w6.setCell ⟨F, i * 3 + 2, none⟩ (.slice ja d.ks.len jc)) F (F + 1) C k n f (q ++ d.ks.top) (i + 1) by
          have := H.out.step (w0 := wr.drew) rfl ((Below.refl _ _).drew) HX.out H6.out (by rw [hL]; exact Z6.out) X6.out B6.out m0 H.out.fl.blk
          rw [hL, hjv] at this
          exact this)
        clear hv6 zc6 f6 zb hv fF
        go_wp2_with fail
        go_roundw
        case rel => exact ⟨i + 1, _, by go_num, HN⟩
        case measure => (first | (simp [intOf]; done) | (simp [intOf]; omega) | (simp only [intOf]; omega))
    · have hiL : i = L := by have := H.out.lv.le; omega
      have d1 : decide ((i : Int) < (L : Int)) = false := decide_eq_false (by omega)
      obtain ⟨x0, x1, x2, f0, f1, f2⟩ := row_cells3 H.out.d0
      obtain ⟨y0, y1, y2, g0, g1, g2⟩ := row_cells3 H.out.d1
      rw [hkv] at x2
      have hD := (show ClR W wr F (F + 1) C k n f q q.length by rw [hL, ← hiL]; exact H.out).done hCC hC
      have hD := Lib.hid hD
      have HR := Lib.hid (show (((wr.setCell ⟨W.heap.size + 1, 0, none⟩ (.int .i64 k)).setCell ⟨W.heap.size + 1, 1, none⟩ (.int .i64 n)).setCell ⟨W.heap.size + 1, 2, none⟩ (.slice ka f.len kc)).heap[W.heap.size + 1]? = some (.cells #[.int .i64 k, .int .i64 n, .slice ka f.len kc] 34 (0, 0)) by rw [row_setCell3 (row_setCell3 (row_setCell3 H.out.d1 _) _) _]; rfl)
      have HB := Lib.hid (((H.out.be.setCell (p := ⟨W.heap.size + 1, 0, none⟩) (show W.heap.size ≤ W.heap.size + 1 by omega) (.int .i64 k)).setCell (p := ⟨W.heap.size + 1, 1, none⟩) (show W.heap.size ≤ W.heap.size + 1 by omega) (.int .i64 n)).setCell (p := ⟨W.heap.size + 1, 2, none⟩) (show W.heap.size ≤ W.heap.size + 1 by omega) (.slice ka f.len kc))
      have HC := Lib.hid (show Cloned (((wr.setCell ⟨W.heap.size + 1, 0, none⟩ (.int .i64 k)).setCell ⟨W.heap.size + 1, 1, none⟩ (.int .i64 n)).setCell ⟨W.heap.size + 1, 2, none⟩ (.slice ka f.len kc)) F f q from hD.out.below (by rw [heap_setCell_other _ _ _ _ (by show F ≠ W.heap.size + 1; omega), heap_setCell_other _ _ _ _ (by show F ≠ W.heap.size + 1; omega), heap_setCell_other _ _ _ _ (by show F ≠ W.heap.size + 1; omega)]) (by simp))
      clear hD H
      go_wp2_with fail
      refine bodyPost_ret (results_cell_row (p := 2) (ty := 34) rfl _ _ _ 34 #[.int .i64 k, .int .i64 n, .slice ka f.len kc] (0, 0) _ rfl HR.out Try.underlying34 rfl (by kernel_rfl)) rfl ?_
      exact ⟨F, q, by rw [hkv], HC.out, by omega, HB.out⟩
end Go.Proofs.Ytmbcfijhlpeddaa
/- A range over a function whose iterator writes, behind a yield, into memory that it laid itself. -/
namespace Go.Proofs.Ytmbcfijhlpeddaa
open Go.ChangeShapes Go.WideShapes Go.ChangeAt Go.RowKit
set_option linter.unusedVariables false
set_option linter.unusedSimpArgs false
/-- What is said of blocks before B alone. -/
def Low {β : Type} (B : Nat) (J : β → World → Prop) : Prop := ∀ s A C, J s A → Below B A C → J s C
theorem Low.le {β : Type} {B B' : Nat} {J : β → World → Prop} (h : Low B J) (hB : B ≤ B') : Low B' J := fun s A C hj hb => h s A C hj (hb.mono hB)
theorem Low.and {β : Type} {B : Nat} {J K : β → World → Prop} (h : Low B J) (g : Low B K) : Low B (fun s W => J s W ∧ K s W) := fun s A C hj hb => ⟨h s A C hj.1 hb, g s A C hj.2 hb⟩
theorem low_block {β : Type} {B l : Nat} {o : Obj} (hl : l < B) : Low B (fun (_ : β) W => W.heap[l]? = some o) := fun _ _ _ hj hb => (hb.block l hl).trans hj
theorem low_put {β : Type} {B l : Nat} {J : β → World → Prop} (h : Low B J) {s : β} {W : World} (o : Obj) (hj : J s W) (hB : B ≤ l) (hl : l < W.heap.size) : J s (W.putObj l o) :=
  h s _ _ hj ((Below.refl B W).grown (grownBy_putObj' W l o) (by omega) (fun k e => by cases e; exact hB))
/-- The iterator's contract: what it does itself, between its yields, is to memory from its call on. -/
def SeqLow {α : Type} (F : Fence) (n : Nat) (P : Program) (g : Nat) (lb : Array Value) (enc : α → Array Value) (Kp : World → World → Prop) (S Sp : List α → Prop) (N : Nat) (w : World) : Prop :=
  ∀ (l : Nat) (J Jx : List α → World → Prop) (W : World), Below w.heap.size w W → Low W.heap.size J → Low W.heap.size Jx →
    (∀ pre x V, J pre V → pre.length < N → YieldAt F (n - 1) P l (enc x) V fun e V' => (e = .returned (.bool true) ∧ J (pre ++ [x]) V' ∧ Kp V V') ∨ (e = .returned (.bool false) ∧ Jx (pre ++ [x]) V')) →
    J [] W → CallsIn F n P g (#[.func (.yield l) #[] #[]] ++ lb) W fun e W' => (∃ v, e = .returned v) ∧ ((∃ xs, S xs ∧ J xs W') ∨ ∃ pre, Sp pre ∧ Jx pre W')
variable {F : Fence} {n : Nat} {P : Program}
theorem wp_range_low {α : Type} {g : Operand} {ps : Array Tmp} {assign body : Code} {Q : Exit → Act → World → Prop} {a : Act} {w : World}
    (hro : F.round = none) (h1 : 1 ≤ n) {gf : Nat} {lb : Array Value} (hg : a.eval g = .func (.func gf) #[] lb) (hFg : F.fn gf) (eg : ∀ args w, (callFunc gf args).run P w = .ok (.enter gf args) w)
    {enc : α → Array Value} {Kp : World → World → Prop} {S Sp : List α → Prop} {N : Nat} {w0 : World} (hseq : SeqLow F (n - 1) P gf lb enc Kp S Sp N w0)
    (hKt : ∀ A B C : World, Kp A B → Kp B C → Kp A C) (hKb : ∀ (W : World) (l : Nat) (o o' : Obj), w.heap.size ≤ l → W.heap[l]? = some o → o.isCells = false → Kp W (W.putObj l o')) (hb0 : Below w0.heap.size w0 w) (hps : ∀ x, (enc x).size = ps.size)
    (I : List α → World → Prop) (Ix : Code → List α → World → Prop) (hI : Low w.heap.size I) (hIx : ∀ c, Low w.heap.size (Ix c)) (h0 : I [] w) (a₁ : α → Act)
    (hassign : ∀ (l : Nat) (x : α) (W : World) (K : Act → World → Prop), K (a₁ x) W →
      assign.wpIn (F.inRound l) (n - 1 - 1) P (Exit.then K (fun _ _ _ => False)) { tmps := (ps.zip (enc x)).foldl (fun t (p, v) => t.setIfInBounds p v) a.tmps, defers := [] } W)
    (hbody : ∀ (l : Nat) (pre : List α) (x : α) (W : World), I pre W → pre.length < N → body.wpIn (F.inRound l) (n - 1 - 1) P (ownPostK Kp I Ix (pre ++ [x]) W) (a₁ x) W)
    (hdone : ∀ (D : Nat) (xs : List α) (W : World), w.heap.size ≤ D → S xs → I xs W → W.heap[D]? = some (.deferred (some [])) → Q .normal { a with defers := { target := .collected D, args := #[] } :: a.defers } W)
    (hstop : ∀ (D : Nat) (c : Code) (pre : List α) (W : World), w.heap.size ≤ D → Sp pre → Ix c pre W → W.heap[D]? = some (.deferred (some [])) → c.wpIn F n P Q { a with defers := { target := .collected D, args := #[] } :: a.defers } W) :
    (Code.rangeFunc g ps assign body).wpIn F n P Q a w := by
  refine wpIn_rangeFunc (fun fn hfn => ?_)
  rw [hro]
  -- the loop as an object, by its state and what is to be done behind it
  let ob : LoopState → Option Code → Loop := fun st pe => { state := st, pending := pe, fn, tmps := a.tmps, params := ps, assign, body, defers := w.heap.size }
  obtain ⟨L, hL⟩ : ∃ L, w.heap.size + 1 = L := ⟨_, rfl⟩
  obtain ⟨W1, hW1⟩ : ∃ W1, (w.alloc (.deferred (some []))).alloc (.loop (ob .ready none)) = W1 := ⟨_, rfl⟩
  have s1 : W1.heap.size = L + 1 := by rw [← hW1, ← hL]; simp
  have hl1 : W1.heap[L]? = some (.loop (ob .ready none)) := by
    have := World.alloc_heap_new (w.alloc (.deferred (some []))) (.loop (ob .ready none))
    rwa [World.size_alloc, hW1, hL] at this
  have hd1 : W1.heap[w.heap.size]? = some (.deferred (some [])) := by
    rw [← hW1]; exact (Below.heap_alloc _ _ _ (by simp)).trans (World.alloc_heap_new w _)
  have b1 : Below w.heap.size w W1 := by rw [← hW1]; exact ((Below.refl _ w).alloc (Nat.le_refl _) _).alloc (by simp) _
  refine ⟨L, [{ target := .collected w.heap.size, args := #[] }], W1, { target := .fn (.func gf) lb, args := #[.func (.yield L) #[] #[]] }, W1, gf, #[.func (.yield L) #[] #[]] ++ lb, W1, ?_, ?_, ?_, ?_, fun _ => h1, ?_⟩
  · rw [← hW1, ← hL]; exact run_enterLoop_outer _ _ _ _ _
  · simp only [resolve, hg]; simp [go_sem]
  · intro f' hf'; simp [Target.leads] at hf'; subst hf'; exact hFg
  · simp [invoke, go_sem, eg]
  have hlow : ∀ (st : LoopState) (pe : Option Code), Low (β := List α) W1.heap.size (fun _ W => W.heap[L]? = some (.loop (ob st pe)) ∧ W.heap[w.heap.size]? = some (.deferred (some []))) := fun _ _ => (low_block (by omega)).and (low_block (by omega))
  refine (hseq L (fun pre W => I pre W ∧ W.heap[L]? = some (.loop (ob .ready none)) ∧ W.heap[w.heap.size]? = some (.deferred (some [])))
    (fun pre W => ∃ c, Ix c pre W ∧ W.heap[L]? = some (.loop (ob .done (some c))) ∧ W.heap[w.heap.size]? = some (.deferred (some [])))
    W1 (hb0.trans (b1.mono hb0.size)) ((hI.le (by omega)).and (hlow _ _)) (fun s A C hj hb => by
      obtain ⟨c, h1, h2⟩ := hj
      exact ⟨c, (hIx c).le (by omega) s A C h1 hb, hlow _ _ s A C h2 hb⟩) ?_ ⟨hI [] w W1 h0 b1, hl1, hd1⟩).mono ?_
  · -- one round
    rintro pre x V ⟨hi, hl, hd⟩ hn
    have hsz : L < V.heap.size := (Array.getElem?_eq_some_iff.1 hl).1
    obtain ⟨V1, hV1⟩ : ∃ V1, V.putObj L (.loop { ob .ready none with state := .busy }) = V1 := ⟨_, rfl⟩
    have hl1' : V1.heap[L]? = some (.loop { ob .ready none with state := .busy }) := by rw [← hV1]; exact World.putObj_heap_same hsz
    have hd1' : V1.heap[w.heap.size]? = some (.deferred (some [])) := by rw [← hV1]; exact (World.putObj_heap_other (by omega)).trans hd
    have k1 : Kp V V1 := by rw [← hV1]; exact hKb _ _ _ _ (by omega) hl rfl
    have i1 : I pre V1 := by rw [← hV1]; exact low_put hI _ hi (by omega) hsz
    refine ⟨fn, _, assign, body, run_yield (P := P) (args := enc x) hl (hps x), roundIn_of_wpIn hfn (hassign _ x V _ ⟨V1, by rw [← hV1]; exact run_beginRound hl rfl, ?_⟩)⟩
    -- behind the body: the loop's object is as it was; its end is written
    have fin : ∀ (j : Option Code) (V2 : World), KeepsOthers V1 V2 → ∃ V3, (Instr.endRound L j).run P V2 = .ok (.bool j.isNone) V3 ∧ V2.putObj L (.loop (ob (if j.isNone then .ready else .done) j)) = V3 ∧
        V2.heap[L]? = some (.loop { ob .ready none with state := .busy }) ∧ V3.heap[L]? = some (.loop (ob (if j.isNone then .ready else .done) j)) ∧ V3.heap[w.heap.size]? = some (.deferred (some [])) := fun j V2 hk => by
      have e := hk.same _ _ hl1' rfl
      exact ⟨_, run_endRound (P := P) j e, rfl, e, World.putObj_heap_same (Array.getElem?_eq_some_iff.1 e).1, (World.putObj_heap_other (by omega)).trans (hk.same _ _ hd1' rfl)⟩
    have out : ∀ (c : Code) (V2 : World), KeepsOthers V1 V2 → Ix c (pre ++ [x]) V2 → ∃ b V3, (Instr.endRound L (some c)).run P V2 = .ok b V3 ∧ ((Ending.returned b = .returned (.bool true) ∧ (I (pre ++ [x]) V3 ∧ V3.heap[L]? = some (.loop (ob .ready none)) ∧ V3.heap[w.heap.size]? = some (.deferred (some []))) ∧ Kp V V3) ∨
        (Ending.returned b = .returned (.bool false) ∧ ∃ c, Ix c (pre ++ [x]) V3 ∧ V3.heap[L]? = some (.loop (ob .done (some c))) ∧ V3.heap[w.heap.size]? = some (.deferred (some [])))) := fun c V2 hk hi => by
      obtain ⟨V3, r, e, hl2, hl3, hd3⟩ := fin (some c) V2 hk
      exact ⟨_, V3, r, .inr ⟨rfl, c, by rw [← e]; exact low_put (hIx c) _ hi (by omega) (Array.getElem?_eq_some_iff.1 hl2).1, hl3, hd3⟩⟩
    refine wpIn_mono (hbody _ pre x V1 i1 hn) ?_
    rintro e a3 V2 hp
    cases e with
    | normal =>
      obtain ⟨hk, hkp, hi2⟩ := hp
      obtain ⟨V3, r, e, hl2, hl3, hd3⟩ := fin none V2 hk
      exact ⟨_, V3, r, .inl ⟨rfl, ⟨by rw [← e]; exact low_put hI _ hi2 (by omega) (Array.getElem?_eq_some_iff.1 hl2).1, hl3, hd3⟩, hKt _ _ _ (hKt _ _ _ k1 hkp) (by rw [← e]; exact hKb _ _ _ _ (by omega) hl2 rfl)⟩⟩
    | ret => exact out .ret V2 hp.1 hp.2
    | exit i => exact out (.exit i) V2 hp.1 hp.2
    | goto t => exact out (.goto t) V2 hp.1 hp.2
    | panic ch => exact hp.elim
    | outgrown => exact hp.elim
  · rintro e W2 ⟨⟨v, rfl⟩, (⟨xs, hS, hi, hl, hd⟩ | ⟨pre, hSp, c, hi, hl, hd⟩)⟩
    · exact ⟨none, _, run_endLoop (P := P) hl (by simp [ob]), hdone _ xs _ (Nat.le_refl _) hS (low_put hI _ hi (by omega) (Array.getElem?_eq_some_iff.1 hl).1) ((World.putObj_heap_other (by omega)).trans hd)⟩
    · exact ⟨some c, _, run_endLoop (P := P) hl (by simp [ob]), hstop _ c pre _ (Nat.le_refl _) hSp (low_put (hIx c) _ hi (by omega) (Array.getElem?_eq_some_iff.1 hl).1) ((World.putObj_heap_other (by omega)).trans hd)⟩
end Go.Proofs.Ytmbcfijhlpeddaa
