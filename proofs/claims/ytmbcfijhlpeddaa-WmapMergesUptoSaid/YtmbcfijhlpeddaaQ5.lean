/- Put together by program (merge2.py): Ownt Lay Lv Flat Rowsl Nodesl Depthd. -/
import Derived.Deep.Upon
import Derived.RangeFuncNested
import Derived.RangeFuncBound
import Derived.RangeFuncCalls
import Derived.RangeFuncLeaves
import Derived.Shelf.Abstract
import Derived.Shelf.RegionOpen
import Derived.WalkKit
import Derived.OwnWalkIn
import Derived.TacticsInMore
import Derived.LoopNIn
import Derived.LoopIn
import Derived.Test.YtmbcfijhlpeddaaD11
/- Rows of nodes that grow by append, whose kids may lie in memory laid later than the row. -/
namespace Go.Proofs.Ytmbcfijhlpeddaa
open Go.ChangeShapes Go.WideShapes Go.ChangeAt Go.RowKit
set_option linter.unusedVariables false
set_option linter.unusedSimpArgs false
/-- The nodes lie from place o of block b on, in the blocks S. -/
def Fo.AtS (w : World) (S : Nat → Prop) : Fo → Nat → Nat → Prop
  | nil, _, _ => True
  | cons k n ks r, b, o => S b ∧ w.cell? ⟨b, o, none⟩ = some (.int .i64 k) ∧ w.cell? ⟨b, o + 1, none⟩ = some (.int .i64 n) ∧
    (∃ a c, w.cell? ⟨b, o + 2, none⟩ = some (.slice a ks.len c) ∧ ks.len ≤ c ∧ c ≤ maxLen ∧ (ks.len = 0 ∨ ∃ b' o', a = some ⟨b', o', none⟩ ∧ ks.AtS w S b' o')) ∧ r.AtS w S b (o + 3)
theorem Fo.AtS.of : ∀ {f : Fo} {w : World} {lim b o : Nat} (_ : f.At w lim b o), f.AtS w (fun b => b < lim) b o
  | .nil, _, _, _, _, _ => trivial
  | .cons _ _ ks r, w, lim, b, o, ⟨hb, c0, c1, ⟨a, c, c2, h1, h2, h3⟩, hr⟩ => by
    refine ⟨hb, c0, c1, ⟨a, c, c2, h1, h2, ?_⟩, Fo.AtS.of hr⟩
    rcases h3 with h3 | ⟨b', o', e, h3⟩
    · exact .inl h3
    · exact .inr ⟨b', o', e, Fo.AtS.of h3⟩
theorem Fo.AtS.to : ∀ {f : Fo} {w : World} {S : Nat → Prop} {lim b o : Nat} (_ : f.AtS w S b o) (_ : ∀ b, S b → b < lim), f.At w lim b o
  | .nil, _, _, _, _, _, _, _ => trivial
  | .cons _ _ ks r, w, S, lim, b, o, ⟨hb, c0, c1, ⟨a, c, c2, h1, h2, h3⟩, hr⟩, hS => by
    refine ⟨hS _ hb, c0, c1, ⟨a, c, c2, h1, h2, ?_⟩, Fo.AtS.to hr hS⟩
    rcases h3 with h3 | ⟨b', o', e, h3⟩
    · exact .inl h3
    · exact .inr ⟨b', o', e, Fo.AtS.to h3 hS⟩
theorem Fo.AtS.carry : ∀ {f : Fo} {w w' : World} {S S' : Nat → Prop} {b o : Nat} (_ : f.AtS w S b o) (_ : ∀ b, S b → S' b ∧ w'.heap[b]? = w.heap[b]?), f.AtS w' S' b o
  | .nil, _, _, _, _, _, _, _, _ => trivial
  | .cons _ _ ks r, w, w', S, S', b, o, ⟨hb, c0, c1, ⟨a, c, c2, h1, h2, h3⟩, hr⟩, hS => by
    have hw := (hS b hb).2
    refine ⟨(hS b hb).1, (World.cell?_of_block (a := ⟨b, o, none⟩) hw).trans c0, (World.cell?_of_block (a := ⟨b, o + 1, none⟩) hw).trans c1, ⟨a, c, (World.cell?_of_block (a := ⟨b, o + 2, none⟩) hw).trans c2, h1, h2, ?_⟩, Fo.AtS.carry hr hS⟩
    rcases h3 with h3 | ⟨b', o', e, h3⟩
    · exact .inl h3
    · exact .inr ⟨b', o', e, Fo.AtS.carry h3 hS⟩
def KidsS (w : World) (S : Nat → Prop) (v : Value) (f : Fo) : Prop := ∃ a c, v = .slice a f.len c ∧ f.len ≤ c ∧ c ≤ maxLen ∧ (f.len = 0 ∨ ∃ b o, a = some ⟨b, o, none⟩ ∧ f.AtS w S b o)
theorem KidsS.of {w : World} {lim : Nat} {v : Value} {f : Fo} (h : Kids w lim v f) : KidsS w (fun b => b < lim) v f := by
  obtain ⟨a, c, rfl, h1, h2, h3⟩ := h
  exact ⟨a, c, rfl, h1, h2, h3.imp id (fun ⟨b, o, e, h⟩ => ⟨b, o, e, .of h⟩)⟩
theorem KidsS.to {w : World} {S : Nat → Prop} {lim : Nat} {v : Value} {f : Fo} (h : KidsS w S v f) (hS : ∀ b, S b → b < lim) : Kids w lim v f := by
  obtain ⟨a, c, rfl, h1, h2, h3⟩ := h
  exact ⟨a, c, rfl, h1, h2, h3.imp id (fun ⟨b, o, e, h⟩ => ⟨b, o, e, h.to hS⟩)⟩
theorem KidsS.carry {w w' : World} {S S' : Nat → Prop} {v : Value} {f : Fo} (h : KidsS w S v f) (hS : ∀ b, S b → S' b ∧ w'.heap[b]? = w.heap[b]?) : KidsS w' S' v f := by
  obtain ⟨a, c, rfl, h1, h2, h3⟩ := h
  exact ⟨a, c, rfl, h1, h2, h3.imp id (fun ⟨b, o, e, h⟩ => ⟨b, o, e, h.carry hS⟩)⟩
/-- Cells that hold these nodes, three to a node. -/
def NodsS (w : World) (S : Nat → Prop) : List Value → List Nd → Prop
  | xs, [] => xs = []
  | xs, d :: l => ∃ v ys, xs = .int .i64 d.k :: .int .i64 d.n :: v :: ys ∧ KidsS w S v d.ks ∧ NodsS w S ys l
theorem NodsS.len : ∀ {w : World} {S : Nat → Prop} {xs : List Value} {l : List Nd}, NodsS w S xs l → xs.length = l.length * 3
  | _, _, _, [], h => by rw [show _ = [] from h]; rfl
  | _, _, _, d :: l, ⟨v, ys, e, _, h⟩ => by rw [e]; simp [NodsS.len h]; omega
theorem NodsS.append : ∀ {w : World} {S : Nat → Prop} {xs ys : List Value} {l m : List Nd}, NodsS w S xs l → NodsS w S ys m → NodsS w S (xs ++ ys) (l ++ m)
  | _, _, _, _, [], _, h, h2 => by rw [show _ = [] from h]; exact h2
  | _, _, _, _, d :: l, m, ⟨v, zs, e, hk, h⟩, h2 => by rw [e]; exact ⟨v, _, rfl, hk, NodsS.append h h2⟩
theorem NodsS.carry : ∀ {w w' : World} {S S' : Nat → Prop} {xs : List Value} {l : List Nd}, NodsS w S xs l → (∀ b, S b → S' b ∧ w'.heap[b]? = w.heap[b]?) → NodsS w' S' xs l
  | _, _, _, _, _, [], h, _ => h
  | _, _, _, _, _, d :: l, ⟨v, ys, e, hk, h⟩, hb => ⟨v, ys, e, hk.carry hb, h.carry hb⟩
theorem NodsS.one : ∀ {w : World} {S : Nat → Prop} {xs : List Value} {l : List Nd}, NodsS w S xs l → ∀ u ∈ xs, u.oneCell' = true
  | _, _, _, [], h, u, hu => by rw [show _ = [] from h] at hu; cases hu
  | _, _, _, d :: l, ⟨v, ys, e, hk, h⟩, u, hu => by
    obtain ⟨a, c, rfl, _⟩ := hk
    rw [e] at hu
    simp only [List.mem_cons] at hu
    rcases hu with rfl | rfl | rfl | hu
    · rfl
    · rfl
    · rfl
    · exact NodsS.one h u hu
/-- The nodes of a row. -/
def Fo.top : Fo → List Nd
  | .nil => []
  | .cons k n ks r => ⟨k, n, ks⟩ :: r.top
theorem Fo.top_len : ∀ f : Fo, f.top.length = f.len
  | .nil => rfl
  | .cons _ _ _ r => by simp [Fo.top, Fo.len, Fo.top_len r]
theorem Fo.top_at : ∀ (f : Fo) (i : Nat), i < f.len → f.top[i]? = some ⟨f.k i, f.n i, f.kids i⟩
  | .nil, _, h => by simp [Fo.len] at h
  | .cons _ _ _ r, 0, _ => rfl
  | .cons _ _ _ r, i + 1, h => by
    have := Fo.top_at r i (by simp [Fo.len] at h; omega)
    simpa [Fo.top, Fo.k, Fo.n, Fo.kids] using this
theorem nodsS_at {w : World} {S S' : Nat → Prop} {g : Nat} (hS : ∀ b, S b → S' b) (hg : S' g) : ∀ (f : Fo) (xs : List Value) (o : Nat), NodsS w S xs f.top → (∀ j u, xs[j]? = some u → w.cell? ⟨g, o + j, none⟩ = some u) → f.AtS w S' g o
  | .nil, _, _, _, _ => trivial
  | .cons k n ks r, xs, o, ⟨v, ys, e, hk, h⟩, hc => by
    subst e
    obtain ⟨a, c, rfl, h1, h2, h3⟩ := hk
    refine ⟨hg, hc 0 _ rfl, hc 1 _ rfl, ⟨a, c, hc 2 _ rfl, h1, h2, h3.imp id (fun ⟨b', o', e', h'⟩ => ⟨b', o', e', h'.carry (fun b hb => ⟨hS b hb, rfl⟩)⟩)⟩, nodsS_at hS hg r ys (o + 3) h (fun j u hu => ?_)⟩
    have := hc (j + 3) u (by simpa using hu)
    rw [show o + 3 + j = o + (j + 3) by omega]
    exact this
theorem top_take (f : Fo) (i : Nat) (h : i < f.len) : f.top.take (i + 1) = f.top.take i ++ [⟨f.k i, f.n i, f.kids i⟩] := by
  rw [List.take_add_one, Fo.top_at f i h]; rfl
theorem top_take_all (f : Fo) : f.top.take f.len = f.top := by rw [← Fo.top_len]; exact List.take_length
/-- The blocks of the world, but for a row's own. -/
def offB (w : World) (lim B : Nat) (v : Value) (b : Nat) : Prop := b < w.heap.size ∧ v.ownBlock ≠ some b ∧ (b < lim ∨ B ≤ b)
/-- A row of nodes of the call's own; the kids lie anywhere but in it. -/
def OwnT (w : World) (lim B : Nat) (v : Value) (l : List Nd) : Prop := ∃ xs, w.ownsRow B 34 3 v l.length xs ∧ NodsS w (offB w lim B v) xs l
theorem OwnT.nil (w : World) (lim B : Nat) : OwnT w lim B (.slice none 0 0) [] := ⟨[], World.ownsRow_nil w B 34 3, rfl⟩
/-- What leaves the row's block, and all others that there are, as they are. -/
theorem OwnT.below {w w' : World} {lim B : Nat} {v : Value} {l : List Nd} (h : OwnT w lim B v l) (hb : Below w.heap.size w w') : OwnT w' lim B v l := by
  obtain ⟨xs, h1, h2⟩ := h
  exact ⟨xs, World.ownsRow.kept h1 (row := none) ⟨hb.os, hb.tape, hb.output, hb.size, fun i hi _ => hb.block i hi⟩ (by
    by_cases hn : v.ownBlock = none
    · exact .inl hn
    · exact .inr hn), h2.carry (fun b ⟨h3, h4⟩ => ⟨⟨Nat.lt_of_lt_of_le h3 hb.size, h4⟩, hb.block b h3⟩)⟩
/-- A store into a block between. -/
theorem OwnT.keep {w w' : World} {lim B X : Nat} {v : Value} {l : List Nd} (h : OwnT w lim B v l) (hb : But w w' X) (hlX : lim ≤ X) (hXB : X < B) : OwnT w' lim B v l := by
  obtain ⟨xs, h1, h2⟩ := h
  have hz := hb.z
  have hb0 := hb.b 0 (Nat.zero_le _) (Nat.zero_le _)
  refine ⟨xs, World.ownsRow.kept h1 (row := some X) ⟨hb0.os, hb0.tape, hb0.output, hz, fun i hi hne => hb.o i hi (fun e => hne (by rw [e]))⟩ (by
    by_cases hn : v.ownBlock = none
    · exact .inl hn
    · exact .inr (fun e => by have := (World.ownsRow.lt h1 X e).1; omega)), h2.carry (fun b ⟨h3, h4, h5⟩ => ⟨⟨Nat.lt_of_lt_of_le h3 hz, h4, h5⟩, hb.o b h3 (by omega)⟩)⟩
/-- 'append(l, m...)' of one node at least onto such a row, at the operation. -/
theorem wp_append_t {o : Oper} {a : Act} {K : Act → World → Prop} {Q : Exit → Act → World → Prop} {W : World} {lim B : Nat} {v : Value} {l l2 : List Nd} {ad : Addr} {m c : Nat} {news : List Value} (s x : Operand)
    (ho : o.op = .call { callee := .builtin .append, args := #[s, x], argTypes := #[32, 32] }) (hs : a.eval s = v) (hown : OwnT W lim B v l) (hx : a.eval x = .slice (some ad) m c) (hm : l2.length = m) (hn : NodsS W (offB W lim B v) news l2) (hc : ∀ j u, news[j]? = some u → W.cell? (ad.add j) = some u)
    (hB : B ≤ W.heap.size) (h0 : 0 < m) (hlen : l.length + m ≤ 1099511627776)
    (h : ∀ v' w', OwnT w' lim B v' (l ++ l2) → W.grownBy w' v.ownBlock → K (a.put o.dst v') w') : o.wp Try.prog a W K Q := by
  obtain ⟨i0, hi⟩ : ∃ i, Try.prog.info? 34 = some i := by
    cases h0 : Try.prog.info? 34 with
    | none => have := info_desc; rw [h0] at this; cases this
    | some i => exact ⟨i, rfl⟩
  have h1 := info_desc
  rw [hi] at h1
  simp only [Option.map_some, Option.some.injEq, Prod.mk.injEq] at h1
  obtain ⟨hz, hsz, hby⟩ := h1
  obtain ⟨z, hz1, hz2⟩ : ∃ z, i0.zero = some z ∧ z.cells.size = 3 := by
    cases h0 : i0.zero with
    | none => rw [h0] at hz; cases hz
    | some z => rw [h0] at hz; simp at hz; exact ⟨z, rfl, hz⟩
  obtain ⟨xs, ho1, ho2⟩ := hown
  refine wp_append_lies _ s x 32 ho B 34 i0 z 3 40 Try.underlying32 hi hz1 hsz hby hz2 (by decide) v l.length xs hs ho1 ad m c news hx (by rw [hn.len, hm]) hc hn.one h0 (by unfold maxLen; omega) (by omega) hB _ rfl ?_
  intro g cap w' h2 h3 h4 _
  refine h _ w' ⟨_, by rw [List.length_append, hm]; exact h2, (ho2.append hn).carry (fun b ⟨hb1, hb2, hb3⟩ => ⟨⟨Nat.lt_of_lt_of_le hb1 h3.size, fun e => ?_, hb3⟩, h3.block b hb1 (fun e => hb2 e.symm)⟩)⟩ h3
  have e' : g = b := by simpa [Value.ownBlock] using e
  subst e'
  rcases h4 with h4 | h4
  · exact hb2 h4
  · omega
/-- At the end: the row's value, with all that is below it. -/
theorem OwnT.kidsS {w : World} {lim B : Nat} {v : Value} {f : Fo} (h : OwnT w lim B v f.top) : KidsS w (fun b => b < w.heap.size ∧ (b < lim ∨ B ≤ b)) v f := by
  obtain ⟨xs, ⟨h0, h1⟩, h2⟩ := h
  rw [Fo.top_len] at h1
  rcases h1 with ⟨rfl, hn⟩ | ⟨g, cap, cur, rfl, hb, hh, hn, hm, hs, ht⟩
  · exact ⟨none, 0, by rw [hn], by omega, by unfold maxLen; omega, .inl (by omega)⟩
  · have hg : g < w.heap.size := Nat.lt_of_not_le fun hn => by rw [Array.getElem?_eq_none hn] at hh; cases hh
    refine ⟨_, cap, rfl, by omega, hm, .inr ⟨g, 0, rfl, nodsS_at (fun b hb => ⟨hb.1, hb.2.2⟩) ⟨hg, .inr hb⟩ f xs 0 h2 (fun j u hu => ?_)⟩⟩
    rw [Fo.top_len] at h0
    have hj : j < f.len * 3 := by rw [← h0]; exact (List.getElem?_eq_some_iff.1 hu).1
    rw [Nat.zero_add, cell_of_row w g j _ _ _ hh, ← hu, ← ht, List.getElem?_take, if_pos hj]
    simp
theorem OwnT.kids {w : World} {lim B : Nat} {v : Value} {f : Fo} (h : OwnT w lim B v f.top) : Kids w w.heap.size v f := h.kidsS.to (fun _ hb => hb.1)
theorem OwnT.ownLe {w : World} {lim B : Nat} {v : Value} {l : List Nd} (h : OwnT w lim B v l) : ∀ i, v.ownBlock = some i → B ≤ i := fun i hi => by
  obtain ⟨xs, h1, _⟩ := h
  exact (World.ownsRow.lt h1 i hi).1
theorem OwnT.ownLt {w : World} {lim B : Nat} {v : Value} {l : List Nd} (h : OwnT w lim B v l) : ∀ i, v.ownBlock = some i → i < w.heap.size := fun i hi => by
  obtain ⟨xs, h1, _⟩ := h
  exact (World.ownsRow.lt h1 i hi).2
theorem OwnT.form {w : World} {lim B : Nat} {v : Value} {l : List Nd} (h : OwnT w lim B v l) : ∃ a n c, v = .slice a n c := by
  obtain ⟨xs, ⟨_, h1⟩, _⟩ := h
  rcases h1 with ⟨rfl, hn⟩ | ⟨g, cap, cur, rfl, _⟩
  · exact ⟨none, 0, 0, rfl⟩
  · exact ⟨_, _, cap, rfl⟩
end Go.Proofs.Ytmbcfijhlpeddaa
/- Nodes level by level: the layout that package desc's Clone makes, and another node put into it: numbers. -/
namespace Go.Proofs.Ytmbcfijhlpeddaa
open Go.ChangeShapes Go.WideShapes Go.ChangeAt Go.RowKit
set_option linter.unusedVariables false
set_option linter.unusedSimpArgs false
/-- How many are below some nodes. -/
def kin : List Nd → Nat
  | [] => 0
  | d :: q => d.ks.cnt + kin q
theorem kin_append : ∀ a b : List Nd, kin (a ++ b) = kin a + kin b
  | [], b => by simp [kin]
  | d :: a, b => by simp [kin, kin_append a b]; omega
theorem Fo.top_kin : ∀ f : Fo, f.cnt = f.len + kin f.top
  | .nil => rfl
  | .cons _ _ ks r => by have := Fo.top_kin r; simp only [Fo.cnt, Fo.len, Fo.top, kin]; omega
/-- Where the kids of the j-th node begin. -/
def pos : Nat → List Nd → Nat → Nat
  | m, _, 0 => m
  | m, [], _ + 1 => m
  | m, d :: q, j + 1 => pos (m + d.ks.len) q j
theorem pos_zero (m : Nat) (q : List Nd) : pos m q 0 = m := by cases q <;> rfl
theorem pos_succ : ∀ (q : List Nd) (m j : Nat) (d : Nd), q[j]? = some d → pos m q (j + 1) = pos m q j + d.ks.len
  | [], _, _, _, h => by simp at h
  | x :: q, m, 0, d, h => by
    obtain rfl : x = d := by simpa using h
    show pos (m + x.ks.len) q 0 = pos m (x :: q) 0 + x.ks.len
    rw [pos_zero, pos_zero]
  | x :: q, m, j + 1, d, h => by
    have := pos_succ q (m + x.ks.len) j d (by simpa using h)
    exact this
theorem pos_append : ∀ (q r : List Nd) (m j : Nat), j ≤ q.length → pos m (q ++ r) j = pos m q j
  | q, r, m, 0, _ => by rw [pos_zero, pos_zero]
  | [], r, m, j + 1, h => by simp at h
  | x :: q, r, m, j + 1, h => pos_append q r (m + x.ks.len) j (by simpa using h)
theorem pos_next (q : List Nd) (m j : Nat) : pos m q j ≤ pos m q (j + 1) := by
  induction q generalizing m j with
  | nil => cases j <;> exact Nat.le_refl _
  | cons x q ih =>
    cases j with
    | zero => show m ≤ pos (m + x.ks.len) q 0; rw [pos_zero]; omega
    | succ j => exact ih (m + x.ks.len) j
theorem pos_le (q : List Nd) (m : Nat) {j i : Nat} (h : j ≤ i) : pos m q j ≤ pos m q i := by
  induction i with
  | zero => obtain rfl : j = 0 := by omega
            exact Nat.le_refl _
  | succ i ih =>
    by_cases hj : j = i + 1
    · subst hj; exact Nat.le_refl _
    · exact Nat.le_trans (ih (by omega)) (pos_next q m i)
theorem pos_ge (q : List Nd) (m j : Nat) : m ≤ pos m q j := by have := pos_le q m (Nat.zero_le j); rwa [pos_zero] at this
/-- Who has kids lies ahead of them. -/
def Rises (m : Nat) (q : List Nd) : Prop := ∀ j d, q[j]? = some d → 0 < d.ks.len → j < pos m q j
/-- e is j, or lies below it. -/
inductive Sub (m : Nat) (q : List Nd) (j : Nat) : Nat → Prop where
  | refl : Sub m q j j
  | step {p e : Nat} (d : Nd) (h : Sub m q j p) (hp : q[p]? = some d) (h1 : pos m q p ≤ e) (h2 : e < pos m q p + d.ks.len) : Sub m q j e
theorem Sub.le {m : Nat} {q : List Nd} (hR : Rises m q) {j e : Nat} (h : Sub m q j e) : j ≤ e := by
  induction h with
  | refl => exact Nat.le_refl _
  | step d _ hp h1 h2 ih => have := hR _ d hp (by omega); omega
theorem Sub.front {m : Nat} {q : List Nd} {j c e : Nat} {d : Nd} (hj : q[j]? = some d) (h1 : pos m q j ≤ c) (h2 : c < pos m q j + d.ks.len) (h : Sub m q c e) : Sub m q j e := by
  induction h with
  | refl => exact .step d .refl hj h1 h2
  | step d' _ hp g1 g2 ih => exact .step d' ih hp g1 g2
theorem parent_one {m : Nat} {q : List Nd} {p p' e : Nat} {d d' : Nd} (hp : q[p]? = some d) (hp' : q[p']? = some d') (h1 : pos m q p ≤ e) (h2 : e < pos m q p + d.ks.len) (h1' : pos m q p' ≤ e) (h2' : e < pos m q p' + d'.ks.len) : p = p' := by
  rcases Nat.lt_trichotomy p p' with h | h | h
  · have := pos_le q m (show p + 1 ≤ p' from h); rw [pos_succ q m p d hp] at this; omega
  · exact h
  · have := pos_le q m (show p' + 1 ≤ p from h); rw [pos_succ q m p' d' hp'] at this; omega
theorem Sub.comp {m : Nat} {q : List Nd} {a b e : Nat} (ha : Sub m q a e) : Sub m q b e → Sub m q a b ∨ Sub m q b a := by
  induction ha with
  | refl => exact fun h => .inr h
  | step d h0 hp h1 h2 ih =>
    intro hb
    cases hb with
    | refl => exact .inl (.step d h0 hp h1 h2)
    | step d' h' hp' h1' h2' =>
      obtain rfl := parent_one hp hp' h1 h2 h1' h2'
      exact ih h'
theorem sibs_kids {m : Nat} {q : List Nd} (hR : Rises m q) {p : Nat} {d : Nd} (hp : q[p]? = some d) {a b e : Nat} (a1 : pos m q p ≤ a) (a2 : a < pos m q p + d.ks.len) (b1 : pos m q p ≤ b) (b2 : b < pos m q p + d.ks.len) (hne : a ≠ b) (ha : Sub m q a e) (hb : Sub m q b e) : False := by
  have key : ∀ x y, pos m q p ≤ x → pos m q p ≤ y → y < pos m q p + d.ks.len → x ≠ y → Sub m q x y → False := by
    intro x y x1 y1 y2 hxy h
    cases h with
    | refl => exact hxy rfl
    | step d' h' hp' h1' h2' =>
      obtain rfl := parent_one hp hp' y1 y2 h1' h2'
      have := h'.le hR
      have := hR _ d hp (by omega)
      omega
  rcases ha.comp hb with h | h
  · exact key a b a1 b1 b2 hne h
  · exact key b a b1 a1 a2 (Ne.symm hne) h
theorem sibs_top {m : Nat} {q : List Nd} {a b e : Nat} (a2 : a < m) (b2 : b < m) (hne : a ≠ b) (ha : Sub m q a e) (hb : Sub m q b e) : False := by
  have key : ∀ x y, y < m → x ≠ y → Sub m q x y → False := by
    intro x y y2 hxy h
    cases h with
    | refl => exact hxy rfl
    | step d' h' hp' h1' h2' => have := pos_ge q m; rename_i p; have := pos_ge q m p; omega
  rcases ha.comp hb with h | h
  · exact key a b b2 hne h
  · exact key b a a2 (Ne.symm hne) h
/-- A row's nodes stand from place s on. -/
def Ly (q : List Nd) (f : Fo) (s : Nat) : Prop := ∀ t, t < f.len → q[s + t]? = some ⟨f.k t, f.n t, f.kids t⟩
theorem Ly.tail {q : List Nd} {k n : Int} {ks r : Fo} {s : Nat} (h : Ly q (.cons k n ks r) s) : Ly q r (s + 1) := fun t ht => by
  have := h (t + 1) (by show t + 1 < r.len + 1; omega)
  rw [show s + 1 + t = s + (t + 1) by omega]
  exact this
/-- The value of a row of kids in block F. -/
def kidv (F s : Nat) : Nat → Value
  | 0 => .slice none 0 0
  | l + 1 => .slice (some ⟨F, s * 3, none⟩) (l + 1) (l + 1)
theorem kidv_kids {w : World} {lim F s : Nat} {f : Fo} (hm : f.len ≤ maxLen) (h : f.At w lim F (s * 3)) : Kids w lim (kidv F s f.len) f := by
  cases hf : f.len with
  | zero => exact ⟨none, 0, by rw [hf]; rfl, by omega, by unfold maxLen; omega, .inl hf⟩
  | succ l => exact ⟨some ⟨F, s * 3, none⟩, l + 1, by rw [hf]; rfl, by omega, by omega, .inr ⟨F, s * 3, rfl, h⟩⟩
/-- One node in its place. -/
def NodeAt (w : World) (lim F s : Nat) (k n : Int) (ks : Fo) : Prop := w.cell? ⟨F, s * 3, none⟩ = some (.int .i64 k) ∧ w.cell? ⟨F, s * 3 + 1, none⟩ = some (.int .i64 n) ∧ ∃ v, w.cell? ⟨F, s * 3 + 2, none⟩ = some v ∧ Kids w lim v ks
theorem at_of_nodes {w : World} {lim F : Nat} (hF : F < lim) : ∀ (f : Fo) (s : Nat), (∀ t, t < f.len → NodeAt w lim F (s + t) (f.k t) (f.n t) (f.kids t)) → f.At w lim F (s * 3)
  | .nil, _, _ => trivial
  | .cons k n ks r, s, h => by
    obtain ⟨c0, c1, v, c2, a, c, rfl, h1, h2, h3⟩ := h 0 (by show 0 < r.len + 1; omega)
    refine ⟨hF, c0, c1, ⟨a, c, c2, h1, h2, h3⟩, ?_⟩
    have := at_of_nodes hF r (s + 1) (fun t ht => by
      have := h (t + 1) (by show t + 1 < r.len + 1; omega)
      rw [show s + 1 + t = s + (t + 1) by omega]
      exact this)
    rw [show s * 3 + 3 = (s + 1) * 3 by omega]
    exact this
/-- All nodes lie in block F, but for those that are not ok. -/
def Laid (w : World) (F m : Nat) (q : List Nd) (ok : Nat → Prop) : Prop := ∀ j d, ok j → q[j]? = some d → w.cell? ⟨F, j * 3, none⟩ = some (.int .i64 d.k) ∧ w.cell? ⟨F, j * 3 + 1, none⟩ = some (.int .i64 d.n) ∧ w.cell? ⟨F, j * 3 + 2, none⟩ = some (kidv F (pos m q j) d.ks.len)
/-- Each one's kids stand where they begin. -/
def Full (m : Nat) (q : List Nd) : Prop := ∀ j d, q[j]? = some d → Ly q d.ks (pos m q j) ∧ d.ks.len ≤ maxLen
theorem laid_at {w : World} {lim F m : Nat} {q : List Nd} {ok : Nat → Prop} (hF : F < lim) (hL : Laid w F m q ok) (hf : Full m q) : ∀ (f : Fo) (s : Nat), Ly q f s → (∀ t, t < f.len → ∀ x, Sub m q (s + t) x → ok x) → f.At w lim F (s * 3)
  | .nil, _, _, _ => trivial
  | .cons k n ks r, s, h, hok => by
    have h0 : q[s]? = some ⟨k, n, ks⟩ := h 0 (by show 0 < r.len + 1; omega)
    obtain ⟨c0, c1, c2⟩ := hL s _ (hok 0 (by show 0 < r.len + 1; omega) _ .refl) h0
    obtain ⟨l1, l2⟩ := hf s _ h0
    have hk := laid_at hF hL hf ks (pos m q s) l1 (fun t ht x hx => hok 0 (by show 0 < r.len + 1; omega) x (Sub.front h0 (Nat.le_add_right _ _) (Nat.add_lt_add_left ht _) hx))
    obtain ⟨a, c, e, h1, h2, h3⟩ := kidv_kids l2 hk
    refine ⟨hF, c0, c1, ⟨a, c, by rw [c2]; exact congrArg some e, h1, h2, h3⟩, ?_⟩
    have := laid_at hF hL hf r (s + 1) h.tail (fun t ht x hx => hok (t + 1) (by show t + 1 < r.len + 1; omega) x (by rw [show s + (t + 1) = s + 1 + t by omega]; exact hx))
    rw [show s * 3 + 3 = (s + 1) * 3 by omega]
    exact this
end Go.Proofs.Ytmbcfijhlpeddaa
/- Nodes level by level: how the list of all nodes grows: numbers. -/
namespace Go.Proofs.Ytmbcfijhlpeddaa
open Go.ChangeShapes Go.WideShapes Go.ChangeAt Go.RowKit
set_option linter.unusedVariables false
set_option linter.unusedSimpArgs false
theorem Ly.append {q r : List Nd} {f : Fo} {s : Nat} (h : Ly q f s) : Ly (q ++ r) f s := fun t ht => by
  have := h t ht
  rw [List.getElem?_append_left (List.getElem?_eq_some_iff.1 this).1]
  exact this
theorem Ly.of_top (q : List Nd) (f : Fo) : Ly (q ++ f.top) f q.length := fun t ht => by
  rw [List.getElem?_append_right (by omega), show q.length + t - q.length = t by omega]
  exact Fo.top_at f t ht
/-- The list q of nodes, behind i of them. -/
structure Lv (f : Fo) (q : List Nd) (i : Nat) : Prop where
  top : Ly q f 0
  le : i ≤ q.length
  cnt : q.length + kin (q.drop i) = f.cnt
  nx : pos f.len q i = q.length
  ly : ∀ j d, j < i → q[j]? = some d → Ly q d.ks (pos f.len q j)
  up : ∀ j, j < i → j < pos f.len q j
theorem Lv.start (f : Fo) : Lv f f.top 0 := by
  refine ⟨fun t ht => ?_, Nat.zero_le _, ?_, ?_, fun j d h => by omega, fun j h => by omega⟩
  · rw [Nat.zero_add]; exact Fo.top_at f t ht
  · rw [List.drop_zero, Fo.top_len]; exact (Fo.top_kin f).symm
  · rw [pos_zero, Fo.top_len]
theorem drop_at {q : List Nd} {i : Nat} {d : Nd} (hd : q[i]? = some d) : q.drop i = d :: q.drop (i + 1) := by
  obtain ⟨h1, h2⟩ := List.getElem?_eq_some_iff.1 hd
  rw [← h2]; exact List.drop_eq_getElem_cons h1
theorem Lv.room {f : Fo} {q : List Nd} {i : Nat} (h : Lv f q i) {d : Nd} (hd : q[i]? = some d) : q.length + d.ks.len ≤ f.cnt := by
  have h1 := h.cnt
  have h2 := Fo.top_kin d.ks
  rw [drop_at hd, kin] at h1
  omega
theorem Lv.step {f : Fo} {q : List Nd} {i : Nat} (h : Lv f q i) {d : Nd} (hd : q[i]? = some d) : Lv f (q ++ d.ks.top) (i + 1) := by
  have hlt := (List.getElem?_eq_some_iff.1 hd).1
  have hdi : (q ++ d.ks.top)[i]? = some d := by rw [List.getElem?_append_left hlt]; exact hd
  have hp : pos f.len (q ++ d.ks.top) i = q.length := by rw [pos_append _ _ _ _ h.le]; exact h.nx
  refine ⟨h.top.append, by simp; omega, ?_, ?_, fun j e hj he => ?_, fun j hj => ?_⟩
  · have h1 := h.cnt
    have h2 := Fo.top_kin d.ks
    rw [drop_at hd, kin] at h1
    rw [List.drop_append_of_le_length (by omega), kin_append, List.length_append, Fo.top_len]
    omega
  · rw [pos_succ _ _ _ _ hdi, hp, List.length_append, Fo.top_len]
  · by_cases e1 : j = i
    · subst e1
      rw [hdi] at he; cases he
      rw [hp]
      exact Ly.of_top q _
    · have hj2 : j < q.length := by omega
      rw [List.getElem?_append_left hj2] at he
      rw [pos_append _ _ _ _ (by omega)]
      exact (h.ly j e (by omega) he).append
  · by_cases e1 : j = i
    · subst e1; rw [hp]; exact hlt
    · rw [pos_append _ _ _ _ (by omega)]
      exact h.up j (by omega)
theorem Lv.lens {f : Fo} {q : List Nd} {i : Nat} (h : Lv f q i) : q.length ≤ f.cnt := by have := h.cnt; omega
theorem Ly.len {q : List Nd} {f : Fo} {s : Nat} (h : Ly q f s) : f.len ≤ q.length := by
  cases hf : f.len with
  | zero => omega
  | succ l =>
    have := (List.getElem?_eq_some_iff.1 (h l (by omega))).1
    omega
theorem Lv.done {f : Fo} {q : List Nd} (h : Lv f q q.length) (hC : f.cnt ≤ 1048576) : q.length = f.cnt ∧ Full f.len q ∧ Rises f.len q := by
  have h1 := h.cnt
  rw [List.drop_length] at h1
  refine ⟨by simpa [kin] using h1, fun j d hj => ?_, fun j d hj _ => h.up j (List.getElem?_eq_some_iff.1 hj).1⟩
  have := h.ly j d (List.getElem?_eq_some_iff.1 hj).1 hj
  have h2 := this.len
  have h3 := h.lens
  exact ⟨this, by unfold maxLen; omega⟩
end Go.Proofs.Ytmbcfijhlpeddaa
/- package desc's Clone: the nodes in one piece, level by level; its part. -/
namespace Go.Proofs.Ytmbcfijhlpeddaa
open Go.ChangeShapes Go.WideShapes Go.ChangeAt Go.RowKit
set_option linter.unusedVariables false
set_option linter.unusedSimpArgs false
/-- The state of the copy: the nodes q lie in block F; the first i of them have kids that lie there too. -/
structure Fl (w : World) (F lim C m : Nat) (q : List Nd) (i : Nat) : Prop where
  blk : F < w.heap.size
  room : ∀ x, x < C * 3 → (w.cell? ⟨F, x, none⟩).isSome = true
  free : ∀ x, w.frozen? ⟨F, x, none⟩ = false
  num : ∀ j d, q[j]? = some d → w.cell? ⟨F, j * 3, none⟩ = some (.int .i64 d.k) ∧ w.cell? ⟨F, j * 3 + 1, none⟩ = some (.int .i64 d.n)
  old : ∀ j d, q[j]? = some d → i ≤ j → ∃ v, w.cell? ⟨F, j * 3 + 2, none⟩ = some v ∧ Kids w lim v d.ks
  new : ∀ j d, q[j]? = some d → j < i → w.cell? ⟨F, j * 3 + 2, none⟩ = some (kidv F (pos m q j) d.ks.len)
theorem Fl.keep {w w' : World} {F lim C m i : Nat} {q : List Nd} (h : Fl w F lim C m q i) (hF : w'.heap[F]? = w.heap[F]?) (hB : Below lim w w') : Fl w' F lim C m q i := by
  have hc : ∀ x, w'.cell? ⟨F, x, none⟩ = w.cell? ⟨F, x, none⟩ := fun x => World.cell?_of_block hF
  refine ⟨Nat.lt_of_lt_of_le h.blk hB.size, fun x hx => by rw [hc]; exact h.room x hx, fun x => (World.frozen?_of_block (a := ⟨F, x, none⟩) hF).trans (h.free x), fun j d hj => ?_, fun j d hj hi => ?_, fun j d hj hi => ?_⟩
  · rw [hc, hc]; exact h.num j d hj
  · obtain ⟨v, h1, h2⟩ := h.old j d hj hi
    exact ⟨v, by rw [hc]; exact h1, h2.carry hB⟩
  · rw [hc]; exact h.new j d hj hi
theorem Fl.below {w w' : World} {F lim C m i : Nat} {q : List Nd} (h : Fl w F lim C m q i) (hl : lim ≤ w.heap.size) (hB : Below w.heap.size w w') : Fl w' F lim C m q i := h.keep (hB.block F h.blk) (hB.mono hl)
theorem Fl.store {w : World} {F lim C m i : Nat} {q : List Nd} (h : Fl w F lim C m q i) (hl : lim ≤ F) {d : Nd} (hd : q[i]? = some d) : Fl (w.setCell ⟨F, i * 3 + 2, none⟩ (kidv F (pos m q i) d.ks.len)) F lim C m q (i + 1) := by
  have hB : Below lim w (w.setCell ⟨F, i * 3 + 2, none⟩ (kidv F (pos m q i) d.ks.len)) := (Below.refl _ _).setCell hl _
  have hc : ∀ x, x ≠ i * 3 + 2 → (w.setCell ⟨F, i * 3 + 2, none⟩ (kidv F (pos m q i) d.ks.len)).cell? ⟨F, x, none⟩ = w.cell? ⟨F, x, none⟩ := fun x hx => World.cell?_setCell_other _ _ _ _ (fun e => hx (by cases e; rfl))
  obtain ⟨u, hu, _⟩ := h.old i d hd (Nat.le_refl _)
  have hs := World.cell?_setCell_same w ⟨F, i * 3 + 2, none⟩ (kidv F (pos m q i) d.ks.len) hu
  refine ⟨by simpa using h.blk, fun x hx => ?_, fun x => by rw [World.frozen?_setCell]; exact h.free x, fun j d' hj => ?_, fun j d' hj hi => ?_, fun j d' hj hi => ?_⟩
  · by_cases e : x = i * 3 + 2
    · subst e; rw [hs]; rfl
    · rw [hc x e]; exact h.room x hx
  · rw [hc _ (by omega), hc _ (by omega)]; exact h.num j d' hj
  · obtain ⟨v, h1, h2⟩ := h.old j d' hj (by omega)
    exact ⟨v, by rw [hc _ (by omega)]; exact h1, h2.carry hB⟩
  · by_cases e : j = i
    · subst e
      obtain rfl : d = d' := by rw [hd] at hj; cases hj; rfl
      exact hs
    · rw [hc _ (by omega)]; exact h.new j d' hj (by omega)
/-- A row's cells, as nodes. -/
theorem at_nods : ∀ (f : Fo) (w : World) (lim b o : Nat), f.At w lim b o → ∃ news, Nods w lim news f.top ∧ ∀ j u, news[j]? = some u → w.cell? ⟨b, o + j, none⟩ = some u
  | .nil, _, _, _, _, _ => ⟨[], rfl, fun j u h => by simp at h⟩
  | .cons k n ks r, w, lim, b, o, ⟨hb, c0, c1, ⟨a, c, c2, h1, h2, h3⟩, hr⟩ => by
    obtain ⟨ys, hy, hc⟩ := at_nods r w lim b (o + 3) hr
    refine ⟨.int .i64 k :: .int .i64 n :: .slice a ks.len c :: ys, ⟨.slice a ks.len c, ys, rfl, ⟨a, c, rfl, h1, h2, h3⟩, hy⟩, fun j u hj => ?_⟩
    match j, hj with
    | 0, hj => simp at hj; subst hj; exact c0
    | 1, hj => simp at hj; subst hj; exact c1
    | 2, hj => simp at hj; subst hj; exact c2
    | j + 3, hj => rw [show o + (j + 3) = o + 3 + j by omega]; exact hc j u (by simpa using hj)
theorem but_setCells (F : Nat) : ∀ (vs : List Value) (o : Nat) (w : World), But w (w.setCells F o vs) F
  | [], _, w => But.refl w F
  | v :: r, o, w => (But.set w F o v).trans (but_setCells F r (o + 1) _)
theorem Fl.append {w : World} {F lim C m i : Nat} {q l : List Nd} {news : List Value} (h : Fl w F lim C m q i) (hl : lim ≤ F) (hi : i ≤ q.length) (hn : Nods w lim news l) (hr : q.length + l.length ≤ C) : Fl (w.setCells F (q.length * 3) news) F lim C m (q ++ l) i := by
  have hlF : F < w.heap.size := h.blk
  have hB : Below lim w (w.setCells F (q.length * 3) news) := (but_setCells F news (q.length * 3) w).b lim hl (by omega)
  have hlen := hn.len
  have hin := World.cell?_setCells_in F news (q.length * 3) w (fun j hj => h.room _ (by omega))
  have hout : ∀ x, x < q.length * 3 → (w.setCells F (q.length * 3) news).cell? ⟨F, x, none⟩ = w.cell? ⟨F, x, none⟩ := fun x hx => World.cell?_setCells_out F news _ w ⟨F, x, none⟩ (fun _ _ => .inl hx)
  have hin2 : ∀ x u, news[x]? = some u → (w.setCells F (q.length * 3) news).cell? ⟨F, q.length * 3 + x, none⟩ = some u := fun x u hx => by
    obtain ⟨h1, h2⟩ := List.getElem?_eq_some_iff.1 hx
    rw [hin x h1, h2]
  have hq : ∀ j d, (q ++ l)[j]? = some d → (j < q.length ∧ q[j]? = some d) ∨ (q.length ≤ j ∧ l[j - q.length]? = some d) := fun j d hj => by
    by_cases hlt : j < q.length
    · exact .inl ⟨hlt, by rwa [List.getElem?_append_left hlt] at hj⟩
    · exact .inr ⟨by omega, by rwa [List.getElem?_append_right (by omega)] at hj⟩
  have hnew : ∀ j d, q.length ≤ j → l[j - q.length]? = some d → (w.setCells F (q.length * 3) news).cell? ⟨F, j * 3, none⟩ = some (.int .i64 d.k) ∧ (w.setCells F (q.length * 3) news).cell? ⟨F, j * 3 + 1, none⟩ = some (.int .i64 d.n) ∧ ∃ v, (w.setCells F (q.length * 3) news).cell? ⟨F, j * 3 + 2, none⟩ = some v ∧ Kids (w.setCells F (q.length * 3) news) lim v d.ks := fun j d h1 h2 => by
    obtain ⟨h3, h4⟩ := List.getElem?_eq_some_iff.1 h2
    obtain ⟨v, a0, a1, a2, hk⟩ := hn.get (j - q.length) h3
    rw [h4] at a0 a1 hk
    have b0 := hin2 _ _ a0
    have b1 := hin2 _ _ a1
    have b2 := hin2 _ _ a2
    rw [show q.length * 3 + (j - q.length) * 3 = j * 3 by omega] at b0
    rw [show q.length * 3 + ((j - q.length) * 3 + 1) = j * 3 + 1 by omega] at b1
    rw [show q.length * 3 + ((j - q.length) * 3 + 2) = j * 3 + 2 by omega] at b2
    exact ⟨b0, b1, v, b2, hk.carry hB⟩
  refine ⟨Nat.lt_of_lt_of_le hlF hB.size, fun x hx => World.isSome_setCells F news _ w _ (h.room x hx), fun x => by rw [World.frozen?_setCells]; exact h.free x, fun j d hj => ?_, fun j d hj hi2 => ?_, fun j d hj hi2 => ?_⟩
  · rcases hq j d hj with ⟨h1, h2⟩ | ⟨h1, h2⟩
    · rw [hout _ (by omega), hout _ (by omega)]; exact h.num j d h2
    · obtain ⟨a0, a1, _⟩ := hnew j d h1 h2
      exact ⟨a0, a1⟩
  · rcases hq j d hj with ⟨h1, h2⟩ | ⟨h1, h2⟩
    · obtain ⟨v, g1, g2⟩ := h.old j d h2 hi2
      exact ⟨v, by rw [hout _ (by omega)]; exact g1, g2.carry hB⟩
    · exact (hnew j d h1 h2).2.2
  · rcases hq j d hj with ⟨h1, h2⟩ | ⟨h1, h2⟩
    · rw [hout _ (by omega), pos_append _ _ _ _ (by omega)]; exact h.new j d h2 hi2
    · omega
/-- 'append(flat, row...)' within its room. -/
theorem append_flat {ops : Array Oper} {rest : List Oper} {o : Oper} {a : Act} {Q : Exit → Act → World → Prop} {w : World} {F lim C k i m c L : Nat} {q : List Nd} {f : Fo} {ad : Option Addr} (hgd : o.guard = none) (s x : Operand)
    (ho : o.op = .call { callee := .builtin .append, args := #[s, x], argTypes := #[32, 32] }) (hs : a.eval s = .slice (some ⟨F, 0, none⟩) L C) (hx : a.eval x = .slice ad m c) (hL : q.length = L)
    (hF : Fl w F lim C k q i) (hl : lim ≤ F) (hi : i ≤ q.length) (hK : Kids w lim (.slice ad m c) f) (h0 : 0 < m) (hr : L + m ≤ C)
    (h : ∀ w1, Fl w1 F lim C k (q ++ f.top) i → But w w1 F → w1.heap.size = w.heap.size → wpList Try.prog ops Q rest (a.put o.dst (.slice (some ⟨F, 0, none⟩) (L + m) C)) w1) : wpList Try.prog ops Q (o :: rest) a w := by
  obtain ⟨i0, hi0⟩ : ∃ i, Try.prog.info? 34 = some i := by
    cases h0 : Try.prog.info? 34 with
    | none => have := info_desc; rw [h0] at this; cases this
    | some i => exact ⟨i, rfl⟩
  have h1 := info_desc
  rw [hi0] at h1
  simp only [Option.map_some, Option.some.injEq, Prod.mk.injEq] at h1
  obtain ⟨_, hsz, _⟩ := h1
  obtain ⟨a', c', e, _, _, h3⟩ := hK
  cases e
  rcases h3 with h3 | ⟨b, of, rfl, h3⟩
  · omega
  · obtain ⟨news, hn, hc⟩ := at_nods f w lim b of h3
    have hlen := hn.len
    rw [Fo.top_len] at hlen
    have hsrc : Src Try.prog i0.size 32 (.slice (some ⟨b, of, none⟩) f.len c) f.len news w := by
      rw [hsz]
      exact Src.ofSlice _ Try.underlying32 _ _ _ news hlen (fun j u hj => by rw [Addr.add_lit]; exact hc j u hj) hn.one
    have hrun := run_append_room_src (P := Try.prog) w 32 32 o.type 34 i0 Try.underlying32 hi0 F 0 L C _ f.len news hsrc hr
      (fun j hj => by rw [hsz, show 0 + L * 3 + j = L * 3 + j by omega]; exact hF.room _ (by omega)) (fun j hj => hF.free _)
    rw [hsz, show 0 + L * 3 = q.length * 3 by rw [hL]; omega] at hrun
    have hz : ∀ (vs : List Value) (o : Nat) (w : World), (w.setCells F o vs).heap.size = w.heap.size := fun vs => by
      induction vs with
      | nil => intro o w; rfl
      | cons v r ih => intro o w; rw [World.setCells, ih]; simp
    have h := h _ (hF.append hl hi hn (by rw [Fo.top_len]; omega)) (but_setCells F news (q.length * 3) w) (hz _ _ _)
    refine wpList_plain hgd fun _ hK => ?_
    unfold Oper.wp execOp
    simp only [ho, resolve, invoke, builtin, Sem.run_bind, Sem.run_pure, Result.andThen_ok, List.map_toArray, List.map_cons, List.map_nil, hx, hs, hrun]
    exact hK _ _ h
set_option maxRecDepth 100000 in
set_option maxHeartbeats 2000000 in
theorem clone_part (f : Fo) (v : Value) (w : World) (F b lim C m i : Nat) (q : List Nd) (hF : Fl w F lim C m q i) (hb : Bx w b 32 (.slice (some ⟨F, 0, none⟩) q.length C)) (hK : Kids w lim v f) (hl : lim ≤ F) (hbF : b ≠ F) (hlb : lim ≤ b) (hr : q.length + f.len ≤ C) (hi : i ≤ q.length) (hC : C ≤ 1048576) :
    Calls Try.prog 36 #[v, .pointer (some ⟨b, 0, none⟩)] w fun e w' => e = .returned (kidv F q.length f.len) ∧ Fl w' F lim C m (q ++ f.top) i ∧ Bx w' b 32 (.slice (some ⟨F, 0, none⟩) (q.length + f.len) C) ∧ w'.heap.size = w.heap.size ∧ (∀ X, X ≠ F → X ≠ b → X < w.heap.size → w'.heap[X]? = w.heap[X]?) ∧ (∀ B, B ≤ F → B ≤ b → Below B w w') := by
  obtain ⟨p, n, c, rfl, hc1, hc2, HM⟩ := hK.shape
  have cb := hb.cell
  have fb : w.frozen? ⟨b, 0, none⟩ = false := frozen_of_row _ _ _ _ _ hb
  obtain ⟨L, hL⟩ : ∃ L, q.length = L := ⟨_, rfl⟩
  rw [hL] at cb hb hr hi ⊢
  have hFb := hF.blk
  have hbb := hb.lt
  have HF := Lib.hid hF
  have HB := Lib.hid hb
  have HK := Lib.hid hK
  rw [← HM.out] at hr ⊢
  clear hF hb hK
  by_cases h0 : n = 0
  · subst h0
    have E : f.top = [] := List.length_eq_zero_iff.1 (by rw [Fo.top_len]; exact HM.out.symm)
    have R := Lib.hid (show Fl w F lim C m (q ++ f.top) i by rw [E, List.append_nil]; exact HF.out)
    go_enter Try.func36, Try.ntmps36
    go_wp2_with fail
    go_ret
    exact ⟨rfl, R.out, HB.out, rfl, fun _ _ _ _ => rfl, fun _ _ _ => Below.refl _ _⟩
  · have d1 : ((n : Int) == 0) = false := by simp; omega
    have hn0 : 0 < n := by omega
    have a1 : (0 : Int) ≤ (L : Int) := by omega
    have a2 : ((L : Int)) ≤ ((L : Int) + (n : Int)) := by omega
    have a3 : L ≤ C := by omega
    go_enter Try.func36, Try.ntmps36
    go_wp2_with (at_builtin; refine append_flat rfl _ _ rfl rfl rfl hL HF.out hl (by omega) HK.out hn0 hr ?_; intro w1 hF1 hB1 hs1; have HB1 := Lib.hid (HB.out.but hB1 hbF); have cb1 := HB1.out.cell; have fb1 : w1.frozen? ⟨b, 0, none⟩ = false := frozen_of_row _ _ _ _ _ HB1.out; have HF1 := Lib.hid hF1; have HBt := Lib.hid hB1; clear hF1 hB1)
    have hB2 := But.set w1 b 0 (.slice (some ⟨F, 0, none⟩) (L + n) C)
    go_ret
    refine ⟨?_, (HF1.out.keep (heap_setCell_other w1 ⟨b, 0, none⟩ F _ (Ne.symm hbF)) (hB2.b lim hlb (by omega))), HB1.out.set _, by simp; omega, fun X h1 h2 h3 => (heap_setCell_other w1 ⟨b, 0, none⟩ X _ h2).trans (HBt.out.o X h3 h1), fun B h1 h2 => (HBt.out.b B h1 (by omega)).trans (hB2.b B h2 (by omega))⟩
    obtain ⟨n', rfl⟩ : ∃ n', n = n' + 1 := ⟨n - 1, by omega⟩
    rw [show L + (n' + 1) - L = n' + 1 by omega]
    rfl
end Go.Proofs.Ytmbcfijhlpeddaa
/- package desc's rows and Nodes, where no kid has kids. -/
namespace Go.Proofs.Ytmbcfijhlpeddaa
open Go.ChangeShapes Go.WideShapes Go.ChangeAt Go.RowKit
set_option linter.unusedVariables false
open Go.Shelf
attribute [local go_sem] Oper.semAt_some
theorem below_grown00 {w w' : World} (h : Below w.heap.size w w') : w.grownBy w' none := ⟨h.os, h.tape, h.output, h.size, fun k hk _ => h.block k hk⟩
theorem kpl_b {n₀ : Nat} {w : World} (hn : n₀ ≤ w.heap.size) (W : World) (l : Nat) (o o' : Obj) (hl : w.heap.size ≤ l) (h : W.heap[l]? = some o) (h1 : o.isCells = false) (h2 : o.isWalk = false) : Below n₀ W (W.putObj l o') := belowK_b (w := w) hn W l o o' hl h h1 h2
def encr (v : Value) (_ : Unit) : Array Value := #[v]
def lenv : Value → Nat
  | .slice _ n _ => n
  | _ => 0
set_option maxRecDepth 100000 in
set_option maxHeartbeats 2000000 in
theorem desc_rows1 (g : Nat) (hg : 1 ≤ g) (l B1 n₀ m c : Nat) (p : Option Addr) (f : Fo) (hL : ∀ i, i < m → (f.kids i).len = 0) (hc : m ≤ c) (hc2 : c ≤ 9223372036854775807) (J Jx : List Unit → World → Prop)
    (hJ : ∀ pre A C, J pre A → Below A.heap.size A C → J pre C)
    (hY : ∀ pre x W, J pre W → pre.length < 1 → YieldAt Fence.wide (g - 1) Try.prog l (encr (.slice p m c) x) W fun e W' =>
      (e = .returned (.bool true) ∧ J (pre ++ [x]) W' ∧ Below n₀ W W') ∨ (e = .returned (.bool false) ∧ Jx (pre ++ [x]) W'))
    (W : World) (hB1 : W.cell? ⟨B1, 2, none⟩ = some (.slice p m c)) (hK : Kids W n₀ (.slice p m c) f) (hn0 : n₀ ≤ W.heap.size) (h0 : J [] W) :
    CallsIn Fence.wide g Try.prog 53 #[.func (.yield l) #[] #[], .pointer (some ⟨B1, 0, none⟩)] W fun e W' => (∃ v, e = .returned v) ∧
      ((∃ zs, zs.length = 1 ∧ J zs W') ∨ (∃ pre, True ∧ Jx pre W')) := by
  have lB := block_lt_of_cell hB1
  obtain ⟨W2, hW2⟩ : ∃ W2, W.alloc (.cells #[.slice p m c] 32) = W2 := ⟨_, rfl⟩
  have HJ := Lib.hid (show J [] W2 from hJ [] W W2 h0 (by rw [← hW2]; exact (Below.refl _ _).alloc (Nat.le_refl _) _))
  have hb2 : Below n₀ W W2 := by rw [← hW2]; exact (Below.refl _ _).alloc hn0 _
  have cX : W2.cell? ⟨W.heap.size, 0, none⟩ = some (.slice p m c) := by
    rw [← hW2]
    have hn := heap_alloc_new W (.cells #[.slice p m c] 32)
    rw [cell_of_row _ _ _ _ _ _ hn]; rfl
  have HK := Lib.hid (hK.carry hb2)
  refine callsIn_of_wp Try.func53 rfl trivial ?_ rfl
  simp only [Try.ntmps53, List.size_toArray, List.length_cons, List.length_nil, Nat.reduceAdd, Nat.reduceSub, Array.replicate_succ, Array.replicate_zero, List.push_toArray, List.append_toArray, List.nil_append, List.cons_append]
  gi_wp2
  clear hW2
  have lX : W.heap.size < W2.heap.size := block_lt_of_cell cX
  gi_loopw [3] (fun s wr => Hid (Below n₀ W2 wr) ∧ ((s = .slice (some ⟨W.heap.size, 0, none⟩) 1 1 ∧ wr.cell? ⟨W.heap.size, 0, none⟩ = some (.slice p m c) ∧ Hid (J [] wr)) ∨ (s = .slice (some ⟨W.heap.size, 0, none⟩) 0 1 ∧ Hid (J [()] wr)))) (fun s _ => lenv s)
  case atStart => exact ⟨Lib.hid (Below.refl _ _), .inl ⟨rfl, cX, HJ⟩⟩
  case round =>
    clear cX HJ
    obtain ⟨HB, ⟨rfl, cX, HJ⟩ | ⟨rfl, HJ⟩⟩ := hrel
    · obtain ⟨fn, tmps, assign, body, hy1, hR⟩ := hY [] () wr HJ.out (by simp)
      dsimp only [encr] at hy1 hR
      gi_wp2
      refine hR.mono ?_
      rintro e W3 (⟨rfl, hJ3, hk3⟩ | ⟨rfl, hJx3⟩)
      · have HB3 := Lib.hid (HB.out.trans hk3)
        have HK3 := Lib.hid (HK.out.carry HB3.out)
        have HJ3 := Lib.hid hJ3
        clear hJ3 hk3 hR HJ HB cX HK h0 hY
        gi_wp2
        gi_loopw [3, 29] (fun t j wr => ∃ s : Nat, s ≤ m ∧ t = .slice (some ⟨W.heap.size, 0, none⟩) 0 1 ∧ j = .int .i64 s ∧ W3 = wr) (fun _ j _ => m - (intOf j).toNat)
        case atStart => exact ⟨0, Nat.zero_le _, rfl, rfl, rfl⟩
        case round =>
          obtain ⟨s, hs, rfl, rfl, rfl⟩ := hrel
          by_cases hlt : s < m
          · obtain ⟨b, o, v, rfl, hb, g0, g1, g2, hKi⟩ := HK3.out.get hlt
            obtain ⟨a', c', rfl, _, _⟩ := hKi.form
            rw [hL s hlt] at g2
            have dd : decide ((s : Int) < (m : Int)) = true := decide_eq_true (by omega)
            clear hKi
            gi_wp2
            go_roundw
            case rel => exact ⟨s + 1, by omega, rfl, by go_num, trivial⟩
            case measure => (first | (simp [intOf]; done) | (simp [intOf]; omega) | (simp only [intOf]; omega))
          · obtain rfl : s = m := by omega
            have dd : decide ((s : Int) < (s : Int)) = false := decide_eq_false (by omega)
            gi_wp2
            go_roundw
            case rel => exact ⟨HB3, .inr ⟨rfl, HJ3⟩⟩
            case measure => exact Nat.zero_lt_one
      · gi_wp2
        refine bodyPost_ret (results_none rfl _ _ _) rfl ?_
        exact ⟨⟨_, rfl⟩, .inr ⟨_, trivial, hJx3⟩⟩
    · gi_wp2
      go_end0
      exact ⟨⟨_, rfl⟩, .inl ⟨[()], rfl, HJ.out⟩⟩
theorem desc_rows (g : Nat) (k n : Int) (v : Value) (w : World) :
    CallsIn Fence.wide g Try.prog 43 #[.agg #[.int .i64 k, .int .i64 n, v]] w fun e w' => e = .returned (.func (.func 53) #[] #[.pointer (some ⟨w.heap.size, 0, none⟩)]) ∧ w' = w.alloc (.cells #[.int .i64 k, .int .i64 n, v] 34) := by
  refine callsIn_of_wp Try.func43 rfl trivial ?_ rfl
  simp only [Try.ntmps43, List.size_toArray, List.length_cons, List.length_nil, Nat.reduceAdd, Nat.reduceSub, Array.replicate_succ, Array.replicate_zero, List.push_toArray, List.append_toArray, List.nil_append, List.cons_append]
  gi_wp2
  go_ret
  exact ⟨rfl, rfl⟩
theorem desc_stops (g : Nat) (hg : 1 ≤ g) (B1 n₀ m c : Nat) (p : Option Addr) (f : Fo) (hL : ∀ i, i < m → (f.kids i).len = 0) (hc : m ≤ c) (hc2 : c ≤ 9223372036854775807) (w : World)
    (hB1 : w.cell? ⟨B1, 2, none⟩ = some (.slice p m c)) (hK : Kids w n₀ (.slice p m c) f) (hn0 : n₀ ≤ w.heap.size) :
    SeqStopsK Fence.wide g Try.prog 53 #[.pointer (some ⟨B1, 0, none⟩)] (encr (.slice p m c)) (Below n₀) (fun zs => zs.length = 1) (fun _ => True) 1 w := fun l J Jx W hW hJ _ hY h0 =>
  desc_rows1 g hg l B1 n₀ m c p f hL hc hc2 J Jx (fun pre A C h hb => hJ pre A C none h (below_grown00 hb) (fun r e => by cases e)) hY W ((hW.cell (p := ⟨B1, 2, none⟩) (block_lt_of_cell hB1)).trans hB1) (hK.carry (hW.mono hn0)) (Nat.le_trans hn0 hW.size) h0
end Go.Proofs.Ytmbcfijhlpeddaa
/- package desc's Nodes, where no kid has kids. -/
namespace Go.Proofs.Ytmbcfijhlpeddaa
open Go.ChangeShapes Go.WideShapes Go.ChangeAt Go.RowKit
set_option linter.unusedVariables false
open Go.Shelf
attribute [local go_sem] Oper.semAt_some
theorem bxn_kept {W W' : World} {row : Option Nat} {B : Nat} {T : TypeId} {v : Value} (h : Bx W B T v) (hg : W.grownBy W' row) (hr : ∀ r, row = some r → ∃ o : Obj, W.heap[r]? = some o ∧ o.isCells = false) : Bx W' B T v := by
  unfold Bx
  rw [hg.block B h.lt (fun e => by obtain ⟨o, h1, h2⟩ := hr B e.symm; unfold Bx at h; rw [h] at h1; cases h1; cases h2)]
  exact h
set_option maxRecDepth 100000 in
set_option maxHeartbeats 2000000 in
theorem desc_nodes1 (k n : Int) (m c lim : Nat) (p : Option Addr) (f : Fo) (W : World) (hL : ∀ i, i < m → (f.kids i).len = 0) (hc : m ≤ c) (hc2 : c ≤ 9223372036854775807) (hK : Kids W lim (.slice p m c) f) (hl : lim ≤ W.heap.size) (hm : m ≤ 1048576) :
    Calls Try.prog 35 #[.agg #[.int .i64 k, .int .i64 n, .slice p m c]] W fun e w' => e = .returned (.int .i64 ((m + 1 : Nat) : Int)) ∧ Below W.heap.size W w' := by
  refine (callsIn_wide (n := 6)).1 ?_
  refine callsIn_of_wp_marks Try.func35 rfl trivial ?_ rfl
  simp only [Try.ntmps35, List.size_toArray, List.length_cons, List.length_nil, Nat.reduceAdd, Nat.reduceSub, Array.replicate_succ, Array.replicate_zero, List.push_toArray, List.append_toArray, List.nil_append, List.cons_append]
  gi_wp2
  refine ⟨trivial, (desc_rows _ k n (.slice p m c) _).mono ?_⟩
  rintro e w1 ⟨rfl, rfl⟩
  gi_wp2
  have hB0 : Below W.heap.size W (((W.alloc (.cells #[.int .i64 k, .int .i64 n, .slice p m c] 34)).alloc (.cells #[.int .i64 1] 3)).alloc (.cells #[.int .i64 k, .int .i64 n, .slice p m c] 34)) := (((Below.refl _ W).alloc (Nat.le_refl _) _).alloc (by simp) _).alloc (by simp; omega) _
  have hsz : (((W.alloc (.cells #[.int .i64 k, .int .i64 n, .slice p m c] 34)).alloc (.cells #[.int .i64 1] 3)).alloc (.cells #[.int .i64 k, .int .i64 n, .slice p m c] 34)).heap.size = W.heap.size + 3 := by simp
  have bN := (Bx.new (W.alloc (.cells #[.int .i64 k, .int .i64 n, .slice p m c] 34)) 3 (.int .i64 1) _ rfl).alloc (.cells #[.int .i64 k, .int .i64 n, .slice p m c] 34)
  have c2 : (((W.alloc (.cells #[.int .i64 k, .int .i64 n, .slice p m c] 34)).alloc (.cells #[.int .i64 1] 3)).alloc (.cells #[.int .i64 k, .int .i64 n, .slice p m c] 34)).cell? ⟨W.heap.size + 1 + 1, 2, none⟩ = some (.slice p m c) := by
    have hn := heap_alloc_new ((W.alloc (.cells #[.int .i64 k, .int .i64 n, .slice p m c] 34)).alloc (.cells #[.int .i64 1] 3)) (.cells #[.int .i64 k, .int .i64 n, .slice p m c] 34)
    simp only [World.size_alloc] at hn
    rw [cell_of_row _ _ _ _ _ _ hn]; rfl
  simp only [World.size_alloc] at bN
  obtain ⟨W0, hW0⟩ : ∃ W0, (((W.alloc (.cells #[.int .i64 k, .int .i64 n, .slice p m c] 34)).alloc (.cells #[.int .i64 1] 3)).alloc (.cells #[.int .i64 k, .int .i64 n, .slice p m c] 34)) = W0 := ⟨_, rfl⟩
  rw [hW0] at hB0 hsz bN c2 ⊢
  clear hW0
  refine wpIn_rangeFunc_ownF rfl (by omega) (gf := 53) (lb := #[.pointer (some ⟨W.heap.size + 1 + 1, 0, none⟩)]) rfl trivial (enters_of Try.func53 (by kernel_rfl) rfl)
    (desc_stops _ (by omega) (W.heap.size + 1 + 1) W.heap.size m c p f hL hc hc2 W0 c2 ((hK.mono hl).below (Nat.le_refl _) hB0) (by omega))
    (fun h k => h.trans k) (kpl_b (w := W0) (by omega)) (Below.refl _ _) (fun _ => rfl)
    (fun pre W' => Bx W' (W.heap.size + 1) 3 (.int .i64 ((1 + m * pre.length : Nat) : Int)) ∧ Below W.heap.size W W')
    (fun _ _ _ => False)
    (OwnFrom.and (Own.from (fun s A B row hs hg hr => by exact bxn_kept hs hg hr) _) (ownFrom_below (Nat.le_refl _) (by omega)))
    (fun _ _ _ _ _ hs _ _ => hs)
    ⟨by simpa using bN, hB0⟩
    (fun x => { tmps := #[.agg #[.int .i64 k, .int .i64 n, .slice p m c], .pointer (some ⟨W.heap.size, 0, none⟩), .int .i64 0, .pointer (some ⟨W.heap.size + 1, 0, none⟩), .slice p m c, .agg #[.int .i64 k, .int .i64 n, .slice p m c], .func (.func 53) #[] #[.pointer (some ⟨W.heap.size + 1 + 1, 0, none⟩)], .slice p m c, undef, undef, undef, undef, undef], defers := [] })
    ?assign ?body ?done ?stop
  case assign =>
    intro l x W' K hK
    dsimp only [encr]
    gi_wp2
    exact hK
  case body =>
    rintro l pre x W' ⟨hN, hB⟩ hlen
    obtain rfl : pre = [] := List.length_eq_zero_iff.1 (by omega)
    have cN := hN.cell
    have fN : W'.frozen? ⟨W.heap.size + 1, 0, none⟩ = false := frozen_of_row _ _ _ _ _ hN
    have w1 : IntKind.i64.wrap (((1 + m * ([] : List Unit).length : Nat) : Int) + (m : Int)) = ((1 + m * ([] ++ [x]).length : Nat) : Int) := by
      rw [IntWalk.i64_in _ (by simp; omega)]; simp
    have hN2 := hN.set (.int .i64 ((1 + m * ([] ++ [x]).length : Nat) : Int))
    obtain ⟨y, hy⟩ : ∃ y : Int, ((1 + m * ([] : List Unit).length : Nat) : Int) = y := ⟨_, rfl⟩
    obtain ⟨z, hz⟩ : ∃ z : Int, ((1 + m * ([] ++ [x]).length : Nat) : Int) = z := ⟨_, rfl⟩
    rw [hy] at cN w1
    rw [hz] at w1 hN2
    have HN3 := Lib.hid (show Bx (W'.setCell ⟨W.heap.size + 1, 0, none⟩ (.int .i64 z)) (W.heap.size + 1) 3 (.int .i64 ((1 + m * ([] ++ [x]).length : Nat) : Int)) by rw [hz]; exact hN2)
    clear hy hz hN hN2
    gi_wp2
    exact ⟨KeepsOthers.setCell _ _ _, (Below.refl _ _).setCell (by show W.heap.size ≤ W.heap.size + 1; omega) _, HN3.out, hB.setCell (by show W.heap.size ≤ W.heap.size + 1; omega) _⟩
  case done =>
    rintro D zs W' hD hzs ⟨hN, hB⟩ hK
    have cN := hN.cell
    rw [hzs] at cN
    gi_wp2
    refine ⟨by simp, .inl ⟨_, _, rfl, run_takeDeferred hK, ?_⟩⟩
    exact ⟨_, results_tmp rfl _ _ _, by show Ending.returned (.int .i64 (1 + (m : Int))) = _; rw [show (1 + (m : Int)) = ((m + 1 : Nat) : Int) by omega], hB.trans (belowK_b (w := W) (Nat.le_refl _) W' D _ _ (by omega) hK rfl rfl)⟩
  case stop =>
    rintro D c pre W' _ _ h _
    exact h.elim
end Go.Proofs.Ytmbcfijhlpeddaa
/- package desc's Depth, for every tree. -/
namespace Go.Proofs.Ytmbcfijhlpeddaa
open Go.ChangeShapes Go.WideShapes Go.ChangeAt Go.RowKit
set_option linter.unusedVariables false
end Go.Proofs.Ytmbcfijhlpeddaa
