/- Rows of nodes that grow by append, whose kids may lie in memory laid later than the row. -/
import Derived.Test.YtcbiennifmfkgaaD11
namespace Go.Proofs.Ytcbiennifmfkgaa
open Go.ChangeShapes Go.WideShapes Go.ChangeAt Go.RowKit
set_option linter.unusedVariables false
set_option linter.unusedSimpArgs false
/-- The nodes lie from place o of block b on, in the blocks S. -/
def Fo.AtS (w : World) (S : Nat → Prop) : Fo → Nat → Nat → Prop
  | nil, _, _ => True
  | cons k n ks r, b, o => S b ∧ w.cell? ⟨b, o, none⟩ = some (.int .i64 k) ∧ w.cell? ⟨b, o + 1, none⟩ = some (.int .i64 n) ∧
    (∃ a c, w.cell? ⟨b, o + 2, none⟩ = some (.slice a ks.len c) ∧ ks.len ≤ c ∧ c ≤ maxLen ∧ (ks.len = 0 ∨ ∃ b' o', a = some ⟨b', o', none⟩ ∧ ks.AtS w S b' o')) ∧ r.AtS w S b (o + 3)
theorem Fo.AtS.of : ∀ {f : Fo} {w : World} {lim b o : Nat} (_ : f.At w lim b o), f.AtS w (fun b => b < lim) b o
  | .nil, _, _, _, _, _ => trivial
  | .cons _ _ ks r, w, lim, b, o, ⟨hb, c0, c1, ⟨a, c, c2, h1, h2, h3⟩, hr⟩ => by
    refine ⟨hb, c0, c1, ⟨a, c, c2, h1, h2, ?_⟩, Fo.AtS.of hr⟩
    rcases h3 with h3 | ⟨b', o', e, h3⟩
    · exact .inl h3
    · exact .inr ⟨b', o', e, Fo.AtS.of h3⟩
theorem Fo.AtS.to : ∀ {f : Fo} {w : World} {S : Nat → Prop} {lim b o : Nat} (_ : f.AtS w S b o) (_ : ∀ b, S b → b < lim), f.At w lim b o
  | .nil, _, _, _, _, _, _, _ => trivial
  | .cons _ _ ks r, w, S, lim, b, o, ⟨hb, c0, c1, ⟨a, c, c2, h1, h2, h3⟩, hr⟩, hS => by
    refine ⟨hS _ hb, c0, c1, ⟨a, c, c2, h1, h2, ?_⟩, Fo.AtS.to hr hS⟩
    rcases h3 with h3 | ⟨b', o', e, h3⟩
    · exact .inl h3
    · exact .inr ⟨b', o', e, Fo.AtS.to h3 hS⟩
theorem Fo.AtS.carry : ∀ {f : Fo} {w w' : World} {S S' : Nat → Prop} {b o : Nat} (_ : f.AtS w S b o) (_ : ∀ b, S b → S' b ∧ w'.heap[b]? = w.heap[b]?), f.AtS w' S' b o
  | .nil, _, _, _, _, _, _, _, _ => trivial
  | .cons _ _ ks r, w, w', S, S', b, o, ⟨hb, c0, c1, ⟨a, c, c2, h1, h2, h3⟩, hr⟩, hS => by
    have hw := (hS b hb).2
    refine ⟨(hS b hb).1, (World.cell?_of_block (a := ⟨b, o, none⟩) hw).trans c0, (World.cell?_of_block (a := ⟨b, o + 1, none⟩) hw).trans c1, ⟨a, c, (World.cell?_of_block (a := ⟨b, o + 2, none⟩) hw).trans c2, h1, h2, ?_⟩, Fo.AtS.carry hr hS⟩
    rcases h3 with h3 | ⟨b', o', e, h3⟩
    · exact .inl h3
    · exact .inr ⟨b', o', e, Fo.AtS.carry h3 hS⟩
def KidsS (w : World) (S : Nat → Prop) (v : Value) (f : Fo) : Prop := ∃ a c, v = .slice a f.len c ∧ f.len ≤ c ∧ c ≤ maxLen ∧ (f.len = 0 ∨ ∃ b o, a = some ⟨b, o, none⟩ ∧ f.AtS w S b o)
theorem KidsS.of {w : World} {lim : Nat} {v : Value} {f : Fo} (h : Kids w lim v f) : KidsS w (fun b => b < lim) v f := by
  obtain ⟨a, c, rfl, h1, h2, h3⟩ := h
  exact ⟨a, c, rfl, h1, h2, h3.imp id (fun ⟨b, o, e, h⟩ => ⟨b, o, e, .of h⟩)⟩
theorem KidsS.to {w : World} {S : Nat → Prop} {lim : Nat} {v : Value} {f : Fo} (h : KidsS w S v f) (hS : ∀ b, S b → b < lim) : Kids w lim v f := by
  obtain ⟨a, c, rfl, h1, h2, h3⟩ := h
  exact ⟨a, c, rfl, h1, h2, h3.imp id (fun ⟨b, o, e, h⟩ => ⟨b, o, e, h.to hS⟩)⟩
theorem KidsS.carry {w w' : World} {S S' : Nat → Prop} {v : Value} {f : Fo} (h : KidsS w S v f) (hS : ∀ b, S b → S' b ∧ w'.heap[b]? = w.heap[b]?) : KidsS w' S' v f := by
  obtain ⟨a, c, rfl, h1, h2, h3⟩ := h
  exact ⟨a, c, rfl, h1, h2, h3.imp id (fun ⟨b, o, e, h⟩ => ⟨b, o, e, h.carry hS⟩)⟩
/-- Cells that hold these nodes, three to a node. -/
def NodsS (w : World) (S : Nat → Prop) : List Value → List Nd → Prop
  | xs, [] => xs = []
  | xs, d :: l => ∃ v ys, xs = .int .i64 d.k :: .int .i64 d.n :: v :: ys ∧ KidsS w S v d.ks ∧ NodsS w S ys l
theorem NodsS.len : ∀ {w : World} {S : Nat → Prop} {xs : List Value} {l : List Nd}, NodsS w S xs l → xs.length = l.length * 3
  | _, _, _, [], h => by rw [show _ = [] from h]; rfl
  | _, _, _, d :: l, ⟨v, ys, e, _, h⟩ => by rw [e]; simp [NodsS.len h]; omega
theorem NodsS.append : ∀ {w : World} {S : Nat → Prop} {xs ys : List Value} {l m : List Nd}, NodsS w S xs l → NodsS w S ys m → NodsS w S (xs ++ ys) (l ++ m)
  | _, _, _, _, [], _, h, h2 => by rw [show _ = [] from h]; exact h2
  | _, _, _, _, d :: l, m, ⟨v, zs, e, hk, h⟩, h2 => by rw [e]; exact ⟨v, _, rfl, hk, NodsS.append h h2⟩
theorem NodsS.carry : ∀ {w w' : World} {S S' : Nat → Prop} {xs : List Value} {l : List Nd}, NodsS w S xs l → (∀ b, S b → S' b ∧ w'.heap[b]? = w.heap[b]?) → NodsS w' S' xs l
  | _, _, _, _, _, [], h, _ => h
  | _, _, _, _, _, d :: l, ⟨v, ys, e, hk, h⟩, hb => ⟨v, ys, e, hk.carry hb, h.carry hb⟩
theorem NodsS.one : ∀ {w : World} {S : Nat → Prop} {xs : List Value} {l : List Nd}, NodsS w S xs l → ∀ u ∈ xs, u.oneCell' = true
  | _, _, _, [], h, u, hu => by rw [show _ = [] from h] at hu; cases hu
  | _, _, _, d :: l, ⟨v, ys, e, hk, h⟩, u, hu => by
    obtain ⟨a, c, rfl, _⟩ := hk
    rw [e] at hu
    simp only [List.mem_cons] at hu
    rcases hu with rfl | rfl | rfl | hu
    · rfl
    · rfl
    · rfl
    · exact NodsS.one h u hu
/-- The nodes of a row. -/
def Fo.top : Fo → List Nd
  | .nil => []
  | .cons k n ks r => ⟨k, n, ks⟩ :: r.top
theorem Fo.top_len : ∀ f : Fo, f.top.length = f.len
  | .nil => rfl
  | .cons _ _ _ r => by simp [Fo.top, Fo.len, Fo.top_len r]
theorem Fo.top_at : ∀ (f : Fo) (i : Nat), i < f.len → f.top[i]? = some ⟨f.k i, f.n i, f.kids i⟩
  | .nil, _, h => by simp [Fo.len] at h
  | .cons _ _ _ r, 0, _ => rfl
  | .cons _ _ _ r, i + 1, h => by
    have := Fo.top_at r i (by simp [Fo.len] at h; omega)
    simpa [Fo.top, Fo.k, Fo.n, Fo.kids] using this
theorem nodsS_at {w : World} {S S' : Nat → Prop} {g : Nat} (hS : ∀ b, S b → S' b) (hg : S' g) : ∀ (f : Fo) (xs : List Value) (o : Nat), NodsS w S xs f.top → (∀ j u, xs[j]? = some u → w.cell? ⟨g, o + j, none⟩ = some u) → f.AtS w S' g o
  | .nil, _, _, _, _ => trivial
  | .cons k n ks r, xs, o, ⟨v, ys, e, hk, h⟩, hc => by
    subst e
    obtain ⟨a, c, rfl, h1, h2, h3⟩ := hk
    refine ⟨hg, hc 0 _ rfl, hc 1 _ rfl, ⟨a, c, hc 2 _ rfl, h1, h2, h3.imp id (fun ⟨b', o', e', h'⟩ => ⟨b', o', e', h'.carry (fun b hb => ⟨hS b hb, rfl⟩)⟩)⟩, nodsS_at hS hg r ys (o + 3) h (fun j u hu => ?_)⟩
    have := hc (j + 3) u (by simpa using hu)
    rw [show o + 3 + j = o + (j + 3) by omega]
    exact this
theorem top_take (f : Fo) (i : Nat) (h : i < f.len) : f.top.take (i + 1) = f.top.take i ++ [⟨f.k i, f.n i, f.kids i⟩] := by
  rw [List.take_add_one, Fo.top_at f i h]; rfl
theorem top_take_all (f : Fo) : f.top.take f.len = f.top := by rw [← Fo.top_len]; exact List.take_length
/-- The blocks of the world, but for a row's own. -/
def offB (w : World) (lim B : Nat) (v : Value) (b : Nat) : Prop := b < w.heap.size ∧ v.ownBlock ≠ some b ∧ (b < lim ∨ B ≤ b)
end Go.Proofs.Ytcbiennifmfkgaa
