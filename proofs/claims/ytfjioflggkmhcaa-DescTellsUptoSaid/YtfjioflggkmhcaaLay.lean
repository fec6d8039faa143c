/- Nodes level by level: the layout that package desc's Clone makes, and another node put into it: numbers. -/
import Derived.Test.YtfjioflggkmhcaaPutn
import Derived.Test.YtfjioflggkmhcaaOwnt
namespace Go.Proofs.Ytfjioflggkmhcaa
open Go.ChangeShapes Go.WideShapes Go.ChangeAt Go.RowKit
set_option linter.unusedVariables false
set_option linter.unusedSimpArgs false
/-- How many are below some nodes. -/
def kin : List Nd → Nat
  | [] => 0
  | d :: q => d.ks.cnt + kin q
theorem kin_append : ∀ a b : List Nd, kin (a ++ b) = kin a + kin b
  | [], b => by simp [kin]
  | d :: a, b => by simp [kin, kin_append a b]; omega
theorem Fo.top_kin : ∀ f : Fo, f.cnt = f.len + kin f.top
  | .nil => rfl
  | .cons _ _ ks r => by have := Fo.top_kin r; simp only [Fo.cnt, Fo.len, Fo.top, kin]; omega
/-- Where the kids of the j-th node begin. -/
def pos : Nat → List Nd → Nat → Nat
  | m, _, 0 => m
  | m, [], _ + 1 => m
  | m, d :: q, j + 1 => pos (m + d.ks.len) q j
theorem pos_zero (m : Nat) (q : List Nd) : pos m q 0 = m := by cases q <;> rfl
theorem pos_succ : ∀ (q : List Nd) (m j : Nat) (d : Nd), q[j]? = some d → pos m q (j + 1) = pos m q j + d.ks.len
  | [], _, _, _, h => by simp at h
  | x :: q, m, 0, d, h => by
    obtain rfl : x = d := by simpa using h
    show pos (m + x.ks.len) q 0 = pos m (x :: q) 0 + x.ks.len
    rw [pos_zero, pos_zero]
  | x :: q, m, j + 1, d, h => by
    have := pos_succ q (m + x.ks.len) j d (by simpa using h)
    exact this
theorem pos_append : ∀ (q r : List Nd) (m j : Nat), j ≤ q.length → pos m (q ++ r) j = pos m q j
  | q, r, m, 0, _ => by rw [pos_zero, pos_zero]
  | [], r, m, j + 1, h => by simp at h
  | x :: q, r, m, j + 1, h => pos_append q r (m + x.ks.len) j (by simpa using h)
theorem pos_next (q : List Nd) (m j : Nat) : pos m q j ≤ pos m q (j + 1) := by
  induction q generalizing m j with
  | nil => cases j <;> exact Nat.le_refl _
  | cons x q ih =>
    cases j with
    | zero => show m ≤ pos (m + x.ks.len) q 0; rw [pos_zero]; omega
    | succ j => exact ih (m + x.ks.len) j
theorem pos_le (q : List Nd) (m : Nat) {j i : Nat} (h : j ≤ i) : pos m q j ≤ pos m q i := by
  induction i with
  | zero => obtain rfl : j = 0 := by omega
            exact Nat.le_refl _
  | succ i ih =>
    by_cases hj : j = i + 1
    · subst hj; exact Nat.le_refl _
    · exact Nat.le_trans (ih (by omega)) (pos_next q m i)
theorem pos_ge (q : List Nd) (m j : Nat) : m ≤ pos m q j := by have := pos_le q m (Nat.zero_le j); rwa [pos_zero] at this
/-- Who has kids lies ahead of them. -/
def Rises (m : Nat) (q : List Nd) : Prop := ∀ j d, q[j]? = some d → 0 < d.ks.len → j < pos m q j
/-- e is j, or lies below it. -/
inductive Sub (m : Nat) (q : List Nd) (j : Nat) : Nat → Prop where
  | refl : Sub m q j j
  | step {p e : Nat} (d : Nd) (h : Sub m q j p) (hp : q[p]? = some d) (h1 : pos m q p ≤ e) (h2 : e < pos m q p + d.ks.len) : Sub m q j e
theorem Sub.le {m : Nat} {q : List Nd} (hR : Rises m q) {j e : Nat} (h : Sub m q j e) : j ≤ e := by
  induction h with
  | refl => exact Nat.le_refl _
  | step d _ hp h1 h2 ih => have := hR _ d hp (by omega); omega
theorem Sub.front {m : Nat} {q : List Nd} {j c e : Nat} {d : Nd} (hj : q[j]? = some d) (h1 : pos m q j ≤ c) (h2 : c < pos m q j + d.ks.len) (h : Sub m q c e) : Sub m q j e := by
  induction h with
  | refl => exact .step d .refl hj h1 h2
  | step d' _ hp g1 g2 ih => exact .step d' ih hp g1 g2
theorem parent_one {m : Nat} {q : List Nd} {p p' e : Nat} {d d' : Nd} (hp : q[p]? = some d) (hp' : q[p']? = some d') (h1 : pos m q p ≤ e) (h2 : e < pos m q p + d.ks.len) (h1' : pos m q p' ≤ e) (h2' : e < pos m q p' + d'.ks.len) : p = p' := by
  rcases Nat.lt_trichotomy p p' with h | h | h
  · have := pos_le q m (show p + 1 ≤ p' from h); rw [pos_succ q m p d hp] at this; omega
  · exact h
  · have := pos_le q m (show p' + 1 ≤ p from h); rw [pos_succ q m p' d' hp'] at this; omega
theorem Sub.comp {m : Nat} {q : List Nd} {a b e : Nat} (ha : Sub m q a e) : Sub m q b e → Sub m q a b ∨ Sub m q b a := by
  induction ha with
  | refl => exact fun h => .inr h
  | step d h0 hp h1 h2 ih =>
    intro hb
    cases hb with
    | refl => exact .inl (.step d h0 hp h1 h2)
    | step d' h' hp' h1' h2' =>
      obtain rfl := parent_one hp hp' h1 h2 h1' h2'
      exact ih h'
theorem sibs_kids {m : Nat} {q : List Nd} (hR : Rises m q) {p : Nat} {d : Nd} (hp : q[p]? = some d) {a b e : Nat} (a1 : pos m q p ≤ a) (a2 : a < pos m q p + d.ks.len) (b1 : pos m q p ≤ b) (b2 : b < pos m q p + d.ks.len) (hne : a ≠ b) (ha : Sub m q a e) (hb : Sub m q b e) : False := by
  have key : ∀ x y, pos m q p ≤ x → pos m q p ≤ y → y < pos m q p + d.ks.len → x ≠ y → Sub m q x y → False := by
    intro x y x1 y1 y2 hxy h
    cases h with
    | refl => exact hxy rfl
    | step d' h' hp' h1' h2' =>
      obtain rfl := parent_one hp hp' y1 y2 h1' h2'
      have := h'.le hR
      have := hR _ d hp (by omega)
      omega
  rcases ha.comp hb with h | h
  · exact key a b a1 b1 b2 hne h
  · exact key b a b1 a1 a2 (Ne.symm hne) h
theorem sibs_top {m : Nat} {q : List Nd} {a b e : Nat} (a2 : a < m) (b2 : b < m) (hne : a ≠ b) (ha : Sub m q a e) (hb : Sub m q b e) : False := by
  have key : ∀ x y, y < m → x ≠ y → Sub m q x y → False := by
    intro x y y2 hxy h
    cases h with
    | refl => exact hxy rfl
    | step d' h' hp' h1' h2' => have := pos_ge q m; rename_i p; have := pos_ge q m p; omega
  rcases ha.comp hb with h | h
  · exact key a b b2 hne h
  · exact key b a a2 (Ne.symm hne) h
/-- A row's nodes stand from place s on. -/
def Ly (q : List Nd) (f : Fo) (s : Nat) : Prop := ∀ t, t < f.len → q[s + t]? = some ⟨f.k t, f.n t, f.kids t⟩
theorem Ly.tail {q : List Nd} {k n : Int} {ks r : Fo} {s : Nat} (h : Ly q (.cons k n ks r) s) : Ly q r (s + 1) := fun t ht => by
  have := h (t + 1) (by show t + 1 < r.len + 1; omega)
  rw [show s + 1 + t = s + (t + 1) by omega]
  exact this
/-- The value of a row of kids in block F. -/
def kidv (F s : Nat) : Nat → Value
  | 0 => .slice none 0 0
  | l + 1 => .slice (some ⟨F, s * 3, none⟩) (l + 1) (l + 1)
theorem kidv_kids {w : World} {lim F s : Nat} {f : Fo} (hm : f.len ≤ maxLen) (h : f.At w lim F (s * 3)) : Kids w lim (kidv F s f.len) f := by
  cases hf : f.len with
  | zero => exact ⟨none, 0, by rw [hf]; rfl, by omega, by unfold maxLen; omega, .inl hf⟩
  | succ l => exact ⟨some ⟨F, s * 3, none⟩, l + 1, by rw [hf]; rfl, by omega, by omega, .inr ⟨F, s * 3, rfl, h⟩⟩
/-- One node in its place. -/
def NodeAt (w : World) (lim F s : Nat) (k n : Int) (ks : Fo) : Prop := w.cell? ⟨F, s * 3, none⟩ = some (.int .i64 k) ∧ w.cell? ⟨F, s * 3 + 1, none⟩ = some (.int .i64 n) ∧ ∃ v, w.cell? ⟨F, s * 3 + 2, none⟩ = some v ∧ Kids w lim v ks
theorem at_of_nodes {w : World} {lim F : Nat} (hF : F < lim) : ∀ (f : Fo) (s : Nat), (∀ t, t < f.len → NodeAt w lim F (s + t) (f.k t) (f.n t) (f.kids t)) → f.At w lim F (s * 3)
  | .nil, _, _ => trivial
  | .cons k n ks r, s, h => by
    obtain ⟨c0, c1, v, c2, a, c, rfl, h1, h2, h3⟩ := h 0 (by show 0 < r.len + 1; omega)
    refine ⟨hF, c0, c1, ⟨a, c, c2, h1, h2, h3⟩, ?_⟩
    have := at_of_nodes hF r (s + 1) (fun t ht => by
      have := h (t + 1) (by show t + 1 < r.len + 1; omega)
      rw [show s + 1 + t = s + (t + 1) by omega]
      exact this)
    rw [show s * 3 + 3 = (s + 1) * 3 by omega]
    exact this
/-- All nodes lie in block F, but for those that are not ok. -/
def Laid (w : World) (F m : Nat) (q : List Nd) (ok : Nat → Prop) : Prop := ∀ j d, ok j → q[j]? = some d → w.cell? ⟨F, j * 3, none⟩ = some (.int .i64 d.k) ∧ w.cell? ⟨F, j * 3 + 1, none⟩ = some (.int .i64 d.n) ∧ w.cell? ⟨F, j * 3 + 2, none⟩ = some (kidv F (pos m q j) d.ks.len)
/-- Each one's kids stand where they begin. -/
def Full (m : Nat) (q : List Nd) : Prop := ∀ j d, q[j]? = some d → Ly q d.ks (pos m q j) ∧ d.ks.len ≤ maxLen
theorem laid_at {w : World} {lim F m : Nat} {q : List Nd} {ok : Nat → Prop} (hF : F < lim) (hL : Laid w F m q ok) (hf : Full m q) : ∀ (f : Fo) (s : Nat), Ly q f s → (∀ t, t < f.len → ∀ x, Sub m q (s + t) x → ok x) → f.At w lim F (s * 3)
  | .nil, _, _, _ => trivial
  | .cons k n ks r, s, h, hok => by
    have h0 : q[s]? = some ⟨k, n, ks⟩ := h 0 (by show 0 < r.len + 1; omega)
    obtain ⟨c0, c1, c2⟩ := hL s _ (hok 0 (by show 0 < r.len + 1; omega) _ .refl) h0
    obtain ⟨l1, l2⟩ := hf s _ h0
    have hk := laid_at hF hL hf ks (pos m q s) l1 (fun t ht x hx => hok 0 (by show 0 < r.len + 1; omega) x (Sub.front h0 (Nat.le_add_right _ _) (Nat.add_lt_add_left ht _) hx))
    obtain ⟨a, c, e, h1, h2, h3⟩ := kidv_kids l2 hk
    refine ⟨hF, c0, c1, ⟨a, c, by rw [c2]; exact congrArg some e, h1, h2, h3⟩, ?_⟩
    have := laid_at hF hL hf r (s + 1) h.tail (fun t ht x hx => hok (t + 1) (by show t + 1 < r.len + 1; omega) x (by rw [show s + (t + 1) = s + 1 + t by omega]; exact hx))
    rw [show s * 3 + 3 = (s + 1) * 3 by omega]
    exact this
theorem setk_same : ∀ (f : Fo) (i : Nat) (k n : Int) (ks : Fo), i < f.len → (f.setk i k n ks).k i = k ∧ (f.setk i k n ks).n i = n ∧ (f.setk i k n ks).kids i = ks
  | .nil, _, _, _, _, h => by simp [Fo.len] at h
  | .cons _ _ _ r, 0, _, _, _, _ => ⟨rfl, rfl, rfl⟩
  | .cons _ _ _ r, i + 1, k, n, ks, h => setk_same r i k n ks (by simp [Fo.len] at h; omega)
theorem setk_other : ∀ (f : Fo) (i t : Nat) (k n : Int) (ks : Fo), t ≠ i → (f.setk i k n ks).k t = f.k t ∧ (f.setk i k n ks).n t = f.n t ∧ (f.setk i k n ks).kids t = f.kids t
  | .nil, _, _, _, _, _, _ => ⟨rfl, rfl, rfl⟩
  | .cons _ _ _ r, 0, 0, _, _, _, h => absurd rfl h
  | .cons _ _ _ r, 0, t + 1, _, _, _, _ => ⟨rfl, rfl, rfl⟩
  | .cons _ _ _ r, i + 1, 0, _, _, _, _ => ⟨rfl, rfl, rfl⟩
  | .cons _ _ _ r, i + 1, t + 1, k, n, ks, h => setk_other r i t k n ks (fun e => h (by rw [e]))
/-- The place that a path leads to. -/
def wk (m : Nat) (q : List Nd) : Nat → List Int → Nat
  | s, [] => s
  | s, [i] => s + i.toNat
  | s, i :: j :: r => wk m q (pos m q (s + i.toNat)) (j :: r)
theorem wk_sub {m : Nat} {q : List Nd} (hf : Full m q) : ∀ (r : List Int) (i : Int) (f : Fo) (s : Nat), Ly q f s → 0 ≤ i → i.toNat < f.len → (atN (f.k i.toNat) (f.n i.toNat) (f.kids i.toNat) r).isSome → Sub m q (s + i.toNat) (wk m q s (i :: r)) ∧ (∀ j r', r = j :: r' → Sub m q (pos m q (s + i.toNat) + j.toNat) (wk m q s (i :: r)) ∧ 0 ≤ j ∧ j.toNat < (f.kids i.toNat).len)
  | [], i, f, s, _, _, _, _ => ⟨.refl, fun _ _ h => by cases h⟩
  | j :: r, i, f, s, hl, h0, hi, hv => by
    have hq := hl _ hi
    obtain ⟨l1, l2⟩ := hf _ _ hq
    rw [atN] at hv
    by_cases hj : j < 0 ∨ ((f.kids i.toNat).len : Int) ≤ j
    · rw [if_pos hj] at hv; cases hv
    · rw [if_neg hj] at hv
      have := (wk_sub hf r j (f.kids i.toNat) (pos m q (s + i.toNat)) l1 (by omega) (by omega) hv).1
      exact ⟨Sub.front hq (by omega) (by dsimp only; omega) this, fun j' r' e => by cases e; exact ⟨this, by omega, by omega⟩⟩
/-- Another node in the place that a path leads to. -/
theorem laid_put {w : World} {lim F m e : Nat} {q : List Nd} {x : Int × Int × Fo} (hF : F < lim) (hR : Rises m q) (hf : Full m q) (hL : Laid w F m q (fun j => j ≠ e)) (hx : NodeAt w lim F e x.1 x.2.1 x.2.2) :
    ∀ (r : List Int) (i : Int) (f : Fo) (s : Nat), Ly q f s → 0 ≤ i → i.toNat < f.len → (atN (f.k i.toNat) (f.n i.toNat) (f.kids i.toNat) r).isSome → wk m q s (i :: r) = e → (∀ a b, s ≤ a → a < s + f.len → s ≤ b → b < s + f.len → a ≠ b → Sub m q a e → Sub m q b e → False) →
    (f.setk i.toNat (putN (f.k i.toNat) (f.n i.toNat) (f.kids i.toNat) r x).1 (putN (f.k i.toNat) (f.n i.toNat) (f.kids i.toNat) r x).2.1 (putN (f.k i.toNat) (f.n i.toNat) (f.kids i.toNat) r x).2.2).At w lim F (s * 3)
  | r, i, f, s, hl, h0, hi, hv, he, hs => by
    have hsub := (wk_sub hf r i f s hl h0 hi hv).1
    rw [he] at hsub
    have others : ∀ t, t < f.len → t ≠ i.toNat → NodeAt w lim F (s + t) (f.k t) (f.n t) (f.kids t) := by
      intro t ht hne
      have hq := hl t ht
      have hno : ∀ y, Sub m q (s + t) y → y ≠ e := fun y hy hye => by
        subst hye
        exact hs (s + t) (s + i.toNat) (by omega) (by omega) (by omega) (by omega) (by omega) hy hsub
      obtain ⟨c0, c1, c2⟩ := hL _ _ (hno _ .refl) hq
      obtain ⟨l1, l2⟩ := hf _ _ hq
      exact ⟨c0, c1, _, c2, kidv_kids l2 (laid_at hF hL hf _ _ l1 (fun u hu y hy => hno y (Sub.front hq (Nat.le_add_right _ _) (Nat.add_lt_add_left hu _) hy)))⟩
    refine at_of_nodes hF _ s (fun t ht => ?_)
    rw [setk_len] at ht
    by_cases hti : t = i.toNat
    · subst hti
      obtain ⟨e1, e2, e3⟩ := setk_same f i.toNat (putN (f.k i.toNat) (f.n i.toNat) (f.kids i.toNat) r x).1 (putN (f.k i.toNat) (f.n i.toNat) (f.kids i.toNat) r x).2.1 (putN (f.k i.toNat) (f.n i.toNat) (f.kids i.toNat) r x).2.2 hi
      rw [e1, e2, e3]
      match r, hv, he, hsub with
      | [], hv, he, hsub =>
        have : s + i.toNat = e := he
        rw [this]
        exact hx
      | j :: r, hv, he, hsub =>
        have hq := hl _ hi
        obtain ⟨l1, l2⟩ := hf _ _ hq
        obtain ⟨g1, g2⟩ := wk_sub hf (j :: r) i f s hl h0 hi hv
        obtain ⟨g3, g4, g5⟩ := g2 j r rfl
        have g6 := g3.le hR
        have hr := hR _ _ hq (by dsimp only; omega)
        have hne : s + i.toNat ≠ e := by rw [he] at g6; omega
        obtain ⟨c0, c1, c2⟩ := hL _ _ hne hq
        have hv' : (atN ((f.kids i.toNat).k j.toNat) ((f.kids i.toNat).n j.toNat) ((f.kids i.toNat).kids j.toNat) r).isSome := by
          rw [atN] at hv
          by_cases hj : j < 0 ∨ ((f.kids i.toNat).len : Int) ≤ j
          · rw [if_pos hj] at hv; cases hv
          · rw [if_neg hj] at hv; exact hv
        have ih := laid_put hF hR hf hL hx r j (f.kids i.toNat) (pos m q (s + i.toNat)) l1 g4 g5 hv' he (fun a b a1 a2 b1 b2 hne ha hb => sibs_kids hR hq a1 a2 b1 b2 hne ha hb)
        refine ⟨c0, c1, _, c2, ?_⟩
        have hk := kidv_kids (by rw [setk_len]; exact l2) ih
        rw [setk_len] at hk
        exact hk
    · obtain ⟨e1, e2, e3⟩ := setk_other f i.toNat t (putN (f.k i.toNat) (f.n i.toNat) (f.kids i.toNat) r x).1 (putN (f.k i.toNat) (f.n i.toNat) (f.kids i.toNat) r x).2.1 (putN (f.k i.toNat) (f.n i.toNat) (f.kids i.toNat) r x).2.2 hti
      rw [e1, e2, e3]
      exact others t ht hti
termination_by r => r.length
end Go.Proofs.Ytfjioflggkmhcaa
