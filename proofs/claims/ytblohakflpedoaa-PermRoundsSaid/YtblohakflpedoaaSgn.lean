/- The sign of an order: plain numbers, no Go text. -/
import Derived.Test.YtblohakflpedoaaPermc
namespace Go.Proofs.Ytblohakflpedoaa
open Go.ChangeShapes Go.WideShapes Go.ChangeAt Go.RowKit
set_option linter.unusedVariables false
/-- Pairs that stand the other way round. -/
def invr (f : Nat → Int) (i : Nat) : Nat → Nat
  | 0 => 0
  | k + 1 => invr f i k + (if f k > f i then 1 else 0)
def invs (f : Nat → Int) : Nat → Nat
  | 0 => 0
  | n + 1 => invs f n + invr f n n
def swp (f : Nat → Int) (a b : Nat) : Nat → Int := fun i => if i = a then f b else if i = b then f a else f i
theorem invr_congr {f g : Nat → Int} {i j : Nat} (h0 : f i = g j) : ∀ k, (∀ x, x < k → f x = g x) → invr f i k = invr g j k
  | 0, _ => rfl
  | k + 1, h => by rw [invr, invr, invr_congr h0 k (fun x hx => h x (by omega)), h k (by omega), h0]
theorem invs_congr {f g : Nat → Int} : ∀ n, (∀ x, x < n → f x = g x) → invs f n = invs g n
  | 0, _ => rfl
  | n + 1, h => by rw [invs, invs, invs_congr n (fun x hx => h x (by omega)), invr_congr (h n (by omega)) n (fun x hx => h x (by omega))]
theorem swp_out {f : Nat → Int} {a b i : Nat} (h1 : i ≠ a) (h2 : i ≠ b) : swp f a b i = f i := by unfold swp; rw [if_neg h1, if_neg h2]
theorem swp_a (f : Nat → Int) (a b : Nat) : swp f a b a = f b := by unfold swp; rw [if_pos rfl]
theorem swp_b (f : Nat → Int) (a b : Nat) : swp f a b b = f a := by
  unfold swp
  by_cases h : b = a
  · rw [if_pos h, h]
  · rw [if_neg h, if_pos rfl]
/-- Neighbours change places: what stands ahead of a later one is the same in number. -/
theorem invr_swp {f : Nat → Int} {a i : Nat} (hi : a + 1 < i) : ∀ d, invr (swp f a (a + 1)) i (a + 2 + d) = invr f i (a + 2 + d)
  | 0 => by
    rw [Nat.add_zero, invr, invr, invr, invr, swp_a, swp_b, swp_out (i := i) (by omega) (by omega), invr_congr (f := swp f a (a + 1)) (g := f) (i := i) (j := i) (swp_out (by omega) (by omega)) a (fun x hx => swp_out (by omega) (by omega))]
    omega
  | d + 1 => by
    rw [← Nat.add_assoc, invr, invr, invr_swp hi d, swp_out (i := i) (by omega) (by omega), swp_out (i := a + 2 + d) (by omega) (by omega)]
theorem invs_next {f : Nat → Int} {a : Nat} (hd : f a ≠ f (a + 1)) : ∀ d, (invs (swp f a (a + 1)) (a + 2 + d) + invs f (a + 2 + d)) % 2 = 1
  | 0 => by
    have h1 : invs (swp f a (a + 1)) a = invs f a := invs_congr a (fun x hx => swp_out (by omega) (by omega))
    have h2 : invr (swp f a (a + 1)) a a = invr f (a + 1) a := invr_congr (swp_a ..) a (fun x hx => swp_out (by omega) (by omega))
    have h3 : invr (swp f a (a + 1)) (a + 1) a = invr f a a := invr_congr (swp_b ..) a (fun x hx => swp_out (by omega) (by omega))
    have e1 : invs (swp f a (a + 1)) (a + 2) = invs f a + invr f (a + 1) a + (invr f a a + (if f (a + 1) > f a then 1 else 0)) := by
      rw [show a + 2 = (a + 1) + 1 from rfl, invs, invs, invr, h1, h2, h3, swp_a, swp_b]
    have e2 : invs f (a + 2) = invs f a + invr f a a + (invr f (a + 1) a + (if f a > f (a + 1) then 1 else 0)) := by
      rw [show a + 2 = (a + 1) + 1 from rfl, invs, invs, invr]
    rw [Nat.add_zero, e1, e2]
    split <;> split <;> omega
  | d + 1 => by
    have ih := invs_next hd d
    rw [← Nat.add_assoc, invs, invs, invr_swp (f := f) (a := a) (i := a + 2 + d) (by omega) d]
    omega
def apt (f : Nat → Int) (n : Nat) : Prop := ∀ i j, i < j → j < n → f i ≠ f j
theorem apt.ne {f : Nat → Int} {n i j : Nat} (h : apt f n) (hi : i < n) (hj : j < n) (hn : i ≠ j) : f i ≠ f j := by
  rcases Nat.lt_or_gt_of_ne hn with h1 | h1
  · exact h i j h1 hj
  · exact fun e => h j i h1 hi e.symm
theorem swp_comm (f : Nat → Int) (a b : Nat) : swp f a b = swp f b a := by
  funext i
  unfold swp
  by_cases h1 : i = a
  · subst h1
    by_cases h2 : i = b
    · subst h2; rfl
    · rw [if_pos rfl, if_neg h2, if_pos rfl]
  · by_cases h2 : i = b
    · subst h2; rw [if_neg h1, if_pos rfl, if_pos rfl]
    · rw [if_neg h1, if_neg h2, if_neg h2, if_neg h1]
theorem swp_apt {f : Nat → Int} {n a b : Nat} (h : apt f n) (ha : a < n) (hb : b < n) : apt (swp f a b) n := by
  intro i j hij hj
  unfold swp
  by_cases h1 : i = a
  · subst h1
    rw [if_pos rfl]
    by_cases h2 : j = b
    · subst h2; rw [if_neg (by omega), if_pos rfl]; exact h.ne hb ha (by omega)
    · rw [if_neg (by omega), if_neg h2]; exact h.ne hb hj (fun e => h2 e.symm)
  · rw [if_neg h1]
    by_cases h2 : i = b
    · subst h2
      rw [if_pos rfl]
      by_cases h3 : j = a
      · subst h3; rw [if_pos rfl]; exact h.ne ha hb (by omega)
      · rw [if_neg h3, if_neg (by omega)]; exact h.ne ha hj (fun e => h3 e.symm)
    · rw [if_neg h2]
      by_cases h3 : j = a
      · subst h3; rw [if_pos rfl]; exact h.ne (by omega) hb h2
      · rw [if_neg h3]
        by_cases h4 : j = b
        · subst h4; rw [if_pos rfl]; exact h.ne (by omega) ha h1
        · rw [if_neg h4]; exact h i j hij hj
/-- Two change places: the parity turns. -/
theorem invs_swap {n : Nat} : ∀ (d a : Nat) (f : Nat → Int), apt f n → a + 1 + d < n → (invs (swp f a (a + 1 + d)) n + invs f n) % 2 = 1
  | 0, a, f, hf, hn => by
    have := invs_next (f := f) (a := a) (hf a (a + 1) (by omega) (by omega)) (n - (a + 2))
    rwa [show a + 2 + (n - (a + 2)) = n by omega] at this
  | d + 1, a, f, hf, hn => by
    have e : swp f a (a + 1 + (d + 1)) = swp (swp (swp f (a + 1 + d) (a + 1 + d + 1)) a (a + 1 + d)) (a + 1 + d) (a + 1 + d + 1) := by
      funext i
      by_cases h1 : i = a
      · subst h1
        rw [swp_a, swp_out (by omega) (by omega), swp_a, swp_a]; rfl
      · by_cases h2 : i = a + 1 + d
        · subst h2
          rw [swp_out (by omega) (by omega), swp_a, swp_out (by omega) (by omega), swp_b]
        · by_cases h3 : i = a + 1 + d + 1
          · subst h3
            rw [show a + 1 + (d + 1) = a + 1 + d + 1 from rfl, swp_b, swp_b, swp_b, swp_out (by omega) (by omega)]
          · rw [show a + 1 + (d + 1) = a + 1 + d + 1 from rfl, swp_out h1 h3, swp_out h2 h3, swp_out h1 h2, swp_out h2 h3]
    have p1 := swp_apt (a := a + 1 + d) (b := a + 1 + d + 1) hf (by omega) (by omega)
    have p2 := swp_apt (a := a) (b := a + 1 + d) p1 (by omega) (by omega)
    have h1 := invs_next (f := f) (a := a + 1 + d) (hf _ _ (by omega) (by omega)) (n - (a + 1 + d + 2))
    have h2 := invs_swap d a (swp f (a + 1 + d) (a + 1 + d + 1)) p1 (by omega)
    have h3 := invs_next (f := swp (swp f (a + 1 + d) (a + 1 + d + 1)) a (a + 1 + d)) (a := a + 1 + d) (p2 _ _ (by omega) (by omega)) (n - (a + 1 + d + 2))
    rw [show a + 1 + d + 2 + (n - (a + 1 + d + 2)) = n by omega] at h1 h3
    rw [e]
    omega
theorem invs_sw {n a b : Nat} {f : Nat → Int} (hf : apt f n) (ha : a < n) (hb : b < n) (hn : a ≠ b) : (invs (swp f a b) n + invs f n) % 2 = 1 := by
  rcases Nat.lt_or_gt_of_ne hn with h | h
  · have := invs_swap (b - (a + 1)) a f hf (by omega)
    rwa [show a + 1 + (b - (a + 1)) = b by omega] at this
  · have := invs_swap (a - (b + 1)) b f hf (by omega)
    rw [show b + 1 + (a - (b + 1)) = a by omega] at this
    rwa [swp_comm]
/-- By k changes of two places f becomes g (below n). -/
inductive Ch (n : Nat) : Nat → (Nat → Int) → (Nat → Int) → Prop
  | nil {f g : Nat → Int} (h : ∀ i, i < n → f i = g i) : Ch n 0 f g
  | cons {k : Nat} {f g : Nat → Int} (a b : Nat) (ha : a < n) (hb : b < n) (hn : a ≠ b) (h : Ch n k (swp f a b) g) : Ch n (k + 1) f g
theorem Ch.parity {n k : Nat} {f g : Nat → Int} (h : Ch n k f g) : apt f n → (invs f n + invs g n) % 2 = k % 2 := by
  induction h with
  | nil h => intro _; rw [invs_congr n h]; omega
  | cons a b ha hb hn _ ih =>
    intro hf
    have h1 := ih (swp_apt hf ha hb)
    have h2 := invs_sw hf ha hb hn
    omega
theorem Ch.map {n k : Nat} {f g : Nat → Int} (h : Ch n k f g) (t : Int → Int) : Ch n k (fun i => t (f i)) (fun i => t (g i)) := by
  induction h with
  | nil h => exact .nil (fun i hi => by show t _ = t _; rw [h i hi])
  | @cons k f g a b ha hb hn _ ih =>
    refine .cons a b ha hb hn ?_
    have e : swp (fun i => t (f i)) a b = fun i => t (swp f a b i) := by
      funext i; simp only [swp]; repeat' split
      all_goals rfl
    rw [e]; exact ih
theorem Ch.trans {n k m : Nat} {f g h : Nat → Int} (x : Ch n k f g) : Ch n m g h → Ch n (k + m) f h := by
  induction x with
  | @nil f g e =>
    intro y
    rw [Nat.zero_add]
    induction y generalizing f with
    | nil e2 => exact .nil (fun i hi => (e i hi).trans (e2 i hi))
    | @cons k f2 g2 a b ha hb hn _ ih =>
      refine .cons a b ha hb hn (ih ?_)
      intro i hi
      simp only [swp]
      repeat' split
      · exact e b hb
      · exact e a ha
      · exact e i hi
  | @cons k f g a b ha hb hn _ ih =>
    intro y
    rw [show k + 1 + m = k + m + 1 by omega]
    exact .cons a b ha hb hn (ih y)
theorem invs_id : ∀ n, invs (fun i => (i : Int)) n = 0 := by
  have h : ∀ (i k : Nat), k ≤ i → invr (fun i => (i : Int)) i k = 0 := by
    intro i k
    induction k with
    | zero => intro _; rfl
    | succ k ih => intro hk; rw [invr, ih (by omega), if_neg (by omega)]
  intro n
  induction n with
  | zero => rfl
  | succ n ih => rw [invs, ih, h n n (Nat.le_refl _)]
/-- Any order becomes the plain one. -/
theorem Ch.sort {n : Nat} : ∀ (d : Nat) (f : Nat → Int), d ≤ n → (∀ i, i < n - d → f i = (i : Int)) → apt f n → (∀ v : Nat, v < n → ∃ i, i < n ∧ f i = (v : Int)) → ∃ k, Ch n k f (fun i => (i : Int))
  | 0, f, _, h, _, _ => ⟨0, .nil (fun i hi => h i (by omega))⟩
  | d + 1, f, hd, h, ha, hs => by
    obtain ⟨j, hj, e⟩ := hs (n - (d + 1)) (by omega)
    by_cases hjn : j = n - (d + 1)
    · subst hjn
      refine Ch.sort d f (by omega) (fun i hi => ?_) ha hs
      by_cases h1 : i < n - (d + 1)
      · exact h i h1
      · rw [show i = n - (d + 1) by omega]; exact e
    · have hgt : n - (d + 1) < j := by
        rcases Nat.lt_or_gt_of_ne hjn with h1 | h1
        · have := h j h1; omega
        · exact h1
      have q1 : ∀ i, i < n - d → swp f (n - (d + 1)) j i = (i : Int) := fun i hi => by
        by_cases h1 : i = n - (d + 1)
        · subst h1; rw [swp_a]; exact e
        · rw [swp_out h1 (by omega)]; exact h i (by omega)
      have q2 : ∀ v : Nat, v < n → ∃ i, i < n ∧ swp f (n - (d + 1)) j i = (v : Int) := fun v hv => by
        obtain ⟨x, hx, ex⟩ := hs v hv
        by_cases h1 : x = n - (d + 1)
        · exact ⟨j, hj, by rw [swp_b, ← h1]; exact ex⟩
        · by_cases h2 : x = j
          · exact ⟨n - (d + 1), by omega, by rw [swp_a, ← h2]; exact ex⟩
          · exact ⟨x, hx, by rw [swp_out h1 h2]; exact ex⟩
      obtain ⟨k, hk⟩ := Ch.sort d _ (by omega) q1 (swp_apt ha (by omega) hj) q2
      exact ⟨k + 1, .cons _ _ (by omega) hj (by omega) hk⟩
/-- The order of one behind the other. -/
theorem invs_mul {n : Nat} {p q : Nat → Int} (hq : apt q n) (hqs : ∀ v : Nat, v < n → ∃ i, i < n ∧ q i = (v : Int)) (t : Int → Int) (hp : ∀ i : Nat, i < n → t (i : Int) = p i) (ht : apt (fun i => t (q i)) n) :
    (invs (fun i => t (q i)) n) % 2 = (invs p n + invs q n) % 2 := by
  obtain ⟨k, hk⟩ := Ch.sort n q (Nat.le_refl _) (fun i hi => by omega) hq hqs
  have h1 := hk.parity hq
  have h2 := (hk.map t).parity ht
  rw [invs_id] at h1
  have h3 : invs (fun i : Nat => t (i : Int)) n = invs p n := invs_congr n hp
  rw [h3] at h2
  omega
/-- A round: c 0 .. c (m - 1) go on to one another; then all of them stand still. -/
def still (f : Nat → Int) (c : Nat → Nat) (j : Nat) : Nat → Int := fun i => if ∃ t, t < j ∧ i = c t then (i : Int) else f i
theorem Ch.round {n m : Nat} {f : Nat → Int} {c : Nat → Nat} (hc : ∀ t, t < m + 1 → c t < n) (hd : ∀ s t, s < t → t < m + 1 → c s ≠ c t) (hf : ∀ t, t < m → f (c t) = (c (t + 1) : Nat)) (hl : f (c m) = (c 0 : Nat)) :
    Ch n m f (still f c (m + 1)) := by
  -- step j: c 1 .. c j stand still, c 0 goes to c (j + 1)
  have key : ∀ j, j ≤ m → Ch n (m - j) (fun i => if i = c 0 then f (c j) else if ∃ t, t < j + 1 ∧ 1 ≤ t ∧ i = c t then (i : Int) else f i) (still f c (m + 1)) := by
    intro j hj
    obtain ⟨e, he⟩ : ∃ e, m - j = e := ⟨_, rfl⟩
    rw [he]
    induction e generalizing j with
    | zero =>
      have : j = m := by omega
      subst this
      refine .nil (fun i _ => ?_)
      unfold still
      by_cases h0 : i = c 0
      · rw [if_pos h0, if_pos ⟨0, by omega, h0⟩, hl, h0]
      · rw [if_neg h0]
        by_cases h1 : ∃ t, t < j + 1 ∧ 1 ≤ t ∧ i = c t
        · obtain ⟨t, t1, t2, t3⟩ := h1
          rw [if_pos ⟨t, t1, t2, t3⟩, if_pos ⟨t, by omega, t3⟩]
        · rw [if_neg h1, if_neg]
          rintro ⟨t, t1, t2⟩
          by_cases ht : t = 0
          · subst ht; exact h0 t2
          · exact h1 ⟨t, by omega, by omega, t2⟩
    | succ e ih =>
      have hjm : j < m := by omega
      refine .cons (c 0) (c (j + 1)) (hc 0 (by omega)) (hc _ (by omega)) (hd 0 (j + 1) (by omega) (by omega)) ?_
      have h2 := ih (j + 1) (by omega) (by omega)
      have e2 : swp (fun i => if i = c 0 then f (c j) else if ∃ t, t < j + 1 ∧ 1 ≤ t ∧ i = c t then (i : Int) else f i) (c 0) (c (j + 1)) = (fun i => if i = c 0 then f (c (j + 1)) else if ∃ t, t < j + 2 ∧ 1 ≤ t ∧ i = c t then (i : Int) else f i) := by
        funext i
        have hne : c (j + 1) ≠ c 0 := fun e => hd 0 (j + 1) (by omega) (by omega) e.symm
        have hno : ¬ ∃ t, t < j + 1 ∧ 1 ≤ t ∧ c (j + 1) = c t := by
          rintro ⟨t, t1, t2, t3⟩
          exact hd t (j + 1) (by omega) (by omega) t3.symm
        unfold swp
        by_cases h0 : i = c 0
        · subst h0
          simp only [if_true]
          rw [if_neg hne, if_neg hno]
        · rw [if_neg h0]
          by_cases h1 : i = c (j + 1)
          · subst h1
            simp only [if_true]
            rw [if_neg hne, if_pos ⟨j + 1, by omega, by omega, rfl⟩, hf j hjm]
          · rw [if_neg h1, if_neg h0]
            show (if i = c 0 then _ else _) = _
            rw [if_neg h0]
            by_cases h3 : ∃ t, t < j + 1 ∧ 1 ≤ t ∧ i = c t
            · obtain ⟨t, t1, t2, t3⟩ := h3
              rw [if_pos ⟨t, t1, t2, t3⟩, if_pos ⟨t, by omega, t2, t3⟩]
            · rw [if_neg h3, if_neg]
              rintro ⟨t, t1, t2, t3⟩
              by_cases ht : t = j + 1
              · subst ht; exact h1 t3
              · exact h3 ⟨t, by omega, t2, t3⟩
      rw [e2]; exact h2
  have h0 := key 0 (Nat.zero_le _)
  rw [Nat.sub_zero] at h0
  have e0 : (fun i => if i = c 0 then f (c 0) else if ∃ t, t < 0 + 1 ∧ 1 ≤ t ∧ i = c t then (i : Int) else f i) = f := by
    funext i
    by_cases h : i = c 0
    · rw [if_pos h, h]
    · rw [if_neg h, if_neg (by rintro ⟨t, t1, t2, _⟩; omega)]
  rw [e0] at h0
  exact h0
end Go.Proofs.Ytblohakflpedoaa
