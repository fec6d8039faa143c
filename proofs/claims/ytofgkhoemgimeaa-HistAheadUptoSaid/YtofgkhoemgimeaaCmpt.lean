/- How two trees stand to each other, in numbers. -/
import Derived.Test.YtofgkhoemgimeaaNamc
namespace Go.Proofs.Ytofgkhoemgimeaa
open Go.ChangeShapes Go.WideShapes Go.ChangeAt Go.RowKit
set_option linter.unusedVariables false
def Fo.cmpF : Fo → Fo → Int
  | .cons k n ks r, .cons k' n' ks' r' => fz [cmp3 k k', cmp3 n n', cmp3 (ks.len : Int) (ks'.len : Int), ks.cmpF ks', r.cmpF r']
  | .nil, .nil => 0
  | .nil, .cons .. => -1
  | .cons .., .nil => 1
/-- How two nodes stand. -/
def cmpN (k n : Int) (ks : Fo) (k' n' : Int) (ks' : Fo) : Int := fz [cmp3 k k', cmp3 n n', cmp3 (ks.len : Int) (ks'.len : Int), ks.cmpF ks']
/-- Three answers go together. -/
def Goes (x y z : Int) : Prop := (x ≤ 0 → y ≤ 0 → z ≤ 0 ∧ (z = 0 ↔ x = 0 ∧ y = 0))
theorem fz_cons (x : Int) (l : List Int) : fz (x :: l) = if x = 0 then fz l else x := rfl
theorem goes_cons {x y z : Int} {l m t : List Int} (h : Goes x y z) (g : Goes (fz l) (fz m) (fz t)) : Goes (fz (x :: l)) (fz (y :: m)) (fz (z :: t)) := by
  rw [fz_cons, fz_cons, fz_cons]
  intro h1 h2
  by_cases hx : x = 0
  · by_cases hy : y = 0
    · obtain ⟨a1, a2⟩ := h (by omega) (by omega)
      have hz := a2.2 ⟨hx, hy⟩
      rw [if_pos hx] at h1 ⊢
      rw [if_pos hy] at h2 ⊢
      rw [if_pos hz]
      exact g h1 h2
    · rw [if_neg hy] at h2 ⊢
      obtain ⟨a1, a2⟩ := h (by omega) h2
      have hz : z ≠ 0 := fun e => hy (a2.1 e).2
      rw [if_neg hz]
      exact ⟨a1, fun e => absurd e hz, fun e => absurd e.2 hy⟩
  · rw [if_neg hx] at h1 ⊢
    have h3 : y ≤ 0 := by
      by_cases hy : y = 0
      · omega
      · rw [if_neg hy] at h2; exact h2
    obtain ⟨a1, a2⟩ := h h1 h3
    have hz : z ≠ 0 := fun e => hx (a2.1 e).1
    rw [if_neg hz]
    exact ⟨a1, fun e => absurd e hz, fun e => absurd e.1 hx⟩
theorem goes_3 (a b c : Int) : Goes (cmp3 a b) (cmp3 b c) (cmp3 a c) := by
  unfold Goes cmp3
  repeat' split
  all_goals omega
theorem goes_end (x y z : Int) (h : Goes x y z) : Goes (fz [x]) (fz [y]) (fz [z]) := goes_cons h (by unfold Goes fz; omega)
theorem cmpF_goes : ∀ (a b c : Fo), Goes (a.cmpF b) (b.cmpF c) (a.cmpF c)
  | .cons k n ks r, .cons k' n' ks' r', .cons k'' n'' ks'' r'' => by
    rw [Fo.cmpF, Fo.cmpF, Fo.cmpF]
    exact goes_cons (goes_3 _ _ _) (goes_cons (goes_3 _ _ _) (goes_cons (goes_3 _ _ _) (goes_cons (cmpF_goes ks ks' ks'') (goes_end _ _ _ (cmpF_goes r r' r'')))))
  | .nil, .nil, .nil => by unfold Goes Fo.cmpF; omega
  | .nil, .nil, .cons .. => by unfold Goes Fo.cmpF; omega
  | .nil, .cons .., .nil => by unfold Goes Fo.cmpF; omega
  | .nil, .cons .., .cons .. => by
    have : ∀ y, Goes (-1) y (-1) := fun y => by unfold Goes; omega
    exact this _
  | .cons .., .nil, .nil => by unfold Goes; simp only [Fo.cmpF]; omega
  | .cons .., .nil, .cons .. => by unfold Goes; simp only [Fo.cmpF]; omega
  | .cons .., .cons .., .nil => by unfold Goes; simp only [Fo.cmpF]; omega
theorem cmpN_goes (k n : Int) (ks : Fo) (k' n' : Int) (ks' : Fo) (k'' n'' : Int) (ks'' : Fo) : Goes (cmpN k n ks k' n' ks') (cmpN k' n' ks' k'' n'' ks'') (cmpN k n ks k'' n'' ks'') :=
  goes_cons (goes_3 _ _ _) (goes_cons (goes_3 _ _ _) (goes_cons (goes_3 _ _ _) (goes_end _ _ _ (cmpF_goes ks ks' ks''))))
theorem fz_one (x : Int) : fz [x] = x := by rw [fz_cons]; split <;> simp_all [fz]
theorem fz_neg2 (x : Int) (l m : List Int) (h : fz m = - fz l) : fz (-x :: m) = - fz (x :: l) := by
  rw [fz_cons, fz_cons, h]
  by_cases hx : x = 0
  · rw [if_pos hx, if_pos (by omega)]
  · rw [if_neg hx, if_neg (by omega)]
theorem cmpF_neg : ∀ (a b : Fo), b.cmpF a = - a.cmpF b
  | .cons k n ks r, .cons k' n' ks' r' => by
    rw [Fo.cmpF, Fo.cmpF, cmp3_neg k k', cmp3_neg n n', cmp3_neg (ks.len : Int), cmpF_neg ks ks', cmpF_neg r r']
    exact fz_neg2 _ _ _ (fz_neg2 _ _ _ (fz_neg2 _ _ _ (fz_neg2 _ _ _ (fz_neg2 _ [] [] rfl))))
  | .nil, .nil => rfl
  | .nil, .cons .. => rfl
  | .cons .., .nil => rfl
theorem cmpN_neg (k n : Int) (ks : Fo) (k' n' : Int) (ks' : Fo) : cmpN k' n' ks' k n ks = - cmpN k n ks k' n' ks' := by
  unfold cmpN
  rw [cmp3_neg k k', cmp3_neg n n', cmp3_neg (ks.len : Int), cmpF_neg ks ks']
  exact fz_neg2 _ _ _ (fz_neg2 _ _ _ (fz_neg2 _ _ _ (fz_neg2 _ [] [] rfl)))
theorem cmpF_self (a : Fo) : a.cmpF a = 0 := by have := cmpF_neg a a; omega
theorem cmpN_self (k n : Int) (ks : Fo) : cmpN k n ks k n ks = 0 := by have := cmpN_neg k n ks k n ks; omega
theorem fz_bd : ∀ l : List Int, (∀ x ∈ l, -1 ≤ x ∧ x ≤ 1) → -1 ≤ fz l ∧ fz l ≤ 1
  | [], _ => by unfold fz; omega
  | x :: l, h => by
    rw [fz_cons]
    split
    · exact fz_bd l fun y hy => h y (List.mem_cons_of_mem _ hy)
    · exact h x (List.mem_cons_self ..)
theorem cmp3_bd (x y : Int) : -1 ≤ cmp3 x y ∧ cmp3 x y ≤ 1 := by unfold cmp3; split <;> (try split) <;> omega
theorem cmpF_bd : ∀ (a b : Fo), -1 ≤ a.cmpF b ∧ a.cmpF b ≤ 1
  | .cons k n ks r, .cons k' n' ks' r' => by
    rw [Fo.cmpF]
    refine fz_bd _ fun x hx => ?_
    simp only [List.mem_cons, List.not_mem_nil, or_false] at hx
    rcases hx with rfl | rfl | rfl | rfl | rfl
    · exact cmp3_bd _ _
    · exact cmp3_bd _ _
    · exact cmp3_bd _ _
    · exact cmpF_bd ks ks'
    · exact cmpF_bd r r'
  | .nil, .nil => by unfold Fo.cmpF; omega
  | .nil, .cons .. => by unfold Fo.cmpF; omega
  | .cons .., .nil => by unfold Fo.cmpF; omega
theorem cmpN_bd (k n : Int) (ks : Fo) (k' n' : Int) (ks' : Fo) : -1 ≤ cmpN k n ks k' n' ks' ∧ cmpN k n ks k' n' ks' ≤ 1 := by
  refine fz_bd _ fun x hx => ?_
  simp only [List.mem_cons, List.not_mem_nil, or_false] at hx
  rcases hx with rfl | rfl | rfl | rfl
  · exact cmp3_bd _ _
  · exact cmp3_bd _ _
  · exact cmp3_bd _ _
  · exact cmpF_bd ks ks'
/-- The kids from the i-th on, of two rows of one length. -/
theorem cmpF_drop (a b : Fo) (i : Nat) (ha : i < a.len) (hb : i < b.len) : (a.drop i).cmpF (b.drop i) = if cmpN (a.k i) (a.n i) (a.kids i) (b.k i) (b.n i) (b.kids i) = 0 then (a.drop (i + 1)).cmpF (b.drop (i + 1)) else cmpN (a.k i) (a.n i) (a.kids i) (b.k i) (b.n i) (b.kids i) := by
  rw [Fo.drop_at a i ha, Fo.drop_at b i hb, Fo.cmpF]
  unfold cmpN
  simp only [fz_cons]
  generalize cmp3 (a.k i) (b.k i) = x1
  generalize cmp3 (a.n i) (b.n i) = x2
  generalize cmp3 ((a.kids i).len : Int) ((b.kids i).len : Int) = x3
  generalize (a.kids i).cmpF (b.kids i) = x4
  generalize (a.drop (i + 1)).cmpF (b.drop (i + 1)) = x5
  unfold fz
  by_cases h1 : x1 = 0 <;> by_cases h2 : x2 = 0 <;> by_cases h3 : x3 = 0 <;> by_cases h4 : x4 = 0 <;> by_cases h5 : x5 = 0 <;> simp [h1, h2, h3, h4, h5]
theorem cmpF_end (a b : Fo) (m : Nat) (ha : a.len = m) (hb : b.len = m) : (a.drop m).cmpF (b.drop m) = 0 := by
  have h1 : a.drop m = .nil := by rw [← ha]; exact Fo.drop_len a
  have h2 : b.drop m = .nil := by rw [← hb]; exact Fo.drop_len b
  rw [h1, h2]; rfl
end Go.Proofs.Ytofgkhoemgimeaa
