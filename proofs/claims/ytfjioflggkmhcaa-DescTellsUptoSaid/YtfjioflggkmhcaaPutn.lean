/- Another tree put in a tree's place: numbers. -/
import Derived.Test.YtfjioflggkmhcaaAtr2
import Derived.Test.YtfjioflggkmhcaaCoste
namespace Go.Proofs.Ytfjioflggkmhcaa
open Go.ChangeShapes Go.WideShapes Go.ChangeAt Go.RowKit
set_option linter.unusedVariables false
def Fo.setk : Fo → Nat → Int → Int → Fo → Fo
  | .nil, _, _, _, _ => .nil
  | .cons _ _ _ r, 0, k, n, ks => .cons k n ks r
  | .cons k n ks r, i + 1, k', n', ks' => .cons k n ks (r.setk i k' n' ks')
theorem setk_len : ∀ (f : Fo) (i : Nat) (k n : Int) (ks : Fo), (f.setk i k n ks).len = f.len
  | .nil, _, _, _, _ => rfl
  | .cons _ _ _ r, 0, _, _, _ => rfl
  | .cons _ _ _ r, i + 1, k, n, ks => by rw [Fo.setk, Fo.len, Fo.len, setk_len r i k n ks]
theorem setk_n : ∀ (f : Fo) (i : Nat) (k : Int) (ks : Fo) (j : Nat), i < f.len → (f.setk i k (f.n i) ks).n j = f.n j
  | .nil, _, _, _, _, h => by simp [Fo.len] at h
  | .cons _ _ _ r, 0, _, _, 0, _ => rfl
  | .cons _ _ _ r, 0, _, _, j + 1, _ => rfl
  | .cons _ _ _ r, i + 1, k, ks, 0, _ => rfl
  | .cons _ _ _ r, i + 1, k, ks, j + 1, h => setk_n r i k ks j (by simp [Fo.len] at h; omega)
theorem setk_pre : ∀ (f : Fo) (i : Nat) (k n : Int) (ks : Fo), f.pre.all Nd.ok = true → (Nd.mk k n ks).ok = true → ks.pre.all Nd.ok = true → (f.setk i k n ks).pre.all Nd.ok = true
  | .nil, _, _, _, _, h, _, _ => h
  | .cons _ _ _ r, 0, k, n, ks, h, h1, h2 => by
    simp only [Fo.pre, List.all_cons, List.all_append, Bool.and_eq_true] at h
    simp only [Fo.setk, Fo.pre, List.all_cons, List.all_append, Bool.and_eq_true]
    exact ⟨h1, h2, h.2.2⟩
  | .cons _ _ _ r, i + 1, k, n, ks, h, h1, h2 => by
    simp only [Fo.pre, List.all_cons, List.all_append, Bool.and_eq_true] at h
    simp only [Fo.setk, Fo.pre, List.all_cons, List.all_append, Bool.and_eq_true]
    exact ⟨h.1, h.2.1, setk_pre r i k n ks h.2.2 h1 h2⟩
theorem pre_kid (f : Fo) : ∀ (i : Nat), i < f.len → f.pre.all Nd.ok = true → (Nd.mk (f.k i) (f.n i) (f.kids i)).ok = true ∧ (f.kids i).pre.all Nd.ok = true := by
  induction f with
  | nil => intro i h; simp [Fo.len] at h
  | cons k n ks r _ ih =>
    intro i h ha
    simp only [Fo.pre, List.all_cons, List.all_append, Bool.and_eq_true] at ha
    cases i with
    | zero => exact ⟨ha.1, ha.2.1⟩
    | succ i => exact ih i (by simp [Fo.len] at h; omega) ha.2.2
theorem kid_depth : ∀ (f : Fo) (i : Nat), i < f.len → (f.kids i).depth ≤ f.depth
  | .nil, _, h => by simp [Fo.len] at h
  | .cons _ _ ks r, 0, _ => by show ks.depth ≤ max (ks.depth + 1) r.depth; omega
  | .cons _ _ ks r, i + 1, h => by have := kid_depth r i (by simp [Fo.len] at h; omega); show (r.kids i).depth ≤ max (ks.depth + 1) r.depth; omega
/-- Another one at a path, of one that is there. -/
def putN : Int → Int → Fo → List Int → Int × Int × Fo → Int × Int × Fo
  | _, _, _, [], w => w
  | k, n, ks, i :: r, w => (k, n, ks.setk i.toNat (putN (ks.k i.toNat) (ks.n i.toNat) (ks.kids i.toNat) r w).1 (putN (ks.k i.toNat) (ks.n i.toNat) (ks.kids i.toNat) r w).2.1 (putN (ks.k i.toNat) (ks.n i.toNat) (ks.kids i.toNat) r w).2.2)
theorem put_ok : ∀ (xs : List Int) (k n : Int) (ks : Fo) (x w : Int × Int × Fo), atN k n ks xs = some x → (Nd.mk k n ks).ok = true → ks.pre.all Nd.ok = true → (Nd.mk w.1 w.2.1 w.2.2).ok = true → w.2.2.pre.all Nd.ok = true → w.2.1 = x.2.1 →
    (Nd.mk (putN k n ks xs w).1 (putN k n ks xs w).2.1 (putN k n ks xs w).2.2).ok = true ∧ (putN k n ks xs w).2.2.pre.all Nd.ok = true ∧ (putN k n ks xs w).2.1 = n
  | [], k, n, ks, x, w, h, _, _, h1, h2, h3 => by
    rw [atN] at h
    cases h
    exact ⟨h1, h2, h3⟩
  | i :: r, k, n, ks, x, w, h, ho, ha, h1, h2, h3 => by
    rw [atN] at h
    by_cases hi : i < 0 ∨ (ks.len : Int) ≤ i
    · rw [if_pos hi] at h; cases h
    · rw [if_neg hi] at h
      obtain ⟨k1, k2⟩ := pre_kid ks i.toNat (by omega) ha
      obtain ⟨g1, g2, g3⟩ := put_ok r _ _ _ x w h k1 k2 h1 h2 h3
      refine ⟨?_, setk_pre _ _ _ _ _ ha g1 g2, rfl⟩
      show nodeB k n (Fo.len (Fo.setk ks i.toNat _ _ _)) (Fo.n (Fo.setk ks i.toNat _ _ _) 0) (Fo.n (Fo.setk ks i.toNat _ _ _) 1) = true
      rw [setk_len, g3, setk_n _ _ _ _ _ (by omega), setk_n _ _ _ _ _ (by omega)]
      exact ho
theorem at_ok : ∀ (xs : List Int) (k n : Int) (ks : Fo) (x : Int × Int × Fo), atN k n ks xs = some x → (Nd.mk k n ks).ok = true → ks.pre.all Nd.ok = true → (Nd.mk x.1 x.2.1 x.2.2).ok = true ∧ x.2.2.pre.all Nd.ok = true ∧ x.2.2.cnt ≤ ks.cnt ∧ x.2.2.depth ≤ ks.depth
  | [], k, n, ks, x, h, ho, ha => by
    rw [atN] at h
    cases h
    exact ⟨ho, ha, Nat.le_refl _, Nat.le_refl _⟩
  | i :: r, k, n, ks, x, h, ho, ha => by
    rw [atN] at h
    by_cases hi : i < 0 ∨ (ks.len : Int) ≤ i
    · rw [if_pos hi] at h; cases h
    · rw [if_neg hi] at h
      obtain ⟨k1, k2⟩ := pre_kid ks i.toNat (by omega) ha
      obtain ⟨g1, g2, g3, g4⟩ := at_ok r _ _ _ x h k1 k2
      exact ⟨g1, g2, Nat.le_trans g3 (Nat.le_of_lt (Fo.cnt_kids ks _ (by omega))), Nat.le_trans g4 (kid_depth ks _ (by omega))⟩
/-- What is below a plan is a plan. -/
theorem at_chkd {xs : List Int} {k n k' n' : Int} {ks ks' : Fo} (h : atN k n ks xs = some (k', n', ks')) (hc : chkd k n ks = 0) : chkd k' n' ks' = 0 := by
  obtain ⟨ho, ha⟩ := chkd_ok hc
  obtain ⟨g1, g2, g3, g4⟩ := at_ok xs k n ks _ h ho ha
  have hb : ¬ (60 < ks.cnt + 1 ∨ 12 < ks.depth + 1) := fun hb => by rw [chkd, if_pos hb] at hc; cases hc
  rw [chkd, if_neg (by dsimp only at g3 g4; omega), if_pos (by rw [List.all_cons, g1, g2]; rfl)]
/-- A plan in a plan's place, of the same size, leaves one, or one that is too big. -/
theorem put_chkd {xs : List Int} {k n k' n' : Int} {ks ks' : Fo} {w : Int × Int × Fo} (h : atN k n ks xs = some (k', n', ks')) (hc : chkd k n ks = 0) (hw : chkd w.1 w.2.1 w.2.2 = 0) (he : w.2.1 = n') : chkd (putN k n ks xs w).1 (putN k n ks xs w).2.1 (putN k n ks xs w).2.2 = 0 ∨ chkd (putN k n ks xs w).1 (putN k n ks xs w).2.1 (putN k n ks xs w).2.2 = 12 := by
  obtain ⟨ho, ha⟩ := chkd_ok hc
  obtain ⟨h1, h2⟩ := chkd_ok hw
  obtain ⟨g1, g2, _⟩ := put_ok xs k n ks _ w h ho ha h1 h2 he
  by_cases hb : 60 < (putN k n ks xs w).2.2.cnt + 1 ∨ 12 < (putN k n ks xs w).2.2.depth + 1
  · exact .inr (by rw [chkd, if_pos hb])
  · exact .inl (by rw [chkd, if_neg hb, if_pos (by rw [List.all_cons, g1, g2]; rfl)])
end Go.Proofs.Ytfjioflggkmhcaa
