/- Another tree put in a tree's place: its numbers are in order, and how many there are. -/
import Derived.Test.YtfjioflggkmhcaaPutn
namespace Go.Proofs.Ytfjioflggkmhcaa
open Go.ChangeShapes Go.WideShapes Go.ChangeAt Go.RowKit
set_option linter.unusedVariables false
set_option linter.unusedSimpArgs false
abbrev In64 (x : Int) : Prop := -9223372036854775808 ≤ x ∧ x ≤ 9223372036854775807
theorem setk_wf : ∀ (f : Fo) (i : Nat) (k n : Int) (g : Fo), f.wf → In64 k → In64 n → g.wf → (f.setk i k n g).wf
  | .nil, _, _, _, _, _, _, _, _ => trivial
  | .cons _ _ _ r, 0, k, n, g, h, h1, h2, h3 => ⟨h1, h2, h3, h.2.2.2⟩
  | .cons _ _ _ r, i + 1, k, n, g, h, h1, h2, h3 => ⟨h.1, h.2.1, h.2.2.1, setk_wf r i k n g h.2.2.2 h1 h2 h3⟩
theorem setk_cnt : ∀ (f : Fo) (i : Nat) (k n : Int) (g : Fo), i < f.len → (f.setk i k n g).cnt + (f.kids i).cnt = f.cnt + g.cnt
  | .nil, _, _, _, _, h => by simp [Fo.len] at h
  | .cons _ _ _ r, 0, k, n, g, _ => by simp only [Fo.setk, Fo.cnt, Fo.kids]; omega
  | .cons _ _ _ r, i + 1, k, n, g, h => by
    have := setk_cnt r i k n g (by simp [Fo.len] at h; omega)
    simp only [Fo.setk, Fo.cnt, Fo.kids]; omega
theorem at_wf : ∀ (xs : List Int) (k n : Int) (ks : Fo) (x : Int × Int × Fo), atN k n ks xs = some x → In64 k → In64 n → ks.wf → In64 x.1 ∧ In64 x.2.1 ∧ x.2.2.wf ∧ x.2.2.cnt ≤ ks.cnt
  | [], k, n, ks, x, h, hk, hn, hw => by rw [atN] at h; cases h; exact ⟨hk, hn, hw, Nat.le_refl _⟩
  | i :: r, k, n, ks, x, h, hk, hn, hw => by
    rw [atN] at h
    by_cases hi : i < 0 ∨ (ks.len : Int) ≤ i
    · rw [if_pos hi] at h; cases h
    · rw [if_neg hi] at h
      obtain ⟨g1, g2, g3⟩ := Fo.wf_at ks i.toNat hw (by omega)
      obtain ⟨f1, f2, f3, f4⟩ := at_wf r _ _ _ x h g1 g2 g3
      exact ⟨f1, f2, f3, Nat.le_trans f4 (Nat.le_of_lt (Fo.cnt_kids ks _ (by omega)))⟩
theorem put_wf (w : Int × Int × Fo) (h1 : In64 w.1) (h2 : In64 w.2.1) (h3 : w.2.2.wf) : ∀ (xs : List Int) (k n : Int) (ks : Fo), (atN k n ks xs).isSome → In64 k → In64 n → ks.wf → In64 (putN k n ks xs w).1 ∧ In64 (putN k n ks xs w).2.1 ∧ (putN k n ks xs w).2.2.wf ∧ (putN k n ks xs w).2.2.cnt ≤ ks.cnt + w.2.2.cnt
  | [], k, n, ks, _, _, _, _ => ⟨h1, h2, h3, by show w.2.2.cnt ≤ _; omega⟩
  | i :: r, k, n, ks, h, hk, hn, hw => by
    rw [atN] at h
    by_cases hi : i < 0 ∨ (ks.len : Int) ≤ i
    · rw [if_pos hi] at h; cases h
    · rw [if_neg hi] at h
      obtain ⟨g1, g2, g3⟩ := Fo.wf_at ks i.toNat hw (by omega)
      obtain ⟨f1, f2, f3, f4⟩ := put_wf w h1 h2 h3 r _ _ _ h g1 g2 g3
      refine ⟨hk, hn, setk_wf _ _ _ _ _ hw f1 f2 f3, ?_⟩
      have := setk_cnt ks i.toNat (putN (ks.k i.toNat) (ks.n i.toNat) (ks.kids i.toNat) r w).1 (putN (ks.k i.toNat) (ks.n i.toNat) (ks.kids i.toNat) r w).2.1 (putN (ks.k i.toNat) (ks.n i.toNat) (ks.kids i.toNat) r w).2.2 (by omega)
      show (ks.setk i.toNat _ _ _).cnt ≤ _
      omega
end Go.Proofs.Ytfjioflggkmhcaa
