/- Package stock: all pairs of a pass. -/
import Derived.Test.YtjiedfncamdojaaStock
import Derived.Outline
namespace Go.Proofs.Ytjiedfncamdojaa
open Go.ChangeShapes Go.WideShapes Go.ChangeAt Go.RowKit
set_option linter.unusedVariables false
/-- What a pass leaves at the place k. -/
def pk (xs ws : List Int) (s n k : Nat) : Int :=
  if k / s % 2 = 0 then fm (xs.getD (k % s + s * (k / s / 2)) 0 + xs.getD (k % s + s * (k / s / 2) + n / 2) 0)
  else fm (fm (xs.getD (k % s + s * (k / s / 2)) 0 - xs.getD (k % s + s * (k / s / 2) + n / 2) 0) * ws.getD (k / s / 2 * s) 0)
def passl (xs ws : List Int) (s n : Nat) : List Int := (List.range n).map (pk xs ws s n)
theorem passl_len (xs ws : List Int) (s n : Nat) : (passl xs ws s n).length = n := by unfold passl; simp
theorem passl_at (xs ws : List Int) (s n k : Nat) (h : k < n) : (passl xs ws s n).getD k 0 = pk xs ws s n k := by unfold passl; simp [List.getD, h]
theorem pk_lo (xs ws : List Int) (s n k : Nat) : 0 ≤ pk xs ws s n k := by unfold pk; split <;> exact fm_lo _
theorem pk_hi (xs ws : List Int) (s n k : Nat) : pk xs ws s n k ≤ 18446744069414584320 := by unfold pk; split <;> exact fm_hi _
theorem passl_wf (xs ws : List Int) (s n : Nat) : ∀ z ∈ passl xs ws s n, (Lit.int .u64 z).wf = true := by
  intro z hz
  unfold passl at hz
  obtain ⟨k, _, rfl⟩ := List.mem_map.1 hz
  exact WalkArith.wf_u64 ⟨pk_lo _ _ _ _ _, by have := pk_hi xs ws s n k; omega⟩
theorem even_at (q s i : Nat) (hq : q < s) : (q + s * 2 * i) % s = q ∧ (q + s * 2 * i) / s = 2 * i := by
  have e : s * 2 * i = s * (2 * i) := Nat.mul_assoc _ _ _
  rw [e]
  exact ⟨by rw [Nat.add_mul_mod_self_left, Nat.mod_eq_of_lt hq], by rw [Nat.add_mul_div_left _ _ (by omega), Nat.div_eq_of_lt hq, Nat.zero_add]⟩
theorem odd_at (q s i : Nat) (hq : q < s) : (q + s * (2 * i + 1)) % s = q ∧ (q + s * (2 * i + 1)) / s = 2 * i + 1 :=
  ⟨by rw [Nat.add_mul_mod_self_left, Nat.mod_eq_of_lt hq], by rw [Nat.add_mul_div_left _ _ (by omega), Nat.div_eq_of_lt hq, Nat.zero_add]⟩
theorem half_n (s h : Nat) : 2 * s * h / 2 = s * h := by rw [Nat.mul_assoc]; omega
theorem pk_even (xs ws : List Int) (q s i h : Nat) (hq : q < s) : pk xs ws s (2 * s * h) (q + s * 2 * i) = fm (xs.getD (q + s * i) 0 + xs.getD (q + s * (i + h)) 0) := by
  obtain ⟨e1, e2⟩ := even_at q s i hq
  unfold pk
  rw [e1, e2, if_pos (by omega), half_n, show 2 * i / 2 = i by omega, Nat.mul_add, Nat.add_assoc]
theorem pk_odd (xs ws : List Int) (q s i h : Nat) (hq : q < s) : pk xs ws s (2 * s * h) (q + s * (2 * i + 1)) = fm (fm (xs.getD (q + s * i) 0 - xs.getD (q + s * (i + h)) 0) * ws.getD (i * s) 0) := by
  obtain ⟨e1, e2⟩ := odd_at q s i hq
  unfold pk
  rw [e1, e2, if_neg (by omega), half_n, show (2 * i + 1) / 2 = i by omega, Nat.mul_add, Nat.add_assoc]
/-- The first i rounds, and q pairs of the next one, are done. -/
def Upto (xs ws zs : List Int) (s n i q : Nat) : Prop := ∀ k, k < n → (k / s < 2 * i ∨ (k / s < 2 * i + 2 ∧ k % s < q)) → zs.getD k 0 = pk xs ws s n k
theorem upto_start (xs ws zs : List Int) (s n : Nat) : Upto xs ws zs s n 0 0 := fun k _ h => (h.elim (fun h => absurd h (Nat.not_lt_zero _)) (fun h => absurd h.2 (Nat.not_lt_zero _)))
theorem upto_next (xs ws zs : List Int) (s n i : Nat) (h : Upto xs ws zs s n i s) (hs : 0 < s) : Upto xs ws zs s n (i + 1) 0 := fun k hk h' => by
  have hm := Nat.mod_lt k hs
  by_cases c : k / s < 2 * i
  · exact h k hk (.inl c)
  · exact h k hk (.inr ⟨by omega, hm⟩)
theorem upto_done (xs ws zs : List Int) (s h : Nat) (hs : 0 < s) (hz : zs.length = 2 * s * h) (hu : Upto xs ws zs s (2 * s * h) h 0) : zs = passl xs ws s (2 * s * h) := by
  apply List.ext_getElem (by rw [hz, passl_len])
  intro k h1 h2
  have hk : k < 2 * s * h := by omega
  have hd : k / s < 2 * h := by
    rw [Nat.div_lt_iff_lt_mul hs]
    have : 2 * h * s = 2 * s * h := by rw [Nat.mul_assoc, Nat.mul_comm h s, ← Nat.mul_assoc]
    omega
  have := hu k hk (.inl hd)
  rw [← passl_at xs ws s _ k hk] at this
  simpa [List.getD, h1, h2] using this
theorem upto_pair (xs ws zs : List Int) (s h i q : Nat) (hq : q < s) (hi : i < h) (hz : zs.length = 2 * s * h) (hu : Upto xs ws zs s (2 * s * h) i q) :
    Upto xs ws ((zs.set (q + s * 2 * i) (fm (xs.getD (q + s * i) 0 + xs.getD (q + s * (i + h)) 0))).set (q + s * (2 * i + 1)) (fm (fm (xs.getD (q + s * i) 0 - xs.getD (q + s * (i + h)) 0) * ws.getD (i * s) 0))) s (2 * s * h) i (q + 1) := by
  intro k hk hd
  obtain ⟨e1, e2⟩ := even_at q s i hq
  obtain ⟨o1, o2⟩ := odd_at q s i hq
  have key := Nat.div_add_mod k s
  by_cases c1 : k = q + s * (2 * i + 1)
  · rw [c1, getD_set_same (by rw [List.length_set, hz]; omega), pk_odd xs ws q s i h hq]
  · rw [getD_set_ne c1]
    by_cases c2 : k = q + s * 2 * i
    · rw [c2, getD_set_same (by rw [hz]; omega), pk_even xs ws q s i h hq]
    · rw [getD_set_ne c2]
      refine hu k hk ?_
      rcases hd with hd | ⟨hd, hm⟩
      · exact .inl hd
      · by_cases c3 : k / s < 2 * i
        · exact .inl c3
        · refine .inr ⟨hd, ?_⟩
          have hne : k % s ≠ q := by
            intro e
            have hcase : k / s = 2 * i ∨ k / s = 2 * i + 1 := by omega
            rcases hcase with hc | hc
            · apply c2; rw [← key, hc, e, Nat.mul_assoc]; omega
            · apply c1; rw [← key, hc, e]; omega
          omega
theorem prod_facts (s h i q n : Nat) (hn : 2 * s * h = n) (hi : i < h) (hq : q < s) : q + s * i < n ∧ q + s * (i + h) < n ∧ q + s * 2 * i < n ∧ q + s * (2 * i + 1) < n ∧ i * s < n ∧ s * i ≤ n ∧ s * (i + h) ≤ n ∧ s * 2 * i ≤ n ∧ s * (2 * i + 1) ≤ n := by
  have a1 : s * (i + 1) ≤ s * h := Nat.mul_le_mul_left s (by omega)
  have e1 : s * (i + 1) = s * i + s := by rw [Nat.mul_add, Nat.mul_one]
  have e2 : s * (i + h) = s * i + s * h := Nat.mul_add _ _ _
  have e3 : s * 2 * i = 2 * (s * i) := by rw [Nat.mul_comm s 2, Nat.mul_assoc]
  have e4 : s * (2 * i + 1) = 2 * (s * i) + s := by rw [Nat.mul_add, Nat.mul_one, ← Nat.mul_assoc, Nat.mul_comm s 2, Nat.mul_assoc]
  have e5 : i * s = s * i := Nat.mul_comm _ _
  have e6 : n = 2 * (s * h) := by rw [← hn, Nat.mul_assoc]
  omega
end Go.Proofs.Ytjiedfncamdojaa
