/- vec.Unit. -/
import Derived.Test.YtkijiljipacfjaaVecc
namespace Go.Proofs.Ytkijiljipacfjaa
open Go.ChangeShapes Go.WideShapes Go.ChangeAt Go.RowKit
set_option linter.unusedVariables false

/-- n numbers, all 0 but that at k. -/
def unitl (n k : Nat) : List Int := (List.range n).map fun i => if i = k then 1 else 0
theorem unitl_len (n k : Nat) : (unitl n k).length = n := by unfold unitl; simp
theorem unitl_at (n k i : Nat) (h : i < n) : (unitl n k).getD i 0 = if i = k then 1 else 0 := by unfold unitl; simp [List.getD, h]
theorem unitl_wf (n k : Nat) : ∀ z ∈ unitl n k, (Lit.int .u64 z).wf = true := by
  intro z hz
  unfold unitl at hz
  obtain ⟨x, _, rfl⟩ := List.mem_map.1 hz
  by_cases h : x = k
  · rw [if_pos h]; decide
  · rw [if_neg h]; decide
theorem unit_set (n k : Nat) (hk : k < n) : (Array.replicate n (Value.int .u64 0)).setIfInBounds k (.int .u64 1) = ((unitl n k).map (Value.int .u64)).toArray := by
  apply Array.ext
  · simp [unitl_len]
  · intro i h1 h2
    have hi : i < n := by simpa using h1
    rw [Array.getElem_setIfInBounds (by simpa using hi)]
    unfold unitl
    by_cases h : k = i
    · simp [h]
    · have h' : ¬ i = k := fun e => h e.symm
      simp [h, h']
theorem fsum_unit (xs : List Int) (n k : Nat) (hn : xs.length = n) (hk : k < n) : ∀ j, j ≤ n → fsum (zmul xs (unitl n k)) j = if k < j then fm (xs.getD k 0) else 0
  | 0, _ => by rw [fsum_zero]; simp
  | j + 1, hj => by
    have hl : (zmul xs (unitl n k)).length = n := (zmul_len xs _ (by rw [unitl_len, hn])).trans hn
    rw [← fsum_succ _ j (by rw [hl]; omega), fsum_unit xs n k hn hk j (by omega), zmul_at xs _ j (by rw [hn]; omega) (by rw [unitl_len, hn]), unitl_at n k j (by omega)]
    by_cases h : j = k
    · subst h
      have e1 : ¬ j < j := by omega
      have e2 : j < j + 1 := by omega
      rw [if_neg e1, if_pos rfl, if_pos e2, Int.mul_one, Int.zero_add, fm_fm]
    · rw [if_neg h, Int.mul_zero]
      have e0 : fm 0 = 0 := rfl
      rw [e0, Int.add_zero]
      by_cases h2 : k < j
      · have e2 : k < j + 1 := by omega
        rw [if_pos h2, if_pos e2, fm_fm]
      · have e2 : ¬ k < j + 1 := by omega
        rw [if_neg h2, if_neg e2, e0]

theorem dotp_unit (xs : List Int) (n k : Nat) (hn : xs.length = n) (hk : k < n) : dotp xs (unitl n k) = fm (xs.getD k 0) := by
  have hl : (zmul xs (unitl n k)).length = n := (zmul_len xs _ (by rw [unitl_len, hn])).trans hn
  unfold dotp
  rw [hl, fsum_unit xs n k hn hk n (Nat.le_refl _), if_pos hk]

end Go.Proofs.Ytkijiljipacfjaa
