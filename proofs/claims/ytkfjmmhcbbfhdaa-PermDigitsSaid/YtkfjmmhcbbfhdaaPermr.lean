/- Numbers read backwards, bit by bit: plain numbers, no Go text. -/
import Derived.Test.YtkfjmmhcbbfhdaaPermm
namespace Go.Proofs.Ytkfjmmhcbbfhdaa
open Go.ChangeShapes Go.WideShapes Go.ChangeAt Go.RowKit
set_option linter.unusedVariables false
/-- The t bits of k, backwards. -/
def rv : Nat → Nat → Nat
  | 0, _ => 0
  | t + 1, k => if k < 2 ^ t then 2 * rv t k else 2 * rv t (k - 2 ^ t) + 1
theorem rv_low {t k : Nat} (h : k < 2 ^ t) : rv (t + 1) k = 2 * rv t k := by rw [rv, if_pos h]
theorem rv_high {t k : Nat} : rv (t + 1) (2 ^ t + k) = 2 * rv t k + 1 := by rw [rv, if_neg (by omega), Nat.add_sub_cancel_left]
theorem rv_lt : ∀ (t k : Nat), k < 2 ^ t → rv t k < 2 ^ t
  | 0, _, _ => by simp [rv]
  | t + 1, k, h => by
    rw [Nat.pow_succ] at h ⊢
    by_cases e : k < 2 ^ t
    · have := rv_lt t k e; rw [rv_low e]; omega
    · obtain ⟨d, rfl⟩ : ∃ d, k = 2 ^ t + d := ⟨k - 2 ^ t, by omega⟩
      have := rv_lt t d (by omega); rw [rv_high]; omega
theorem rv_zero : ∀ t, rv t 0 = 0
  | 0 => rfl
  | t + 1 => by rw [rv_low (Nat.pow_pos (by omega)), rv_zero t]
theorem rv_step : ∀ (t j i : Nat), j < t → i < 2 ^ j → rv t (2 ^ j + i) = rv t i + 2 ^ (t - 1 - j)
  | t + 1, j, i, hj, hi => by
    have hm : 2 ^ j ≤ 2 ^ t := Nat.pow_le_pow_right (by omega) (by omega)
    by_cases e : j = t
    · subst e
      rw [rv_high, rv_low hi, show j + 1 - 1 - j = 0 by omega]
    · have h2 : 2 ^ (j + 1) ≤ 2 ^ t := Nat.pow_le_pow_right (by omega) (by omega)
      rw [Nat.pow_succ] at h2
      rw [rv_low (show 2 ^ j + i < 2 ^ t by omega), rv_low (show i < 2 ^ t by omega), rv_step t j i (by omega) hi, show t + 1 - 1 - j = t - 1 - j + 1 by omega, Nat.pow_succ]
      omega
/-- .. the other way round: the lowest bit comes to stand highest. -/
theorem rv_dual : ∀ (t y b : Nat), y < 2 ^ t → b < 2 → rv (t + 1) (2 * y + b) = rv t y + b * 2 ^ t
  | 0, y, b, hy, hb => by
    have : y = 0 := by simpa using hy
    subst this
    rcases (by omega : b = 0 ∨ b = 1) with rfl | rfl <;> rfl
  | t + 1, y, b, hy, hb => by
    rw [Nat.pow_succ] at hy
    have hp : 2 ^ (t + 1) = 2 ^ t * 2 := Nat.pow_succ ..
    by_cases e : y < 2 ^ t
    · rw [rv_low (show 2 * y + b < 2 ^ (t + 1) by omega), rv_dual t y b e hb, rv_low e, hp]
      rcases (by omega : b = 0 ∨ b = 1) with rfl | rfl <;> omega
    · obtain ⟨d, rfl⟩ : ∃ d, y = 2 ^ t + d := ⟨y - 2 ^ t, by omega⟩
      rw [show 2 * (2 ^ t + d) + b = 2 ^ (t + 1) + (2 * d + b) by omega, rv_high, rv_dual t d b (by omega) hb, rv_high, hp]
      rcases (by omega : b = 0 ∨ b = 1) with rfl | rfl <;> omega
theorem rv_back : ∀ (t k : Nat), k < 2 ^ t → rv t (rv t k) = k
  | 0, k, h => by have : k = 0 := by simpa using h
                  rw [this]; rfl
  | t + 1, k, h => by
    rw [Nat.pow_succ] at h
    by_cases e : k < 2 ^ t
    · have : rv (t + 1) (2 * rv t k) = rv t (rv t k) + 0 * 2 ^ t := rv_dual t (rv t k) 0 (rv_lt t k e) (by omega)
      rw [rv_low e]
      rw [this, rv_back t k e]; omega
    · obtain ⟨d, rfl⟩ : ∃ d, k = 2 ^ t + d := ⟨k - 2 ^ t, by omega⟩
      rw [rv_high, rv_dual t (rv t d) 1 (rv_lt t d (by omega)) (by omega), rv_back t d (by omega)]; omega
/-- The order of 2^t numbers. -/
def bitl (t : Nat) : List Int := tab (2 ^ t) fun k => ((rv t k : Nat) : Int)
theorem bitl_len (t : Nat) : (bitl t).length = 2 ^ t := tab_len _ _
theorem bitl_at (t k : Nat) (h : k < 2 ^ t) : (bitl t).getD k 0 = ((rv t k : Nat) : Int) := tab_at (2 ^ t) (fun k => ((rv t k : Nat) : Int)) k h
theorem bitl_right (t : Nat) : rgt (bitl t) (2 ^ t) (2 ^ t) = true := by
  apply rgt_of
  · intro j hj
    rw [bitl_at t j hj]
    have := rv_lt t j hj
    omega
  · intro i j hij hj e
    rw [bitl_at t j hj, bitl_at t i (by omega)] at e
    have e1 : rv t i = rv t j := by omega
    have := rv_back t i (by omega)
    rw [e1, rv_back t j hj] at this
    omega
theorem bitl_wf (t : Nat) (h : 2 ^ t ≤ 16777216) : ∀ z ∈ bitl t, (Lit.int .i64 z).wf = true := by
  intro z hz
  unfold bitl tab at hz
  obtain ⟨k, hk, rfl⟩ := List.mem_map.1 hz
  have := rv_lt t k (by simpa using hk)
  exact WalkArith.wf_i64 ⟨by omega, by omega⟩
end Go.Proofs.Ytkfjmmhcbbfhdaa
