/- vec.Rev, vec.Turn. -/
import Derived.Test.YthnpbfboedgmpaaVec
namespace Go.Proofs.Ythnpbfboedgmpaa
open Go.ChangeShapes Go.WideShapes Go.ChangeAt Go.RowKit
set_option linter.unusedVariables false

/-- The first number, then the others from the last one on. -/
def revl (xs : List Int) : List Int := (List.range xs.length).map fun j => fm (xs.getD ((xs.length - j) % xs.length) 0)
theorem revl_len (xs : List Int) : (revl xs).length = xs.length := by unfold revl; simp
theorem revl_at (xs : List Int) (j : Nat) (h : j < xs.length) : (revl xs).getD j 0 = fm (xs.getD ((xs.length - j) % xs.length) 0) := by
  unfold revl; simp [List.getD, h]
theorem back_back (n k : Nat) (h : k < n) : (n - (n - k) % n) % n = k := by
  by_cases h0 : k = 0
  · subst h0; simp
  · rw [Nat.mod_eq_of_lt (a := n - k) (by omega), show n - (n - k) = k from by omega, Nat.mod_eq_of_lt h]
theorem back_lt (n k : Nat) (h : k < n) : (n - k) % n < n := Nat.mod_lt _ (by omega)

theorem done_step (n k m : Nat) (hm : m < n) (hb : (n - m) % n = k) : ∀ j, j < n → decide ((n - j) % n < k + 1) = (decide ((n - j) % n < k) || j == m) := by
  intro j hj
  have e1 := back_back n j hj
  have e2 := back_back n m hm
  rw [hb] at e2
  by_cases h : (n - j) % n = k
  · have : j = m := by rw [h] at e1; omega
    subst this
    simp [h]
  · have hne : j ≠ m := fun e => h (by rw [e]; exact hb)
    have : (j == m) = false := by simpa using hne
    rw [this, Bool.or_false]
    congr 1
    simp only [eq_iff_iff]
    omega

/-- From place k on, around. -/
def turnl (xs : List Int) (k : Nat) : List Int := (List.range xs.length).map fun i => fm (xs.getD ((i + k) % xs.length) 0)
theorem turnl_len (xs : List Int) (k : Nat) : (turnl xs k).length = xs.length := by unfold turnl; simp
theorem turnl_at (xs : List Int) (k i : Nat) (h : i < xs.length) : (turnl xs k).getD i 0 = fm (xs.getD ((i + k) % xs.length) 0) := by
  unfold turnl; simp [List.getD, h]
/-- The place at which it begins. -/
def tpos (k : Int) (n : Nat) : Nat := (k % (n : Int)).toNat
theorem tpos_lt (k : Int) (n : Nat) (h : 0 < n) : tpos k n < n := by
  unfold tpos
  have h1 := Int.emod_lt_of_pos k (show (0 : Int) < (n : Int) by omega)
  have h0 := Int.emod_nonneg k (show (n : Int) ≠ 0 by omega)
  omega
theorem tpos_eq (k : Int) (n : Nat) (h : 0 < n) (hn : n ≤ 35184372088832) : wrap64 (k.tmod n + n) = k.tmod n + n ∧ (k.tmod (n : Int) + (n : Int)).tmod (n : Int) = (tpos k n : Int) := by
  have h1 := Int.emod_lt_of_pos k (show (0 : Int) < (n : Int) by omega)
  have h0 := Int.emod_nonneg k (show (n : Int) ≠ 0 by omega)
  have ht : k.tmod n = k % n ∨ k.tmod n = k % n - n := by
    rw [Int.tmod_eq_emod]
    split
    · left; omega
    · right; omega
  constructor
  · exact IntWalk.wrap64_in _ (by rcases ht with h | h <;> rw [h] <;> omega)
  · have hp : 0 ≤ k.tmod n + n := by rcases ht with h | h <;> rw [h] <;> omega
    rw [Int.tmod_eq_emod_of_nonneg hp, Int.add_emod_right]
    have e : k.tmod n % n = k % n := by
      rcases ht with h | h
      · rw [h, Int.emod_emod_of_dvd _ (Int.dvd_refl _)]
      · rw [h, Int.sub_emod_right, Int.emod_emod_of_dvd _ (Int.dvd_refl _)]
    rw [e]
    unfold tpos
    omega

end Go.Proofs.Ythnpbfboedgmpaa
