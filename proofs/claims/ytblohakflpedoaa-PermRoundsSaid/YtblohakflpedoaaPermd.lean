/- Package perm: the greatest common divisor's other half, in numbers. -/
import Derived.Test.YtblohakflpedoaaPermc
namespace Go.Proofs.Ytblohakflpedoaa
open Go.ChangeShapes Go.WideShapes Go.ChangeAt Go.RowKit
set_option linter.unusedVariables false
/-- The invariant of the search for an inverse: a x leaves r, a y leaves s, modulo m; the signs alternate. -/
def InvOk (a m r s : Nat) (x y : Int) : Prop :=
  (0 < r ∧ -(m : Int) ≤ x ∧ x ≤ m) ∧
  (∃ k : Int, (a : Int) * x = r + k * m) ∧ (∃ k : Int, (a : Int) * y = s + k * m) ∧ Nat.gcd r s = Nat.gcd a m ∧
  ∃ X Y : Nat, X * s + Y * r = m ∧ ((x = X ∧ y = -Y) ∨ (x = -X ∧ y = Y))
theorem invOk_start (a m : Nat) (h0 : 0 < m) : InvOk a m m (a % m) 0 1 := by
  refine ⟨⟨h0, by omega, by omega⟩, ⟨-1, by omega⟩, ⟨((a / m : Nat) : Int), ?_⟩, ?_, 0, 1, by omega, .inr ⟨rfl, rfl⟩⟩
  · have := Nat.div_add_mod a m
    rw [Int.mul_one, ← Int.natCast_mul, ← Int.natCast_add]
    congr 1
    rw [Nat.mul_comm]; omega
  · rw [Nat.gcd_comm m, ← Nat.gcd_rec, Nat.gcd_comm]
theorem invOk_y {a m r s : Nat} {x y : Int} (h : InvOk a m r s x y) : -(m : Int) ≤ y ∧ y ≤ m := by
  obtain ⟨⟨hr, _, _⟩, _, _, _, X, Y, hm, hsg⟩ := h
  have h2 : Y ≤ Y * r := Nat.le_mul_of_pos_right Y hr
  rcases hsg with ⟨rfl, rfl⟩ | ⟨rfl, rfl⟩ <;> omega
theorem invOk_step {a m r s : Nat} {x y : Int} (h : InvOk a m r s x y) (hs : 0 < s) : InvOk a m s (r % s) y (x - ((r / s : Nat) : Int) * y) := by
  have hy := invOk_y h
  obtain ⟨_, ⟨k1, e1⟩, ⟨k2, e2⟩, hg, X, Y, hm, hsg⟩ := h
  have hd := Nat.div_add_mod r s
  have hd' : (r : Int) = (s : Int) * ((r / s : Nat) : Int) + ((r % s : Nat) : Int) := by rw [← Int.natCast_mul, ← Int.natCast_add, hd]
  refine ⟨⟨hs, hy⟩, ⟨k2, e2⟩, ⟨k1 - ((r / s : Nat) : Int) * k2, ?_⟩, ?_, Y, X + r / s * Y, ?_, ?_⟩
  · rw [Int.mul_sub, e1, show (a : Int) * (((r / s : Nat) : Int) * y) = ((r / s : Nat) : Int) * ((a : Int) * y) by grind, e2]
    grind
  · rw [Nat.gcd_comm s, ← Nat.gcd_rec, Nat.gcd_comm]; exact hg
  · have : Y * (r % s) + Y * (s * (r / s)) = Y * r := by rw [← Nat.mul_add, Nat.add_comm (r % s), hd]
    rw [Nat.add_mul, ← hm, ← this]
    grind
  · rcases hsg with ⟨h1, h2⟩ | ⟨h1, h2⟩
    · refine .inr ⟨h2, ?_⟩
      rw [h1, h2]; push_cast; grind
    · refine .inl ⟨h2, ?_⟩
      rw [h1, h2]; push_cast; grind
theorem invOk_q {a m r s : Nat} {x y : Int} (h : InvOk a m r s x y) : -(m : Int) ≤ ((r / s : Nat) : Int) * y ∧ ((r / s : Nat) : Int) * y ≤ m := by
  obtain ⟨_, _, _, _, X, Y, hm, hsg⟩ := h
  have h1 : r / s * Y ≤ Y * r := by rw [Nat.mul_comm]; exact Nat.mul_le_mul_left Y (Nat.div_le_self r s)
  have h2 : (((r / s * Y : Nat)) : Int) = ((r / s : Nat) : Int) * (Y : Int) := Int.natCast_mul _ _
  rcases hsg with ⟨_, rfl⟩ | ⟨_, rfl⟩
  · rw [Int.mul_neg]; omega
  · omega
theorem tmod_twice {x : Int} {m : Nat} (hm : 0 < m) : (x.tmod m + m).tmod m = x % m ∧ -(m : Int) < x.tmod m ∧ x.tmod m < m := by
  have hm' : (0 : Int) < m := by omega
  have h1 := Int.tmod_lt_of_pos x hm'
  have h2 : -(m : Int) < x.tmod m := by
    have := Int.lt_tmod_of_pos x hm'
    omega
  refine ⟨?_, h2, h1⟩
  rw [Int.tmod_eq_emod_of_nonneg (by omega), Int.add_emod_right]
  exact Int.emod_eq_emod_iff_emod_sub_eq_zero.2 (by
    have := Int.mul_tdiv_add_tmod x m
    rw [show x.tmod m - x = -(m * x.tdiv m) by omega]
    simp)
/-- At the end. -/
theorem invOk_end {a m r : Nat} {x y : Int} (h : InvOk a m r 0 x y) (hg : Nat.gcd a m = 1) (hm : 0 < m) : (-(m : Int) ≤ x ∧ x ≤ m) ∧ ∃ v : Nat, x % m = v ∧ v < m ∧ a * v % m = 1 % m := by
  obtain ⟨⟨_, b1, b2⟩, ⟨k1, e1⟩, _, hgr, _⟩ := h
  rw [Nat.gcd_zero_right, hg] at hgr
  subst hgr
  have h0 := Int.emod_nonneg x (show (m : Int) ≠ 0 by omega)
  have h1 := Int.emod_lt_of_pos x (show (0 : Int) < m by omega)
  refine ⟨⟨b1, b2⟩, (x % m).toNat, by omega, by omega, ?_⟩
  have e : (((a * (x % m).toNat % m : Nat)) : Int) = ((1 % m : Nat) : Int) := by
    push_cast
    rw [Int.toNat_of_nonneg h0, Int.mul_emod, Int.emod_emod_of_dvd _ (Int.dvd_refl _), ← Int.mul_emod, e1, Int.add_mul_emod_self_right]
    rfl
  exact_mod_cast e
end Go.Proofs.Ytblohakflpedoaa
