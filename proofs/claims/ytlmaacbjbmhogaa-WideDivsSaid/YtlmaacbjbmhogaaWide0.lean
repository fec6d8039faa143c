/- Numbers of 128 bits in digits to the base 2^16. Plain numbers. -/
import Derived.Test.YtlmaacbjbmhogaaRowi
namespace Go.Proofs.Ytlmaacbjbmhogaa
open Go.ChangeShapes Go.WideShapes Go.ChangeAt Go.RowKit
set_option linter.unusedVariables false

/-- The digit j of n. -/
def dg (n j : Nat) : Int := ((n / 65536 ^ j % 65536 : Nat) : Int)
theorem dg_lo (n j : Nat) : 0 ≤ dg n j := by unfold dg; omega
theorem dg_hi (n j : Nat) : dg n j ≤ 65535 := by unfold dg; omega
/-- Its eight digits. -/
def dl (n : Nat) : List Int := [dg n 0, dg n 1, dg n 2, dg n 3, dg n 4, dg n 5, dg n 6, dg n 7]
theorem dl_len (n : Nat) : (dl n).length = 8 := rfl
theorem dl_at (n k : Nat) (h : k < 8) : (dl n).getD k 0 = dg n k := by
  match k, h with
  | 0, _ => rfl
  | 1, _ => rfl
  | 2, _ => rfl
  | 3, _ => rfl
  | 4, _ => rfl
  | 5, _ => rfl
  | 6, _ => rfl
  | 7, _ => rfl
def D (n : Nat) : Array Value := ((dl n).map (Value.int .i64)).toArray

/-- What is carried into digit j of a sum. -/
def cy (a b j : Nat) : Nat := (a % 65536 ^ j + b % 65536 ^ j) / 65536 ^ j
theorem cy_zero (a b : Nat) : cy a b 0 = 0 := by unfold cy; simp; omega
theorem pw_succ (j : Nat) : 65536 ^ (j + 1) = 65536 ^ j * 65536 := by rw [Nat.pow_succ]
theorem mod_step (a j : Nat) : a % 65536 ^ (j + 1) = a % 65536 ^ j + 65536 ^ j * (a / 65536 ^ j % 65536) := by
  rw [pw_succ, Nat.mod_mul]
theorem cy_step (a b j : Nat) : cy a b (j + 1) = (a / 65536 ^ j % 65536 + b / 65536 ^ j % 65536 + cy a b j) / 65536 := by
  unfold cy
  rw [mod_step, mod_step, pw_succ, ← Nat.div_div_eq_div_mul]
  congr 1
  have hp : 0 < 65536 ^ j := Nat.pow_pos (by omega)
  have e : a % 65536 ^ j + 65536 ^ j * (a / 65536 ^ j % 65536) + (b % 65536 ^ j + 65536 ^ j * (b / 65536 ^ j % 65536)) = (a % 65536 ^ j + b % 65536 ^ j) + 65536 ^ j * (a / 65536 ^ j % 65536 + b / 65536 ^ j % 65536) := by
    rw [Nat.mul_add]; omega
  rw [e, Nat.add_mul_div_left _ _ hp]
  omega
theorem cy_le (a b j : Nat) : cy a b j ≤ 1 := by
  unfold cy
  have hp : 0 < 65536 ^ j := Nat.pow_pos (by omega)
  have h1 := Nat.mod_lt a hp
  have h2 := Nat.mod_lt b hp
  have : (a % 65536 ^ j + b % 65536 ^ j) / 65536 ^ j < 2 := Nat.div_lt_of_lt_mul (by omega)
  omega
theorem dg_add (a b j : Nat) : (a + b) / 65536 ^ j % 65536 = (a / 65536 ^ j % 65536 + b / 65536 ^ j % 65536 + cy a b j) % 65536 := by
  have hp : 0 < 65536 ^ j := Nat.pow_pos (by omega)
  have e : (a + b) / 65536 ^ j = a / 65536 ^ j + b / 65536 ^ j + cy a b j := by
    unfold cy
    have h1 := Nat.div_add_mod a (65536 ^ j)
    have h2 := Nat.div_add_mod b (65536 ^ j)
    have : a + b = (a % 65536 ^ j + b % 65536 ^ j) + 65536 ^ j * (a / 65536 ^ j + b / 65536 ^ j) := by
      rw [Nat.mul_add]; omega
    rw [this, Nat.add_mul_div_left _ _ hp]
    omega
  rw [e]
  omega
/-- Digits of a number that is taken modulo 2^128. -/
theorem dg_mod (n j : Nat) (h : j < 8) : dg (n % 65536 ^ 8) j = dg n j := by
  unfold dg
  have hp : 0 < 65536 ^ j := Nat.pow_pos (by omega)
  have e : 65536 ^ 8 = 65536 ^ j * (65536 ^ (7 - j) * 65536) := by
    rw [← Nat.pow_succ, ← Nat.pow_add]; congr 1; omega
  rw [e, Nat.mod_mul_right_div_self, Nat.mod_mul_left_mod]
theorem dl_mod (n : Nat) : dl (n % 65536 ^ 8) = dl n := by
  unfold dl
  rw [dg_mod n 0 (by omega), dg_mod n 1 (by omega), dg_mod n 2 (by omega), dg_mod n 3 (by omega), dg_mod n 4 (by omega), dg_mod n 5 (by omega), dg_mod n 6 (by omega), dg_mod n 7 (by omega)]
/-- The digits tell the number. -/
theorem dl_inj {a b : Nat} (ha : a < 65536 ^ 8) (hb : b < 65536 ^ 8) (h : dl a = dl b) : a = b := by
  unfold dl dg at h
  simp only [List.cons.injEq, and_true, Int.natCast_inj] at h
  obtain ⟨h0, h1, h2, h3, h4, h5, h6, h7⟩ := h
  simp only [Nat.reducePow, Nat.pow_zero, Nat.div_one] at *
  omega

end Go.Proofs.Ytlmaacbjbmhogaa
