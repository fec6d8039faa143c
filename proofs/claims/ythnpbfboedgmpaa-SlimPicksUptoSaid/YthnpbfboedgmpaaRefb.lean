/- The document's own answers of layer 2 (dulcimerref02): the same numbers of the field, reckoned bit by bit. -/
import Derived.Test.YthnpbfboedgmpaaGold
import Derived.Test.YthnpbfboedgmpaaPrime
namespace Go.Proofs.Ythnpbfboedgmpaa
open Go.ChangeShapes Go.WideShapes Go.ChangeAt Go.RowKit
set_option linter.unusedVariables false
set_option linter.unusedVariables false

/-- What the doubling has reached when the digits from j on are in. -/
def dbl (a : Nat) (b : Int) (j : Nat) : Int := fm (((a / 2 ^ j : Nat) : Int) * b)
theorem dbl_lo (a : Nat) (b : Int) (j : Nat) : 0 ≤ dbl a b j := fm_lo _
theorem dbl_hi (a : Nat) (b : Int) (j : Nat) : dbl a b j ≤ 18446744069414584320 := fm_hi _
theorem dbl_zero (a : Nat) (b : Int) : dbl a b 0 = fm (a * b) := by unfold dbl; simp
theorem dbl_top (a : Nat) (b : Int) (j : Nat) (h : a < 2 ^ j) : dbl a b j = 0 := by
  unfold dbl; rw [Nat.div_eq_of_lt h]; simp; rfl
theorem dbl_step (a : Nat) (k : Nat) (b : Int) : dbl a b k = fm (fm (dbl a b (k + 1) + dbl a b (k + 1)) + ((a / 2 ^ k % 2 : Nat) : Int) * b) := by
  unfold dbl
  have e : a / 2 ^ k = 2 * (a / 2 ^ (k + 1)) + a / 2 ^ k % 2 := by
    rw [Nat.pow_succ, ← Nat.div_div_eq_div_mul]; omega
  generalize a / 2 ^ (k + 1) = q at *
  generalize a / 2 ^ k % 2 = r at *
  rw [e]
  have e2 : ((2 * q + r : Nat) : Int) * b = ((q : Int) * b + (q : Int) * b) + (r : Int) * b := by
    push_cast
    grind
  rw [e2, fm_add_l]
  generalize (q : Int) * b = x
  generalize (r : Int) * b = y
  unfold fm
  omega
theorem dbl_one (a : Nat) (k : Nat) (b : Int) (h : a / 2 ^ k % 2 = 1) : fm (fm (dbl a b (k + 1) + dbl a b (k + 1)) + b) = dbl a b k := by
  rw [dbl_step a k b, h]; simp
theorem dbl_nil (a : Nat) (k : Nat) (b : Int) (h : a / 2 ^ k % 2 = 0) : fm (dbl a b (k + 1) + dbl a b (k + 1)) = dbl a b k := by
  rw [dbl_step a k b, h]; simp [fm_fm]

/-- A power whose digits from j on are in. -/
def pwr (a : Int) (n j : Nat) : Int := fm (a ^ (n / 2 ^ j))
theorem pwr_lo (a : Int) (n j : Nat) : 0 ≤ pwr a n j := fm_lo _
theorem pwr_hi (a : Int) (n j : Nat) : pwr a n j ≤ 18446744069414584320 := fm_hi _
theorem pwr_zero (a : Int) (n : Nat) : pwr a n 0 = fm (a ^ n) := by unfold pwr; simp
theorem pwr_top (a : Int) (n j : Nat) (h : n < 2 ^ j) : pwr a n j = 1 := by
  unfold pwr; rw [Nat.div_eq_of_lt h]; simp; rfl
theorem pow_two_mul (a : Int) (k : Nat) : a ^ (2 * k) = a ^ k * a ^ k := by rw [← Int.pow_add]; congr 1; omega
theorem pwr_one (a : Int) (n k : Nat) (h : n / 2 ^ k % 2 = 1) : fm (fm (pwr a n (k + 1) * pwr a n (k + 1)) * a) = pwr a n k := by
  unfold pwr
  have e : n / 2 ^ k = 2 * (n / 2 ^ (k + 1)) + 1 := by
    rw [Nat.pow_succ, ← Nat.div_div_eq_div_mul]; omega
  rw [e, fm_mul_fm, fm_mul_l, Int.pow_succ, pow_two_mul]
theorem pwr_nil (a : Int) (n k : Nat) (h : n / 2 ^ k % 2 = 0) : fm (pwr a n (k + 1) * pwr a n (k + 1)) = pwr a n k := by
  unfold pwr
  have e : n / 2 ^ k = 2 * (n / 2 ^ (k + 1)) := by
    rw [Nat.pow_succ, ← Nat.div_div_eq_div_mul]; omega
  rw [e, fm_mul_fm, pow_two_mul]

end Go.Proofs.Ythnpbfboedgmpaa
