/- The contracts of package gold (and of what it calls in wide and math/bits): each call returns the field's number that the exact one leaves. -/
import Derived.Test.YthnpbfboedgmpaaBase
import Derived.Shelf.Spec.BitsCarry
namespace Go.Proofs.Ythnpbfboedgmpaa
open Go.ChangeShapes Go.WideShapes Go.ChangeAt Go.RowKit
set_option linter.unusedVariables false

theorem ret_uu {a b c d : Int} (h : a = b) (h' : c = d) : Ending.returned (.tuple #[.int .u64 a, .int .u64 c]) = .returned (.tuple #[.int .u64 b, .int .u64 d]) := by rw [h, h']
theorem and_low_mod (z : Int) : bits .and .u64 (z % 18446744073709551616) 4294967295 = z % 18446744073709551616 % 4294967296 := and_low32 _ (by omega) (by omega)

/-- What is folded: 2^64 leaves 2^32 - 1, 2^96 leaves -1. -/
theorem wide_fold (h l : Int) : fm (h * 18446744073709551616 + l) = fm (l - h / 4294967296 + h % 4294967296 * 4294967295) := by unfold fm; omega

theorem mul_parts (x y : Int) (hx : 0 ≤ x) (hx1 : x ≤ 18446744073709551615) (hy : 0 ≤ y) (hy1 : y ≤ 18446744073709551615) : 0 ≤ x * y / 18446744073709551616 ∧ x * y / 18446744073709551616 ≤ 18446744073709551615 := by
  have h0 := Int.mul_nonneg hx hy
  have h1 := Int.mul_le_mul hx1 hy1 hy (by omega : (0 : Int) ≤ 18446744073709551615)
  generalize x * y = z at *
  omega

theorem half_fm (a h : Int) (h0 : 0 ≤ h) (h1 : h ≤ 18446744069414584320) (k : Int) (e : h + h = fm a + k * 18446744069414584321) : fm (h + h) = fm a := by unfold fm at *; omega

theorem and_one (k : Int) (h0 : 0 ≤ k) (h1 : k ≤ 18446744073709551615) : bits .and .u64 k 1 = k % 2 := by go_bits2

/-- Half of a number: h with h + h = a. -/
def hlf (a : Int) : Int := if a % 2 = 0 then a / 2 else a / 2 + 9223372034707292161
theorem hlf_ok (a : Int) (h0 : 0 ≤ a) (h1 : a ≤ 18446744069414584320) : 0 ≤ hlf a ∧ hlf a ≤ 18446744069414584320 ∧ fm (hlf a + hlf a) = a := by
  unfold hlf fm; split <;> omega

end Go.Proofs.Ythnpbfboedgmpaa
