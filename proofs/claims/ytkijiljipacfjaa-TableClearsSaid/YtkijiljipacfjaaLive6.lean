/- The page's example of layer 6; the transform of a unit. -/
import Derived.Test.YtkijiljipacfjaaDft
import Derived.Test.YtkijiljipacfjaaLive5
import Derived.Test.YtkijiljipacfjaaUnit
import Derived.Test.YtkijiljipacfjaaPowers
namespace Go.Proofs.Ytkijiljipacfjaa
open Go.ChangeShapes Go.WideShapes Go.ChangeAt Go.RowKit
set_option linter.unusedVariables false
theorem rowat2 (w : World) (x y : Int) : RowAt (w.alloc (.cells #[.int .u64 x, .int .u64 y] 35)) w.heap.size 35 [x, y] := by
  unfold RowAt; rw [heap_alloc_new]; rfl
theorem hor12 : horl (rt 2) [1, 2] 2 = [3, 18446744069414584320] := by
  rw [rt_two]; decide +kernel
theorem hor_unit (st : Int) (n k : Nat) (hk : k < n) : ∀ d j, j + d = n → hor st ((unitl n k).drop j) = if j ≤ k then fm (st ^ (k - j)) else 0
  | 0, j, h => by
    have : (unitl n k).drop j = [] := by rw [List.drop_eq_nil_iff, unitl_len]; omega
    rw [this, if_neg (by omega)]
    rfl
  | d + 1, j, h => by
    have e0 : fm 0 = 0 := rfl
    rw [← hor_step st (unitl n k) j (by rw [unitl_len]; omega), hor_unit st n k hk d (j + 1) (by omega), unitl_at n k j (by omega)]
    by_cases h1 : j = k
    · subst h1
      rw [if_neg (by omega), if_pos rfl, if_pos (Nat.le_refl _), Int.zero_mul, e0, Nat.sub_self, Int.pow_zero]
      rfl
    · by_cases h2 : j < k
      · rw [if_pos (by omega), if_neg h1, if_pos (by omega), Int.add_zero, fm_fm, fm_mul_l, ← Int.pow_succ]
        congr 2
        omega
      · rw [if_neg (by omega), if_neg h1, if_neg (by omega), Int.zero_mul, e0]
        rfl
theorem horl_unit (r : Int) (n k : Nat) (hk : k < n) : horl r (unitl n k) n = powl (fm (r ^ k)) n := by
  unfold horl powl
  apply List.map_congr_left
  intro i _
  have := hor_unit (fm (r ^ i)) n k hk n 0 (by omega)
  rw [List.drop_zero, if_pos (Nat.zero_le _), Nat.sub_zero] at this
  rw [this, Fld.fm_pow1, Fld.fm_pow1, ← Int.pow_mul, ← Int.pow_mul, Nat.mul_comm]

end Go.Proofs.Ytkijiljipacfjaa
