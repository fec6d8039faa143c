/- The page's example of layer 6; the transform of a unit. -/
import Derived.Test.YtjiedfncamdojaaDft
import Derived.Test.YtjiedfncamdojaaLive5
import Derived.Test.YtjiedfncamdojaaUnit
import Derived.Test.YtjiedfncamdojaaPowers
namespace Go.Proofs.Ytjiedfncamdojaa
open Go.ChangeShapes Go.WideShapes Go.ChangeAt Go.RowKit
set_option linter.unusedVariables false
theorem rowat2 (w : World) (x y : Int) : RowAt (w.alloc (.cells #[.int .u64 x, .int .u64 y] 24)) w.heap.size 24 [x, y] := by
  unfold RowAt; rw [heap_alloc_new]; rfl
theorem hor12 : horl (rt 2) [1, 2] 2 = [3, 18446744069414584320] := by
  rw [rt_two]; decide +kernel
theorem hor_unit (st : Int) (n k : Nat) (hk : k < n) : ∀ d j, j + d = n → hor st ((unitl n k).drop j) = if j ≤ k then fm (st ^ (k - j)) else 0
  | 0, j, h => by
    have : (unitl n k).drop j = [] := by rw [List.drop_eq_nil_iff, unitl_len]; omega
    rw [this, if_neg (by omega)]
    rfl
  | d + 1, j, h => by
    have e0 : fm 0 = 0 := rfl
    rw [← hor_step st (unitl n k) j (by rw [unitl_len]; omega), hor_unit st n k hk d (j + 1) (by omega), unitl_at n k j (by omega)]
    by_cases h1 : j = k
    · subst h1
      rw [if_neg (by omega), if_pos rfl, if_pos (Nat.le_refl _), Int.zero_mul, e0, Nat.sub_self, Int.pow_zero]
      rfl
    · by_cases h2 : j < k
      · rw [if_pos (by omega), if_neg h1, if_pos (by omega), Int.add_zero, fm_fm, fm_mul_l, ← Int.pow_succ]
        congr 2
        omega
      · rw [if_neg (by omega), if_neg h1, if_neg (by omega), Int.zero_mul, e0]
        rfl
theorem horl_unit (r : Int) (n k : Nat) (hk : k < n) : horl r (unitl n k) n = powl (fm (r ^ k)) n := by
  unfold horl powl
  apply List.map_congr_left
  intro i _
  have := hor_unit (fm (r ^ i)) n k hk n 0 (by omega)
  rw [List.drop_zero, if_pos (Nat.zero_le _), Nat.sub_zero] at this
  rw [this, Fld.fm_pow1, Fld.fm_pow1, ← Int.pow_mul, ← Int.pow_mul, Nat.mul_comm]

theorem live6 (w : World) : Calls Try.prog 15 #[] w fun e w' => e = .returned (.bool true) ∧ Below w.heap.size w w' := by
  have r1 := Lib.hid (Row.of_at (rowat2 w 1 2) (by decide) (n := 2) rfl (by omega))
  have b1 : Below w.heap.size w (w.alloc (.cells #[.int .u64 1, .int .u64 2] 24)) := (Below.refl _ _).alloc (Nat.le_refl _) _
  go_enter Try.func15, Try.ntmps15
  go_wp2_with fail
  generalize w.alloc (.cells #[.int .u64 1, .int .u64 2] 24) = W1 at *
  refine (dft_dft _ 2 2 [1, 2] W1 r1.out (by omega) (by decide)).mono ?_
  rintro e w2 ⟨p, c, rfl, hq, b2⟩
  rw [show horl (rt ((2 : Nat) : Int)) [1, 2] 2 = [3, 18446744069414584320] from hor12] at hq
  have b3 : Below w.heap.size w w2 := b1.trans (b2.mono b1.size)
  have HQ := Lib.hid (Row.alloc hq (.cells #[.int .u64 3, .int .u64 18446744069414584320] 24))
  have R3 := Lib.hid (Row.of_at (rowat2 w2 3 18446744069414584320) (by decide) (n := 2) rfl (by omega))
  have b4 : Below w.heap.size w (w2.alloc (.cells #[.int .u64 3, .int .u64 18446744069414584320] 24)) := b3.alloc b3.size _
  clear hq r1
  go_wp2_with fail
  generalize w2.alloc (.cells #[.int .u64 3, .int .u64 18446744069414584320] 24) = W3 at *
  refine (c_same HQ.out R3.out).mono ?_
  rintro e w4 ⟨rfl, b5⟩
  go_wp2_with fail
  go_ret
  exact ⟨rfl, b4.trans (b5.mono b4.size)⟩
end Go.Proofs.Ytjiedfncamdojaa
