/- dulcimerref01.Mul; package wide: Add, Sub, Cmp, Of. -/
import Derived.Test.YtlmaacbjbmhogaaWideq
import Derived.Test.YtlmaacbjbmhogaaGold
namespace Go.Proofs.Ytlmaacbjbmhogaa
open Go.ChangeShapes Go.WideShapes Go.ChangeAt Go.RowKit
set_option linter.unusedVariables false

/-- What two halves make. -/
def nm (h l : Int) : Nat := (h * 18446744073709551616 + l).toNat
theorem p8 : 65536 ^ 8 = 340282366920938463463374607431768211456 := by decide
theorem nm_lt {h l : Int} (h0 : 0 ≤ h) (h1 : h ≤ 18446744073709551615) (l0 : 0 ≤ l) (l1 : l ≤ 18446744073709551615) : nm h l < 65536 ^ 8 := by rw [p8]; unfold nm; omega

theorem wide_add (h l h' l' : Int) (w : World) (h0 : 0 ≤ h) (h1 : h ≤ 18446744073709551615) (l0 : 0 ≤ l) (l1 : l ≤ 18446744073709551615) (k0 : 0 ≤ h') (k1 : h' ≤ 18446744073709551615) (m0 : 0 ≤ l') (m1 : l' ≤ 18446744073709551615) :
    Calls Try.prog 7 #[.agg #[.int .u64 h, .int .u64 l], .agg #[.int .u64 h', .int .u64 l']] w fun e w' => e = .returned (.agg #[.int .u64 ((h + h' + (l + l') / 18446744073709551616) % 18446744073709551616), .int .u64 ((l + l') % 18446744073709551616)]) ∧ Below w.heap.size w w' := by
  go_enter Try.func7, Try.ntmps7
  go_wp2_with (rw [add64_run _ _ _ (by omega) (by omega) (by omega) (by omega)])
  go_returns
  exact ⟨rfl, by go_grown⟩
theorem wide_sub (h l h' l' b : Int) (w : World) (h0 : 0 ≤ h) (h1 : h ≤ 18446744073709551615) (l0 : 0 ≤ l) (l1 : l ≤ 18446744073709551615) (k0 : 0 ≤ h') (k1 : h' ≤ 18446744073709551615) (m0 : 0 ≤ l') (m1 : l' ≤ 18446744073709551615) (hb : b = if l < l' then 1 else 0) :
    Calls Try.prog 9 #[.agg #[.int .u64 h, .int .u64 l], .agg #[.int .u64 h', .int .u64 l']] w fun e w' => e = .returned (.agg #[.int .u64 ((h - h' - b) % 18446744073709551616), .int .u64 ((l - l') % 18446744073709551616)]) ∧ Below w.heap.size w w' := by
  by_cases hl : l < l' + 0
  · have HB := Lib.hid (show b = 1 by rw [hb, if_pos (by omega)])
    clear hb
    go_enter Try.func9, Try.ntmps9
    go_wp2_with (first | (rw [sub64_run _ _ _ (by omega) (by omega) (by omega) (by omega) (by omega) (by omega), if_pos (by omega)]) | (rw [sub64_run _ _ _ (by omega) (by omega) (by omega) (by omega) (by omega) (by omega)]))
    all_goals go_returns
    all_goals exact ⟨by first | rw [HB.out, Int.sub_zero] | rw [HB.out], by go_grown⟩
  · have HB := Lib.hid (show b = 0 by rw [hb, if_neg (by omega)])
    clear hb
    go_enter Try.func9, Try.ntmps9
    go_wp2_with (first | (rw [sub64_run _ _ _ (by omega) (by omega) (by omega) (by omega) (by omega) (by omega), if_neg (by omega)]) | (rw [sub64_run _ _ _ (by omega) (by omega) (by omega) (by omega) (by omega) (by omega)]))
    all_goals go_returns
    all_goals exact ⟨by first | rw [HB.out, Int.sub_zero] | rw [HB.out], by go_grown⟩
theorem wide_cmp (h l h' l' : Int) (w : World) (h0 : 0 ≤ h) (l0 : 0 ≤ l) (l1 : l ≤ 18446744073709551615) (k0 : 0 ≤ h') (m0 : 0 ≤ l') (m1 : l' ≤ 18446744073709551615) :
    Calls Try.prog 11 #[.agg #[.int .u64 h, .int .u64 l], .agg #[.int .u64 h', .int .u64 l']] w fun e w' => e = .returned (.int .i64 (cmpI (nm h l) (nm h' l'))) ∧ Below w.heap.size w w' := by
  go_enter Try.func11, Try.ntmps11
  go_wp2_with fail
  all_goals go_ret
  all_goals (refine ⟨ret_i64 ?_, by go_grown⟩; unfold cmpI nm; split <;> (try split) <;> omega)
theorem wide_of (a : Int) (w : World) :
    Calls Try.prog 15 #[.int .u64 a] w fun e w' => e = .returned (.agg #[.int .u64 0, .int .u64 a]) ∧ Below w.heap.size w w' := by
  go_enter Try.func15, Try.ntmps15
  go_wp2_with fail
  go_returns
  refine ⟨rfl, ?_⟩
  go_grown

end Go.Proofs.Ytlmaacbjbmhogaa
