/- RootParts: powers of roots are roots. -/
import Derived.Test.YtkijiljipacfjaaRoot
namespace Go.Proofs.Ytkijiljipacfjaa
open Go.ChangeShapes Go.WideShapes Go.ChangeAt Go.RowKit
set_option linter.unusedVariables false
namespace rootParts

theorem rex_mul {n d : Int} (hn : 1 ≤ n) (hd : 1 ≤ d) (hm : 18446744069414584320 % n = 0) (hnd : n % d = 0) : rex n * (n / d).toNat = rex d := by
  obtain ⟨q, hq⟩ := Int.dvd_of_emod_eq_zero hnd
  obtain ⟨k, hk⟩ := Int.dvd_of_emod_eq_zero hm
  have hq1 : n / d = q := by rw [hq, Int.mul_ediv_cancel_left _ (by omega)]
  have hk1 : (18446744069414584320 : Int) / n = k := by rw [hk, Int.mul_ediv_cancel_left _ (by omega)]
  have hk2 : (18446744069414584320 : Int) / d = q * k := by
    rw [hk, hq, Int.mul_assoc, Int.mul_ediv_cancel_left _ (by omega)]
  have q0 : 0 ≤ q := by
    rw [← hq1]; exact Int.ediv_nonneg (by omega) (by omega)
  have k0 : 0 ≤ k := by
    rw [← hk1]; exact Int.ediv_nonneg (by omega) (by omega)
  unfold rex
  rw [hq1, hk1, hk2, Int.toNat_mul q0 k0, Nat.mul_comm]
theorem rt_pow {n d : Int} (hn : 1 ≤ n) (hd : 1 ≤ d) (hm : 18446744069414584320 % n = 0) (hnd : n % d = 0) : fm (rt n ^ (n / d).toNat) = rt d := by
  unfold rt
  rw [Fld.fm_pow1, ← Int.pow_mul, rex_mul hn hd hm hnd]
theorem has_part {n d : Int} (hn : hasb n = true) (hd : 1 ≤ d) (hnd : n % d = 0) : hasb d = true := by
  obtain ⟨a, b, c⟩ := hasb_dvd hn
  obtain ⟨q, hq⟩ := Int.dvd_of_emod_eq_zero hnd
  have hdn : d ∣ 18446744069414584320 := Int.dvd_trans ⟨q, hq⟩ (Int.dvd_of_emod_eq_zero c)
  exact hasb_yes hd (by have := Int.le_of_dvd (by omega) (Int.dvd_of_emod_eq_zero hnd); omega) (Int.emod_eq_zero_of_dvd hdn)

end rootParts
end Go.Proofs.Ytkijiljipacfjaa
