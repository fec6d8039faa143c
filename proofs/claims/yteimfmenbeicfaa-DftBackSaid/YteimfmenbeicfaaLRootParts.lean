/- RootParts: powers of roots are roots. -/
import Derived.Test.YteimfmenbeicfaaRoot
namespace Go.Proofs.Yteimfmenbeicfaa
open Go.ChangeShapes Go.WideShapes Go.ChangeAt Go.RowKit
set_option linter.unusedVariables false
namespace rootParts

theorem rex_mul {n d : Int} (hn : 1 ≤ n) (hd : 1 ≤ d) (hm : 18446744069414584320 % n = 0) (hnd : n % d = 0) : rex n * (n / d).toNat = rex d := by
  obtain ⟨q, hq⟩ := Int.dvd_of_emod_eq_zero hnd
  obtain ⟨k, hk⟩ := Int.dvd_of_emod_eq_zero hm
  have hq1 : n / d = q := by rw [hq, Int.mul_ediv_cancel_left _ (by omega)]
  have hk1 : (18446744069414584320 : Int) / n = k := by rw [hk, Int.mul_ediv_cancel_left _ (by omega)]
  have hk2 : (18446744069414584320 : Int) / d = q * k := by
    rw [hk, hq, Int.mul_assoc, Int.mul_ediv_cancel_left _ (by omega)]
  have q0 : 0 ≤ q := by
    rw [← hq1]; exact Int.ediv_nonneg (by omega) (by omega)
  have k0 : 0 ≤ k := by
    rw [← hk1]; exact Int.ediv_nonneg (by omega) (by omega)
  unfold rex
  rw [hq1, hk1, hk2, Int.toNat_mul q0 k0, Nat.mul_comm]
theorem rt_pow {n d : Int} (hn : 1 ≤ n) (hd : 1 ≤ d) (hm : 18446744069414584320 % n = 0) (hnd : n % d = 0) : fm (rt n ^ (n / d).toNat) = rt d := by
  unfold rt
  rw [Fld.fm_pow1, ← Int.pow_mul, rex_mul hn hd hm hnd]
theorem has_part {n d : Int} (hn : hasb n = true) (hd : 1 ≤ d) (hnd : n % d = 0) : hasb d = true := by
  obtain ⟨a, b, c⟩ := hasb_dvd hn
  obtain ⟨q, hq⟩ := Int.dvd_of_emod_eq_zero hnd
  have hdn : d ∣ 18446744069414584320 := Int.dvd_trans ⟨q, hq⟩ (Int.dvd_of_emod_eq_zero c)
  exact hasb_yes hd (by have := Int.le_of_dvd (by omega) (Int.dvd_of_emod_eq_zero hnd); omega) (Int.emod_eq_zero_of_dvd hdn)

set_option maxRecDepth 100000 in
theorem walk (W : World) (n : Int) (w0 : -9223372036854775808 ≤ n ∧ n ≤ 9223372036854775807) (d : Int) (w1 : -9223372036854775808 ≤ d ∧ d ≤ 9223372036854775807) :
    Calls Try.prog 4 #[.int .i64 n, .int .i64 d] W fun e W' => e = .returned (.bool true) ∧ Below W.heap.size W W' := by
  obtain ⟨n0, n1⟩ := w0
  obtain ⟨d0, d1⟩ := w1
  have hB := Below.refl W.heap.size W
  have R := r4_has n W n0 n1
  by_cases hh : hasb n = true
  · rw [hh] at R
    have R := Lib.hid R
    by_cases hd : 1 ≤ d
    · obtain ⟨a, b, c⟩ := hasb_dvd hh
      have hz : (d == 0) = false := by simp; omega
      by_cases hnd : n % d = 0
      · have HD := Lib.hid (has_part hh hd hnd)
        have HP := Lib.hid (rt_pow a hd c hnd)
        have HH := Lib.hid hh
        have q0 : 0 ≤ n / d := Int.ediv_nonneg (by omega) (by omega)
        have q1 : n / d ≤ n := Int.ediv_le_self _ (by omega)
        have P := Lib.hid (fun w => r2_pow (rt n) (n / d).toNat w (rt_lo n) (rt_hi n) (by omega))
        have hqe : ((n / d).toNat : Int) = n / d := by omega
        have HQ := Lib.hid hqe
        have hm : (n % d != 0) = false := by simpa using hnd
        clear hh c hnd hqe
        go_enter Try.func4, Try.ntmps4
        go_wp2_with fail
        refine R.out.mono ?_
        rintro e w1 ⟨rfl, rfl⟩
        go_wp2_with fail
        refine (root_root n _ n0 n1 HH.out).mono ?_
        rintro e w1 ⟨rfl, hb1⟩
        go_wp2_with fail
        refine (root_root d _ d0 d1 HD.out).mono ?_
        rintro e w2 ⟨rfl, hb2⟩
        go_wp2_with fail
        rw [← HQ.out]
        refine (P.out _).mono ?_
        rintro e w3 ⟨rfl, rfl⟩
        rw [HP.out]
        go_wp2_with fail
        refine (live4 _).mono ?_
        rintro e w4 ⟨rfl, hb4⟩
        go_wp2_with fail
        go_ret
        exact ⟨rfl, (hb1.trans (hb2.mono hb1.size)).trans (hb4.mono (by have := hb1.size; have := hb2.size; omega))⟩
      · have hm : (n % d != 0) = true := by simpa using hnd
        clear hh c hnd
        go_enter Try.func4, Try.ntmps4
        go_wp2_with fail
        refine R.out.mono ?_
        rintro e w1 ⟨rfl, rfl⟩
        go_wp2_with fail
        refine (live4 _).mono ?_
        rintro e w4 ⟨rfl, hb4⟩
        go_wp2_with fail
        go_ret
        exact ⟨rfl, hb4⟩
    · clear hh
      have hd' : d < 1 := by omega
      go_enter Try.func4, Try.ntmps4
      go_wp2_with fail
      refine R.out.mono ?_
      rintro e w1 ⟨rfl, rfl⟩
      go_wp2_with fail
      refine (live4 _).mono ?_
      rintro e w4 ⟨rfl, hb4⟩
      go_wp2_with fail
      go_ret
      exact ⟨rfl, hb4⟩
  · rw [show hasb n = false by simpa using hh] at R
    have R := Lib.hid R
    clear hh
    go_enter Try.func4, Try.ntmps4
    go_wp2_with fail
    refine R.out.mono ?_
    rintro e w1 ⟨rfl, rfl⟩
    go_wp2_with fail
    refine (live4 _).mono ?_
    rintro e w4 ⟨rfl, hb4⟩
    go_wp2_with fail
    go_ret
    exact ⟨rfl, hb4⟩
end rootParts
end Go.Proofs.Yteimfmenbeicfaa
