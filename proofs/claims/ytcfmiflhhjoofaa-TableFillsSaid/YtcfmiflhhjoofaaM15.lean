/- Put together by program (merge.py): LRootParts LRootTells. -/
import Derived.Test.YtcfmiflhhjoofaaM12
import Derived.Test.YtcfmiflhhjoofaaM14
/- RootParts: powers of roots are roots. -/
namespace Go.Proofs.Ytcfmiflhhjoofaa
open Go.ChangeShapes Go.WideShapes Go.ChangeAt Go.RowKit
set_option linter.unusedVariables false
namespace rootParts

theorem rex_mul {n d : Int} (hn : 1 ≤ n) (hd : 1 ≤ d) (hm : 18446744069414584320 % n = 0) (hnd : n % d = 0) : rex n * (n / d).toNat = rex d := by
  obtain ⟨q, hq⟩ := Int.dvd_of_emod_eq_zero hnd
  obtain ⟨k, hk⟩ := Int.dvd_of_emod_eq_zero hm
  have hq1 : n / d = q := by rw [hq, Int.mul_ediv_cancel_left _ (by omega)]
  have hk1 : (18446744069414584320 : Int) / n = k := by rw [hk, Int.mul_ediv_cancel_left _ (by omega)]
  have hk2 : (18446744069414584320 : Int) / d = q * k := by
    rw [hk, hq, Int.mul_assoc, Int.mul_ediv_cancel_left _ (by omega)]
  have q0 : 0 ≤ q := by
    rw [← hq1]; exact Int.ediv_nonneg (by omega) (by omega)
  have k0 : 0 ≤ k := by
    rw [← hk1]; exact Int.ediv_nonneg (by omega) (by omega)
  unfold rex
  rw [hq1, hk1, hk2, Int.toNat_mul q0 k0, Nat.mul_comm]
theorem rt_pow {n d : Int} (hn : 1 ≤ n) (hd : 1 ≤ d) (hm : 18446744069414584320 % n = 0) (hnd : n % d = 0) : fm (rt n ^ (n / d).toNat) = rt d := by
  unfold rt
  rw [Fld.fm_pow1, ← Int.pow_mul, rex_mul hn hd hm hnd]
theorem has_part {n d : Int} (hn : hasb n = true) (hd : 1 ≤ d) (hnd : n % d = 0) : hasb d = true := by
  obtain ⟨a, b, c⟩ := hasb_dvd hn
  obtain ⟨q, hq⟩ := Int.dvd_of_emod_eq_zero hnd
  have hdn : d ∣ 18446744069414584320 := Int.dvd_trans ⟨q, hq⟩ (Int.dvd_of_emod_eq_zero c)
  exact hasb_yes hd (by have := Int.le_of_dvd (by omega) (Int.dvd_of_emod_eq_zero hnd); omega) (Int.emod_eq_zero_of_dvd hdn)

end rootParts
end Go.Proofs.Ytcfmiflhhjoofaa
/- RootTells: sizes, their roots, orders and inverses. -/
namespace Go.Proofs.Ytcfmiflhhjoofaa
open Go.ChangeShapes Go.WideShapes Go.ChangeAt Go.RowKit
set_option linter.unusedVariables false
namespace rootTells
open rootParts

theorem rt_q2 : rt 2 = 18446744069414584320 := by
  have := Fld.fm_natpow 7 9223372034707292160 18446744069414584320 64 (by decide +kernel) (by decide +kernel)
  exact this
theorem rt_q3 : rt 3 = 18446744065119617025 := by
  have := Fld.fm_natpow 7 6148914689804861440 18446744065119617025 64 (by decide +kernel) (by decide +kernel)
  exact this
theorem rt_q5 : rt 5 = 1373043270956696022 := by
  have := Fld.fm_natpow 7 3689348813882916864 1373043270956696022 64 (by decide +kernel) (by decide +kernel)
  exact this
theorem rt_q17 : rt 17 = 16301593560560007290 := by
  have := Fld.fm_natpow 7 1085102592318504960 16301593560560007290 64 (by decide +kernel) (by decide +kernel)
  exact this
theorem rt_q257 : rt 257 = 995085315851368103 := by
  have := Fld.fm_natpow 7 71777214277877760 995085315851368103 64 (by decide +kernel) (by decide +kernel)
  exact this
theorem rt_q65537 : rt 65537 = 8478886009461009681 := by
  have := Fld.fm_natpow 7 281470681743360 8478886009461009681 64 (by decide +kernel) (by decide +kernel)
  exact this
theorem rt_q1 : rt 1 = 1 := by
  have := Fld.fm_natpow 7 18446744069414584320 1 64 (by decide +kernel) (by decide +kernel)
  exact this
theorem rt_prime : ∀ i, i < 6 → rt (qsl.getD i 0) ≠ 1
  | 0, _ => by rw [show qsl.getD 0 0 = 2 from rfl, rt_q2]; decide
  | 1, _ => by rw [show qsl.getD 1 0 = 3 from rfl, rt_q3]; decide
  | 2, _ => by rw [show qsl.getD 2 0 = 5 from rfl, rt_q5]; decide
  | 3, _ => by rw [show qsl.getD 3 0 = 17 from rfl, rt_q17]; decide
  | 4, _ => by rw [show qsl.getD 4 0 = 257 from rfl, rt_q257]; decide
  | 5, _ => by rw [show qsl.getD 5 0 = 65537 from rfl, rt_q65537]; decide
  | (n + 6), h => by omega
theorem rt_one_pow {n : Int} (h : hasb n = true) : fm (rt n ^ n.toNat) = 1 := by
  obtain ⟨a, b, c⟩ := hasb_dvd h
  have := rt_pow (d := 1) a (by omega) c (Int.emod_one n)
  rw [Int.ediv_one, rt_q1] at this
  exact this
theorem rt_least {n : Int} (h : hasb n = true) : ∀ i, i < 6 → n % qsl.getD i 0 = 0 → fm (rt n ^ (n / qsl.getD i 0).toNat) ≠ 1 := by
  intro i hi hz
  obtain ⟨a, b, c⟩ := hasb_dvd h
  rw [rt_pow a (by have := qsl_at i hi; omega) c hz]
  exact rt_prime i hi
theorem fm_rt (n : Int) : fm (rt n) = rt n := fm_fm _
theorem rt_ne {n : Int} (h : hasb n = true) : fm (rt n) ≠ 0 := by
  intro h0
  obtain ⟨a, b, c⟩ := hasb_dvd h
  have e := rt_one_pow h
  rw [← Fld.fm_pow1, h0] at e
  obtain ⟨m, hm⟩ : ∃ m, n.toNat = m + 1 := ⟨n.toNat - 1, by omega⟩
  rw [hm, Int.pow_succ, Int.mul_zero] at e
  exact absurd e (by decide)
theorem rt_inv {n : Int} (h : hasb n = true) : fm (rt n * finv (rt n)) = 1 := by
  rw [Int.mul_comm]
  exact Fld.inv_mul (rt n) (rt_ne h)

theorem root_back (n : Int) (w : World) (h0 : -9223372036854775808 ≤ n) (h1 : n ≤ 9223372036854775807) (hh : hasb n = true) :
    Calls Try.prog 71 #[.int .i64 n] w fun e w' => e = .returned (.tuple #[.int .u64 (finv (rt n)), .int .i64 0]) ∧ Below w.heap.size w w' := by
  have R := Lib.hid (root_root n w h0 h1 hh)
  have I := Lib.hid (fun w => gold_inv (rt n) w (rt_lo n) (by have := rt_hi n; omega))
  clear hh
  go_enter Try.func71, Try.ntmps71
  go_wp2_with fail
  refine R.out.mono ?_
  rintro e w1 ⟨rfl, b1⟩
  go_wp2_with fail
  refine (I.out _).mono ?_
  rintro e w2 ⟨rfl, b2⟩
  go_wp2_with fail
  go_ret2
  exact ⟨rfl, b1.trans (b2.mono b1.size)⟩
theorem root_backno (n : Int) (w : World) (h0 : -9223372036854775808 ≤ n) (h1 : n ≤ 9223372036854775807) (hh : hasb n = false) :
    Calls Try.prog 71 #[.int .i64 n] w fun e w' => e = .returned (.tuple #[.int .u64 0, .int .i64 4]) ∧ w = w' := by
  have R := Lib.hid (root_none n w h0 h1 hh)
  clear hh
  go_enter Try.func71, Try.ntmps71
  go_wp2_with fail
  refine R.out.mono ?_
  rintro e w1 ⟨rfl, rfl⟩
  go_wp2_with fail
  go_ret2
  exact ⟨rfl, rfl⟩
theorem r4_root (n : Int) (w : World) (hh : hasb n = true) :
    Calls Try.prog 45 #[.int .i64 n] w fun e w' => e = .returned (.int .u64 (rt n)) ∧ w = w' := by
  obtain ⟨a, b, c⟩ := hasb_dvd hh
  obtain ⟨e1, e2⟩ := rex_cast a
  have P := Lib.hid (fun w => r2_pow 7 (rex n) w (by decide) (by decide) e2)
  have HE := Lib.hid e1
  have hz : (n == 0) = false := by simp; omega
  clear hh c e1 e2
  go_enter Try.func45, Try.ntmps45
  go_wp2_with fail
  rw [← HE.out]
  refine (P.out _).mono ?_
  rintro e w1 ⟨rfl, rfl⟩
  go_wp2_with fail
  go_ret
  exact ⟨rfl, rfl⟩

theorem finv_lo (a : Int) : 0 ≤ finv a := fm_lo _
theorem finv_hi (a : Int) : finv a ≤ 18446744069414584320 := fm_hi _
theorem mul_inv {n : Int} (hh : hasb n = true) (w : World) : Calls Try.prog 46 #[.int .u64 (rt n), .int .u64 (finv (rt n))] w fun e w' => e = .returned (.int .u64 1) ∧ w = w' := by
  have M := r2_mulz (rt n) (finv (rt n)) w (rt_lo n) (by have := rt_hi n; omega) (finv_lo _) (finv_hi _)
  rwa [rt_inv hh] at M
end rootTells
end Go.Proofs.Ytcfmiflhhjoofaa
