/- Put together by program (merge.py): Refb. -/
import Derived.Test.YtcfmiflhhjoofaaM3
import Derived.Test.YtcfmiflhhjoofaaM4
/- The document's own answers of layer 2 (dulcimerref02): the same numbers of the field, reckoned bit by bit. -/
namespace Go.Proofs.Ytcfmiflhhjoofaa
open Go.ChangeShapes Go.WideShapes Go.ChangeAt Go.RowKit
set_option linter.unusedVariables false
set_option linter.unusedVariables false

theorem r2_red (a : Int) (w : World) (h0 : 0 ≤ a) (h1 : a ≤ 18446744073709551615) :
    Calls Try.prog 49 #[.int .u64 a] w fun e w' => e = .returned (.int .u64 (fm a)) ∧ w = w' := by
  go_enter Try.func49, Try.ntmps49
  go_wp2_with fail
  go_ret
  exact ⟨rfl, rfl⟩

theorem r2_add (a b : Int) (w : World) (h0 : 0 ≤ a) (h1 : a ≤ 18446744069414584320) (h2 : 0 ≤ b) (h3 : b ≤ 18446744069414584320) :
    Calls Try.prog 48 #[.int .u64 a, .int .u64 b] w fun e w' => e = .returned (.int .u64 (fm (a + b))) ∧ w = w' := by
  go_enter Try.func48, Try.ntmps48
  go_wp2_with fail
  all_goals go_ret
  all_goals (refine ⟨ret_u64 ?_, rfl⟩; unfold fm; omega)

/-- What the doubling has reached when the digits from j on are in. -/
def dbl (a : Nat) (b : Int) (j : Nat) : Int := fm (((a / 2 ^ j : Nat) : Int) * b)
theorem dbl_lo (a : Nat) (b : Int) (j : Nat) : 0 ≤ dbl a b j := fm_lo _
theorem dbl_hi (a : Nat) (b : Int) (j : Nat) : dbl a b j ≤ 18446744069414584320 := fm_hi _
theorem dbl_zero (a : Nat) (b : Int) : dbl a b 0 = fm (a * b) := by unfold dbl; simp
theorem dbl_top (a : Nat) (b : Int) (j : Nat) (h : a < 2 ^ j) : dbl a b j = 0 := by
  unfold dbl; rw [Nat.div_eq_of_lt h]; simp; rfl
theorem dbl_step (a : Nat) (k : Nat) (b : Int) : dbl a b k = fm (fm (dbl a b (k + 1) + dbl a b (k + 1)) + ((a / 2 ^ k % 2 : Nat) : Int) * b) := by
  unfold dbl
  have e : a / 2 ^ k = 2 * (a / 2 ^ (k + 1)) + a / 2 ^ k % 2 := by
    rw [Nat.pow_succ, ← Nat.div_div_eq_div_mul]; omega
  generalize a / 2 ^ (k + 1) = q at *
  generalize a / 2 ^ k % 2 = r at *
  rw [e]
  have e2 : ((2 * q + r : Nat) : Int) * b = ((q : Int) * b + (q : Int) * b) + (r : Int) * b := by
    push_cast
    grind
  rw [e2, fm_add_l]
  generalize (q : Int) * b = x
  generalize (r : Int) * b = y
  unfold fm
  omega
theorem dbl_one (a : Nat) (k : Nat) (b : Int) (h : a / 2 ^ k % 2 = 1) : fm (fm (dbl a b (k + 1) + dbl a b (k + 1)) + b) = dbl a b k := by
  rw [dbl_step a k b, h]; simp
theorem dbl_nil (a : Nat) (k : Nat) (b : Int) (h : a / 2 ^ k % 2 = 0) : fm (dbl a b (k + 1) + dbl a b (k + 1)) = dbl a b k := by
  rw [dbl_step a k b, h]; simp [fm_fm]

theorem r2_mul (a : Nat) (b : Int) (w : World) (h1 : a ≤ 18446744073709551615) (h2 : 0 ≤ b) (h3 : b ≤ 18446744069414584320) :
    Calls Try.prog 46 #[.int .u64 a, .int .u64 b] w fun e w' => e = .returned (.int .u64 (fm (a * b))) ∧ w = w' := by
  have HT := Lib.hid (dbl_top a b 64 (by omega))
  have HZ := Lib.hid (dbl_zero a b)
  go_enter Try.func46, Try.ntmps46
  go_wp2_with fail
  go_loop [5, 6] (fun s k => ∃ (j : Nat), j ≤ 64 ∧ k = .int .i64 ((j : Int) - 1) ∧ s = .int .u64 (dbl a b j))
    (fun _ k => (intOf k + 1).toNat)
  case atStart =>
    exact ⟨64, by omega, rfl, by rw [HT.out]⟩
  case round =>
    obtain ⟨j, hj, rfl, rfl⟩ := hrel
    cases j with
    | zero =>
      go_wp2_with fail
      go_ret
      exact ⟨ret_u64 HZ.out, rfl⟩
    | succ k =>
      have d0 := dbl_lo a b (k + 1)
      have d1 := dbl_hi a b (k + 1)
      have hbit : a / 2 ^ k % 2 = 1 ∨ a / 2 ^ k % 2 = 0 := by omega
      have ht : ((a : Int) / 2 ^ k).tmod 2 = ((a / 2 ^ k % 2 : Nat) : Int) := by
        rw [show ((a : Int) / 2 ^ k) = ((a / 2 ^ k : Nat) : Int) from by push_cast; rfl]; rfl
      rcases hbit with hbit | hbit
      · have hq : (((a : Int) / 2 ^ k).tmod 2 == 1) = true := by rw [ht, hbit]; rfl
        have HS := Lib.hid (dbl_one a k b hbit)
        have e0 := fm_lo (dbl a b (k + 1) + dbl a b (k + 1))
        have e1 := fm_hi (dbl a b (k + 1) + dbl a b (k + 1))
        clear hbit ht
        go_wp2_with fail
        refine (r2_add _ _ _ d0 d1 d0 d1).mono ?_
        rintro e w1 ⟨rfl, rfl⟩
        go_wp2_with fail
        refine (r2_add _ _ _ e0 e1 h2 h3).mono ?_
        rintro e w1 ⟨rfl, rfl⟩
        go_wp2_with fail
        go_round
        case rel => exact ⟨k, by omega, rfl, by rw [HS.out]⟩
        case measure => (first | (simp [intOf]; done) | (simp [intOf]; omega) | (simp only [intOf]; omega))
      · have hq : (((a : Int) / 2 ^ k).tmod 2 == 1) = false := by rw [ht, hbit]; rfl
        have HS := Lib.hid (dbl_nil a k b hbit)
        clear hbit ht
        go_wp2_with fail
        refine (r2_add _ _ _ d0 d1 d0 d1).mono ?_
        rintro e w1 ⟨rfl, rfl⟩
        go_wp2_with fail
        go_round
        case rel => exact ⟨k, by omega, rfl, by rw [HS.out]⟩
        case measure => (first | (simp [intOf]; done) | (simp [intOf]; omega) | (simp only [intOf]; omega))

/-- A power whose digits from j on are in. -/
def pwr (a : Int) (n j : Nat) : Int := fm (a ^ (n / 2 ^ j))
theorem pwr_lo (a : Int) (n j : Nat) : 0 ≤ pwr a n j := fm_lo _
theorem pwr_hi (a : Int) (n j : Nat) : pwr a n j ≤ 18446744069414584320 := fm_hi _
theorem pwr_zero (a : Int) (n : Nat) : pwr a n 0 = fm (a ^ n) := by unfold pwr; simp
theorem pwr_top (a : Int) (n j : Nat) (h : n < 2 ^ j) : pwr a n j = 1 := by
  unfold pwr; rw [Nat.div_eq_of_lt h]; simp; rfl
theorem pow_two_mul (a : Int) (k : Nat) : a ^ (2 * k) = a ^ k * a ^ k := by rw [← Int.pow_add]; congr 1; omega
theorem pwr_one (a : Int) (n k : Nat) (h : n / 2 ^ k % 2 = 1) : fm (fm (pwr a n (k + 1) * pwr a n (k + 1)) * a) = pwr a n k := by
  unfold pwr
  have e : n / 2 ^ k = 2 * (n / 2 ^ (k + 1)) + 1 := by
    rw [Nat.pow_succ, ← Nat.div_div_eq_div_mul]; omega
  rw [e, fm_mul_fm, fm_mul_l, Int.pow_succ, pow_two_mul]
theorem pwr_nil (a : Int) (n k : Nat) (h : n / 2 ^ k % 2 = 0) : fm (pwr a n (k + 1) * pwr a n (k + 1)) = pwr a n k := by
  unfold pwr
  have e : n / 2 ^ k = 2 * (n / 2 ^ (k + 1)) := by
    rw [Nat.pow_succ, ← Nat.div_div_eq_div_mul]; omega
  rw [e, fm_mul_fm, pow_two_mul]

theorem r2_mulz (a b : Int) (w : World) (h0 : 0 ≤ a) (h1 : a ≤ 18446744073709551615) (h2 : 0 ≤ b) (h3 : b ≤ 18446744069414584320) :
    Calls Try.prog 46 #[.int .u64 a, .int .u64 b] w fun e w' => e = .returned (.int .u64 (fm (a * b))) ∧ w = w' := by
  obtain ⟨n, rfl⟩ := Int.eq_ofNat_of_zero_le h0
  exact r2_mul n b w (by omega) h2 h3

theorem r2_pow (a : Int) (n : Nat) (w : World) (h0 : 0 ≤ a) (h1 : a ≤ 18446744069414584320) (h3 : n ≤ 18446744073709551615) :
    Calls Try.prog 26 #[.int .u64 a, .int .u64 n] w fun e w' => e = .returned (.int .u64 (fm (a ^ n))) ∧ w = w' := by
  have HT := Lib.hid (pwr_top a n 64 (by omega))
  have HZ := Lib.hid (pwr_zero a n)
  go_enter Try.func26, Try.ntmps26
  go_wp2_with fail
  go_loop [5, 6] (fun s k => ∃ (j : Nat), j ≤ 64 ∧ k = .int .i64 ((j : Int) - 1) ∧ s = .int .u64 (pwr a n j))
    (fun _ k => (intOf k + 1).toNat)
  case atStart =>
    exact ⟨64, by omega, rfl, by rw [HT.out]⟩
  case round =>
    obtain ⟨j, hj, rfl, rfl⟩ := hrel
    cases j with
    | zero =>
      go_wp2_with fail
      go_ret
      exact ⟨ret_u64 HZ.out, rfl⟩
    | succ k =>
      have d0 := pwr_lo a n (k + 1)
      have d1 := pwr_hi a n (k + 1)
      have e0 := fm_lo (pwr a n (k + 1) * pwr a n (k + 1))
      have e1 := fm_hi (pwr a n (k + 1) * pwr a n (k + 1))
      have hbit : n / 2 ^ k % 2 = 1 ∨ n / 2 ^ k % 2 = 0 := by omega
      have ht : ((n : Int) / 2 ^ k).tmod 2 = ((n / 2 ^ k % 2 : Nat) : Int) := by
        rw [show ((n : Int) / 2 ^ k) = ((n / 2 ^ k : Nat) : Int) from by push_cast; rfl]; rfl
      rcases hbit with hbit | hbit
      · have hq : (((n : Int) / 2 ^ k).tmod 2 == 1) = true := by rw [ht, hbit]; rfl
        have HS := Lib.hid (pwr_one a n k hbit)
        clear hbit ht
        go_wp2_with fail
        refine (r2_mulz _ _ _ d0 (by omega) d0 d1).mono ?_
        rintro e w1 ⟨rfl, rfl⟩
        go_wp2_with fail
        refine (r2_mulz _ _ _ e0 (by omega) h0 h1).mono ?_
        rintro e w1 ⟨rfl, rfl⟩
        go_wp2_with fail
        go_round
        case rel => exact ⟨k, by omega, rfl, by rw [HS.out]⟩
        case measure => (first | (simp [intOf]; done) | (simp [intOf]; omega) | (simp only [intOf]; omega))
      · have hq : (((n : Int) / 2 ^ k).tmod 2 == 1) = false := by rw [ht, hbit]; rfl
        have HS := Lib.hid (pwr_nil a n k hbit)
        clear hbit ht
        go_wp2_with fail
        refine (r2_mulz _ _ _ d0 (by omega) d0 d1).mono ?_
        rintro e w1 ⟨rfl, rfl⟩
        go_wp2_with fail
        go_round
        case rel => exact ⟨k, by omega, rfl, by rw [HS.out]⟩
        case measure => (first | (simp [intOf]; done) | (simp [intOf]; omega) | (simp only [intOf]; omega))

theorem r2_addf (a b : Int) (w : World) : Calls Try.prog 48 #[.int .u64 (fm a), .int .u64 (fm b)] w fun e w' => e = .returned (.int .u64 (fm (a + b))) ∧ w = w' := by
  have := r2_add (fm a) (fm b) w (fm_lo _) (fm_hi _) (fm_lo _) (fm_hi _)
  rwa [fm_add_fm] at this
theorem r2_mulf (a b : Int) (w : World) : Calls Try.prog 46 #[.int .u64 (fm a), .int .u64 (fm b)] w fun e w' => e = .returned (.int .u64 (fm (a * b))) ∧ w = w' := by
  have := r2_mulz (fm a) (fm b) w (fm_lo _) (by have := fm_hi a; omega) (fm_lo _) (fm_hi _)
  rwa [fm_mul_fm] at this
theorem r2_powf (a : Int) (n : Nat) (w : World) (h3 : n ≤ 18446744073709551615) : Calls Try.prog 26 #[.int .u64 (fm a), .int .u64 n] w fun e w' => e = .returned (.int .u64 (fm (a ^ n))) ∧ w = w' := by
  have := r2_pow (fm a) n w (fm_lo _) (fm_hi _) h3
  rwa [Fld.fm_pow1] at this

end Go.Proofs.Ytcfmiflhhjoofaa
