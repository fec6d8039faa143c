/- gold.Pow, gold.Inv, gold.Sum. -/
import Derived.Test.YtmeaakchnellfaaGold
namespace Go.Proofs.Ytmeaakchnellfaa
open Go.ChangeShapes Go.WideShapes Go.ChangeAt Go.RowKit
set_option linter.unusedVariables false
set_option linter.unusedVariables false

theorem fm_pow (x : Int) (y : Int) (k : Nat) : fm (x * fm y ^ k) = fm (x * y ^ k) := by
  induction k generalizing x with
  | zero => simp
  | succ k ih =>
    have e1 : x * fm y ^ (k + 1) = (x * fm y) * fm y ^ k := by rw [Int.pow_succ, Int.mul_assoc, Int.mul_comm (fm y ^ k)]
    have e2 : x * y ^ (k + 1) = (x * y) * y ^ k := by rw [Int.pow_succ, Int.mul_assoc, Int.mul_comm (y ^ k)]
    rw [e1, e2, ih, ← fm_mul_l (x * fm y), fm_mul_r, fm_mul_l]

theorem pow_sq (a : Int) (k : Nat) : (a * a) ^ k = a ^ (2 * k) := by
  induction k with
  | zero => simp
  | succ k ih => rw [Int.pow_succ, ih, show 2 * (k + 1) = 2 * k + 1 + 1 from by omega, Int.pow_succ, Int.pow_succ, Int.mul_assoc]

theorem pow_even (p a : Int) (k : Nat) (h : k % 2 = 0) : fm (p * fm (a * a) ^ (k / 2)) = fm (p * a ^ k) := by
  rw [fm_pow, pow_sq, show 2 * (k / 2) = k from by omega]
theorem pow_odd (p a : Int) (k : Nat) (h : k % 2 = 1) : fm (fm (p * a) * fm (a * a) ^ (k / 2)) = fm (p * a ^ k) := by
  rw [fm_mul_l, fm_pow, pow_sq]
  have e := Int.pow_succ a (2 * (k / 2))
  rw [show (2 * (k / 2)).succ = k from by omega] at e
  rw [e, Int.mul_assoc, Int.mul_comm a]

theorem gold_pow (a : Int) (n : Nat) (w : World) (h0 : 0 ≤ a) (h1 : a ≤ 18446744073709551615) (h3 : n ≤ 18446744073709551615) :
    Calls Try.prog 100 #[.int .u64 a, .int .u64 n] w fun e w' => e = .returned (.int .u64 (fm (a ^ n))) ∧ Below w.heap.size w w' := by
  go_enter Try.func100, Try.ntmps100
  go_wp2_with fail
  go_loopw [5, 0, 1] (fun p a' n' wr => ∃ (k : Nat) (pv av : Int), n' = .int .u64 k ∧ p = .int .u64 pv ∧ a' = .int .u64 av ∧ 0 ≤ pv ∧ pv ≤ 18446744069414584320 ∧ 0 ≤ av ∧ av ≤ 18446744073709551615 ∧ k ≤ 18446744073709551615 ∧ Hid (fm (pv * av ^ k) = fm (a ^ n)) ∧ Below w.heap.size w wr)
    (fun _ _ n' _ => (intOf n').toNat)
  case atStart => exact ⟨n, 1, a, rfl, rfl, rfl, by omega, by omega, h0, h1, h3, Lib.hid (by rw [Int.one_mul]), Below.refl _ _⟩
  case round =>
    obtain ⟨k, pv, av, rfl, rfl, rfl, p0, p1, a0, a1, hk, HP, hb0⟩ := hrel
    have hand := and_one (k : Int) (by omega) (by omega)
    by_cases hz : k = 0
    · subst hz
      go_wp2_with fail
      go_ret
      exact ⟨ret_u64 (by have := HP.out; rw [Int.pow_zero, Int.mul_one, fm_small pv p0 p1] at this; exact this), hb0⟩
    · have hpos : (0 : Int) < (k : Int) := by omega
      by_cases hodd : k % 2 = 1
      · have hq : ((k : Int) % 2 == 1) = true := by simp; omega
        have HO := Lib.hid (pow_odd pv av k hodd)
        clear hodd
        go_wp2_with fail
        refine (gold_mul _ _ _ p0 (by omega) a0 a1).mono ?_
        rintro e w1 ⟨rfl, hb1⟩
        go_wp2_with fail
        refine (gold_mul _ _ _ a0 a1 a0 a1).mono ?_
        rintro e w2 ⟨rfl, hb2⟩
        go_wp2_with fail
        go_roundw
        case rel => exact ⟨k / 2, fm (pv * av), fm (av * av), by rfl, rfl, rfl, fm_lo _, fm_hi _, fm_lo _, by have := fm_hi (av * av); omega, by omega, Lib.hid (by rw [HO.out, HP.out]), (hb0.trans (hb1.mono hb0.size)).trans (hb2.mono (by have := hb0.size; have := hb1.size; omega))⟩
        case measure => simp [intOf]; omega
      · have hq : ((k : Int) % 2 == 1) = false := by simp; omega
        have HO := Lib.hid (pow_even pv av k (by omega))
        clear hodd
        go_wp2_with fail
        refine (gold_mul _ _ _ a0 a1 a0 a1).mono ?_
        rintro e w2 ⟨rfl, hb2⟩
        go_wp2_with fail
        go_roundw
        case rel => exact ⟨k / 2, pv, fm (av * av), by rfl, rfl, rfl, p0, p1, fm_lo _, by have := fm_hi (av * av); omega, by omega, Lib.hid (by rw [HO.out, HP.out]), hb0.trans (hb2.mono hb0.size)⟩
        case measure => simp [intOf]; omega

/-- The exponent of the inverse: P - 2. -/
def p2 : Nat := 18446744069414584319
def finv (a : Int) : Int := fm (a ^ p2)

theorem gold_inv (a : Int) (w : World) (h0 : 0 ≤ a) (h1 : a ≤ 18446744073709551615) :
    Calls Try.prog 94 #[.int .u64 a] w fun e w' => e = .returned (.int .u64 (finv a)) ∧ Below w.heap.size w w' := by
  have c : Calls Try.prog 100 #[.int .u64 a, .int .u64 18446744069414584319] w fun e w' => e = .returned (.int .u64 (finv a)) ∧ Below w.heap.size w w' := gold_pow a p2 w h0 h1 (by unfold p2; omega)
  go_enter Try.func94, Try.ntmps94
  go_wp2_with fail
  refine c.mono ?_
  rintro e w1 ⟨rfl, hb1⟩
  go_wp2_with fail
  go_ret
  exact ⟨rfl, hb1⟩

end Go.Proofs.Ytmeaakchnellfaa
