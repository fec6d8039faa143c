/- Put together by program (merge.py): Facr Pw2 Few. -/
import Derived.Test.YtofgkhoemgimeaaD1
import Derived.Test.YtofgkhoemgimeaaD3
import Derived.Test.YtofgkhoemgimeaaD5
/- Package fact: Prime; reference 3's Is, Prime, Times. -/
namespace Go.Proofs.Ytofgkhoemgimeaa
open Go.ChangeShapes Go.WideShapes Go.ChangeAt Go.RowKit
set_option linter.unusedVariables false
/-- Is it a prime from 2 to 2^24? -/
def prb (n : Int) : Bool := decide (n ≤ 16777216) && isPb n.toNat
theorem prb_yes {n : Int} (h : prb n = true) : ∃ N : Nat, n = N ∧ isP N ∧ N ≤ 16777216 := by
  unfold prb at h
  rw [Bool.and_eq_true, decide_eq_true_iff, isPb_iff] at h
  have := h.2.1
  exact ⟨n.toNat, by omega, h.2, by omega⟩
theorem prb_nat {N : Nat} (h : N ≤ 16777216) : prb (N : Int) = isPb N := by
  unfold prb
  rw [decide_eq_true (by omega), Bool.true_and, Int.toNat_natCast]
theorem prb_out {n : Int} (h : ¬ (1 ≤ n ∧ n ≤ 16777216)) : prb n = false := by
  cases hp : prb n with
  | false => rfl
  | true => obtain ⟨N, rfl, h1, h2⟩ := prb_yes hp; have := h1.1; exact absurd ⟨by omega, by omega⟩ h
theorem fa_len_one {N : Nat} (hN : 1 ≤ N) : isPb N = (decide ((fa N).length = 1) && decide (((fa N).getD 0 (0, 0)).2 = 1)) := by
  cases h : isPb N with
  | true => rw [fa_prime ((isPb_iff N).1 h)]; rfl
  | false =>
    symm
    rw [Bool.and_eq_false_iff, decide_eq_false_iff_not, decide_eq_false_iff_not]
    by_cases h1 : (fa N).length = 1
    · refine .inr fun h2 => ?_
      obtain ⟨⟨p, e⟩, hx⟩ := List.length_eq_one_iff.1 h1
      rw [hx] at h2
      have h2 : e = 1 := h2
      subst h2
      rw [(isPb_iff N).2 (fa_one hN hx)] at h
      cases h
    · exact .inl h1
theorem small_prime {N d : Nat} (h2 : 2 ≤ N) (hd : ∀ c, 2 ≤ c → c < d → ¬ c ∣ N) (hlt : N < d * d) : isP N := by
  refine ⟨h2, fun q h1 hq hdv => ?_⟩
  obtain ⟨c, rfl⟩ := hdv
  have hc : 2 ≤ c := by
    by_cases h : 2 ≤ c
    · exact h
    · have : c = 0 ∨ c = 1 := by omega
      rcases this with rfl | rfl <;> omega
  have a1 : d ≤ q := by
    by_cases h : d ≤ q
    · exact h
    · exact absurd (Nat.dvd_mul_right q c) (hd q h1 (by omega))
  have a2 : d ≤ c := by
    by_cases h : d ≤ c
    · exact h
    · exact absurd (Nat.dvd_mul_left c q) (hd c hc (by omega))
  have := Nat.mul_le_mul a1 a2
  omega
end Go.Proofs.Ytofgkhoemgimeaa
/- Powers of two: stock.Has, and the document's. -/
namespace Go.Proofs.Ytofgkhoemgimeaa
open Go.ChangeShapes Go.WideShapes Go.ChangeAt Go.RowKit
set_option linter.unusedVariables false
theorem ofInt_i64 (a : Nat) (ha : a < 18446744073709551616) : (BitVec.ofInt 64 (a : Int)).toNat = a := by
  rw [BitVec.ofInt_natCast, BitVec.toNat_ofNat]; exact Nat.mod_eq_of_lt (by omega)
theorem i64_and_nat (a b : Nat) (ha : a < 9223372036854775808) (hb : b < 9223372036854775808) : bits .and .i64 (a : Int) (b : Int) = ((a &&& b : Nat) : Int) := by
  have hx : a &&& b < 2 ^ 63 := Nat.and_lt_two_pow _ (by omega)
  show IntKind.i64.wrap ((BitVec.ofInt 64 (a : Int) &&& BitVec.ofInt 64 (b : Int)).toNat : Int) = _
  rw [BitVec.toNat_and, ofInt_i64 a (by omega), ofInt_i64 b (by omega), IntKind.wrap_i64]
  omega
/-- A power of two. -/
def isp (n : Nat) : Prop := Nat.isPowerOfTwo n
instance (n : Nat) : Decidable (isp n) := inferInstanceAs (Decidable (Nat.isPowerOfTwo n))
theorem isp_and (n : Nat) (h : n ≠ 0) : (n &&& (n - 1)) = 0 ↔ isp n := Nat.and_sub_one_eq_zero_iff_isPowerOfTwo h
theorem isp_half (n : Nat) (h : n % 2 = 0) (h2 : 2 ≤ n) : isp (n / 2) ↔ isp n := by
  constructor
  · rintro ⟨k, hk⟩
    exact ⟨k + 1, by rw [Nat.pow_succ]; omega⟩
  · rintro ⟨k, hk⟩
    cases k with
    | zero => simp at hk; omega
    | succ k => exact ⟨k, by rw [Nat.pow_succ] at hk; omega⟩
theorem isp_odd (n : Nat) (h : n % 2 = 1) (h2 : 2 ≤ n) : ¬ isp n := by
  rintro ⟨k, hk⟩
  cases k with
  | zero => simp at hk; omega
  | succ k => rw [Nat.pow_succ] at hk; omega
theorem isp_one : isp 1 := ⟨0, rfl⟩
theorem isp_zero : ¬ isp 0 := by
  rintro ⟨k, hk⟩
  have := Nat.pow_pos (n := k) (show 0 < 2 by omega)
  omega
/-- Is it a power of two? -/
def pwb (n : Int) : Bool := decide (1 ≤ n ∧ isp n.toNat)
theorem pwb_yes {n : Int} (h : 1 ≤ n) (h1 : isp n.toNat) : pwb n = true := by unfold pwb; exact decide_eq_true ⟨h, h1⟩
theorem pwb_no {n : Int} (h : ¬ (1 ≤ n ∧ isp n.toNat)) : pwb n = false := by unfold pwb; exact decide_eq_false h
theorem pwb_isp {n : Int} (h : pwb n = true) : 1 ≤ n ∧ isp n.toNat := by unfold pwb at h; exact of_decide_eq_true h
/-- .. of a size. -/
def hasp (n : Int) : Bool := decide (n ≤ 16777216) && pwb n
end Go.Proofs.Ytofgkhoemgimeaa
/- Package small: Has. -/
namespace Go.Proofs.Ytofgkhoemgimeaa
open Go.ChangeShapes Go.WideShapes Go.ChangeAt Go.RowKit
set_option linter.unusedVariables false
/-- Is it so few? -/
def few (n : Int) : Bool := decide (1 ≤ n ∧ n ≤ 5)
theorem few_two : few 2 = true := by decide
end Go.Proofs.Ytofgkhoemgimeaa
