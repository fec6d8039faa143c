/- Put together by program (merge.py): LStockPasses. -/
import Derived.Test.YtcfmiflhhjoofaaM27
/- StockPasses: a pass. -/
namespace Go.Proofs.Ytcfmiflhhjoofaa
open Go.ChangeShapes Go.WideShapes Go.ChangeAt Go.RowKit
set_option linter.unusedVariables false
namespace stockPasses
theorem rowat4 (w : World) (a b c d : Int) : RowAt (w.alloc (.cells #[.int .u64 a, .int .u64 b, .int .u64 c, .int .u64 d] 43)) w.heap.size 43 [a, b, c, d] := by
  unfold RowAt; rw [heap_alloc_new]; rfl
theorem pass1234 : passl [1, 2, 3, 4] [1, 0, 0, 0] 1 4 = [4, 18446744069414584319, 6, 0] := by decide +kernel
theorem has8 : hasp 8 = true := by decide +kernel
theorem has4 : hasp 4 = true := by decide +kernel
theorem has1 : hasp 1 = true := by decide +kernel
theorem hasp_low {s : Int} (h : s < 1) : hasp s = false := by
  unfold hasp; rw [pwb_no (fun x => by omega), Bool.and_false]
theorem hasp_pw {s : Int} (h : pwb s = false) : hasp s = false := by unfold hasp; rw [h, Bool.and_false]
/-- What is told of a pass. -/
def told (n s m : Int) : Int := if hasp n = false then 4 else if s < 1 then 2 else if n / 2 < s then 2 else if pwb s = false then 2 else if m = n then 0 else 5
theorem told_ok {n m : Nat} {s : Int} (ht : told n s m = 0) : hasp n = true ∧ hasp s = true ∧ m = n ∧ ∃ s' h : Nat, s = s' ∧ 2 * s' * h = n ∧ 0 < s' ∧ 0 < h ∧ n ≤ 16777216 := by
  unfold told at ht
  cases hh : hasp (n : Int)
  · rw [if_pos hh] at ht; omega
  rw [if_neg (by rw [hh]; decide)] at ht
  by_cases h1 : s < 1
  · rw [if_pos h1] at ht; omega
  rw [if_neg h1] at ht
  by_cases h2 : (n : Int) / 2 < s
  · rw [if_pos h2] at ht; omega
  rw [if_neg h2] at ht
  cases hp : pwb s
  · rw [if_pos hp] at ht; omega
  rw [if_neg (by rw [hp]; decide)] at ht
  by_cases hmn : (m : Int) = n
  · have hh' := hh
    unfold hasp at hh'
    have hn : n ≤ 16777216 := by
      by_cases h : (n : Int) ≤ 16777216
      · omega
      · rw [decide_eq_false h] at hh'; cases hh'
    have hn2 : pwb n = true := by
      rw [decide_eq_true (by omega : (n : Int) ≤ 16777216)] at hh'
      simpa using hh'
    obtain ⟨_, a, ha⟩ := pwb_isp hn2
    obtain ⟨_, b, hb⟩ := pwb_isp hp
    rw [Int.toNat_natCast] at ha
    obtain ⟨s', rfl⟩ : ∃ s' : Nat, s = s' := ⟨s.toNat, by omega⟩
    rw [Int.toNat_natCast] at hb
    have hps : hasp (s' : Int) = true := by unfold hasp; rw [hp, Bool.and_true]; exact decide_eq_true (by omega)
    have hlt : b < a := by
      by_cases h : b < a
      · exact h
      · have : 2 ^ a ≤ 2 ^ b := Nat.pow_le_pow_right (by omega) (by omega)
        omega
    refine ⟨rfl, hps, by omega, s', 2 ^ (a - b - 1), rfl, ?_, by omega, Nat.pow_pos (by omega), hn⟩
    rw [ha, hb, show 2 * 2 ^ b = 2 ^ (b + 1) by rw [Nat.pow_succ]; omega, ← Nat.pow_add]
    congr 1
    omega
  · rw [if_neg hmn] at ht; omega
end stockPasses
end Go.Proofs.Ytcfmiflhhjoofaa
