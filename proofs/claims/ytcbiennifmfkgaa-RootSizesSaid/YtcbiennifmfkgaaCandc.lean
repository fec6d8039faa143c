/- Package cand's plain: the plan without a choice. -/
import Derived.Test.YtcbiennifmfkgaaCandb
import Derived.Test.YtcbiennifmfkgaaAtr
namespace Go.Proofs.Ytcbiennifmfkgaa
open Go.ChangeShapes Go.WideShapes Go.ChangeAt Go.RowKit
set_option linter.unusedVariables false
set_option linter.unusedSimpArgs false
theorem hasp_small {n : Nat} (h : n ≤ 16777216) : hasp (n : Int) = pwb (n : Int) := by unfold hasp; rw [decide_eq_true (by omega), Bool.true_and]
theorem prb_fa {n : Nat} (h1 : 1 ≤ n) (h : n ≤ 16777216) (hp : ¬ prb (n : Int) = true) (h2 : 2 ≤ n) : 1 ≤ (fa n).length ∧ 2 ≤ lastP n ∧ lastP n ∣ n ∧ lastP n < n := by
  have hl : 1 ≤ (fa n).length := by
    rcases Nat.eq_zero_or_pos (fa n).length with h0 | h0
    · have e := pw_fa h1
      rw [List.length_eq_zero_iff.1 h0] at e
      simp [pw] at e
      omega
    · exact h0
  obtain ⟨g1, g2, g3, _, _⟩ := fa_pow h1 (i := (fa n).length - 1) (by omega)
  refine ⟨hl, g1, g2, ?_⟩
  rcases Nat.lt_or_eq_of_le (Nat.le_of_dvd h1 g2) with h | h
  · exact h
  · exfalso
    apply hp
    unfold prb
    rw [Bool.and_eq_true, decide_eq_true_iff, isPb_iff]
    exact ⟨by omega, by rw [show ((n : Int)).toNat = n by omega]; rw [h] at g3; exact g3⟩
theorem fsts_last {n : Nat} (h : 1 ≤ (fa n).length) : (fsts (fa n)).getD ((fa n).length - 1) 0 = ((lastP n : Nat) : Int) := by rw [fsts_at]; rfl
end Go.Proofs.Ytcbiennifmfkgaa
