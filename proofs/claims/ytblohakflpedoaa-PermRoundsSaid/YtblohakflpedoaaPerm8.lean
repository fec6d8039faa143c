/- The law PermTells' two readers: follows, applies; the inverse in numbers. -/
import Derived.Test.YtblohakflpedoaaPerm7
import Derived.Test.YtblohakflpedoaaPerm5
namespace Go.Proofs.Ytblohakflpedoaa
open Go.ChangeShapes Go.WideShapes Go.ChangeAt Go.RowKit
set_option linter.unusedVariables false
theorem cnt_ex {ps : List Int} {v : Int} : ∀ {k : Nat}, cnt ps v k ≠ 0 → ∃ j, j < k ∧ ps.getD j 0 = v
  | k + 1, h => by
    by_cases e : ps.getD k 0 = v
    · exact ⟨k, by omega, e⟩
    · rw [cnt, if_neg e] at h
      obtain ⟨j, hj, e2⟩ := cnt_ex h
      exact ⟨j, by omega, e2⟩
theorem inv_back {ps : List Int} {n k : Nat} (hg : rgt ps n n = true) (hk : k < n) : invl ps (ps.getD k 0) n = k :=
  invl_at rfl n hk (fun j h1 h2 e => rgt_apart hg k j h1 h2 e.symm)
theorem inv_ex {ps : List Int} {n v : Nat} (hg : rgt ps n n = true) (hv : v < n) : ∃ k, k < n ∧ ps.getD k 0 = v ∧ invl ps v n = k := by
  obtain ⟨k, hk, e⟩ := cnt_ex (ps := ps) (v := (v : Int)) (k := n) (by rw [(rgt_cnt ps n).1 hg v hv]; omega)
  exact ⟨k, hk, e, by rw [← e]; exact inv_back hg hk⟩
theorem inverl_at (ps : List Int) (n v : Nat) (hv : v < n) : (inverl ps n).getD v 0 = ((invl ps v n : Nat) : Int) := tab_at n (fun v => ((invl ps v n : Nat) : Int)) v hv
theorem inverl_right {ps : List Int} {n : Nat} (hg : rgt ps n n = true) : rgt (inverl ps n) n n = true := by
  apply rgt_of
  · intro j hj
    rw [inverl_at ps n j hj]
    obtain ⟨k, hk, _, e⟩ := inv_ex hg hj
    rw [e]; omega
  · intro i j hij hj e
    rw [inverl_at ps n j hj, inverl_at ps n i (by omega)] at e
    obtain ⟨k, hk, e1, e2⟩ := inv_ex hg hj
    obtain ⟨k2, hk2, e3, e4⟩ := inv_ex (v := i) hg (by omega)
    rw [e2, e4] at e
    have : k = k2 := by omega
    subst this
    rw [e1] at e3
    omega
end Go.Proofs.Ytblohakflpedoaa
