/- Package cand's List: all plans of a size that are worth a trial. -/
import Derived.Test.YtcbiennifmfkgaaCandf
namespace Go.Proofs.Ytcbiennifmfkgaa
open Go.ChangeShapes Go.WideShapes Go.ChangeAt Go.RowKit
set_option linter.unusedVariables false
set_option linter.unusedSimpArgs false
/-- The least power of two that is not below n. -/
def abvF : Nat → Nat → Nat → Nat
  | 0, m, _ => m
  | f + 1, m, n => if m < n then abvF f (2 * m) n else m
def abvN (n : Nat) : Nat := abvF 25 1 n
theorem abvF_is (n : Nat) : ∀ (f m : Nat), (∃ j, m = 2 ^ j ∧ ∀ i, i < j → 2 ^ i < n) → n ≤ 2 ^ f * m → IsAbvb n (abvF f m n)
  | 0, m, ⟨j, e, h⟩, hn => ⟨j, e, by rw [← e]; simpa using hn, h⟩
  | f + 1, m, hm, hn => by
    rw [abvF]
    split
    · rename_i hlt
      exact abvF_is n f (2 * m) (abv_nextb hm hlt) (by rw [show 2 ^ f * (2 * m) = 2 ^ (f + 1) * m by rw [Nat.pow_succ, Nat.mul_assoc]]; exact hn)
    · obtain ⟨j, e, h⟩ := hm
      exact ⟨j, e, by omega, h⟩
theorem abvN_is {n : Nat} (h : n ≤ 33554432) : IsAbvb n (abvN n) := abvF_is n 25 1 ⟨0, rfl, fun i hi => by omega⟩ (by omega)
def opt (c : Prop) [Decidable c] (d : Nd) : List Nd := if c then [d] else []
theorem opt_yes {c : Prop} [Decidable c] {d : Nd} (h : c) : opt c d = [d] := if_pos h
theorem opt_no {c : Prop} [Decidable c] {d : Nd} (h : ¬ c) : opt c d = [] := if_neg h
theorem opt_len (c : Prop) [Decidable c] (d : Nd) : (opt c d).length ≤ 1 := by unfold opt; split <;> simp
def oneT (k : Int) (n m : Nat) : Nd := ⟨k, n, (plT 16777216 m).fo .nil⟩
def prN (n : Nat) : List Nat := (fa n).map (·.1)
def pwN (n : Nat) : List Nat := (fa n).map fun x => x.1 ^ x.2
/-- All plans of a size that are worth a trial. -/
def candL (n : Nat) : List Nd := opt (n ≤ 64) ⟨1, n, .nil⟩ ++ opt (2 ≤ n ∧ n ≤ 5) ⟨2, n, .nil⟩ ++ opt (2 ≤ n ∧ pwb n = true) ⟨3, n, .nil⟩ ++ prsL 4 n (prN n) ++ prsL 5 n (pwN n) ++ opt (3 ≤ n ∧ prb n = true) (oneT 6 n (n - 1)) ++ opt (2 ≤ n ∧ n ≤ 8388608) (oneT 7 n (abvN (2 * n - 1)))
theorem nats_pr (n : Nat) : nats (prN n) = fsts (fa n) := by unfold nats prN fsts; rw [List.map_map]; rfl
theorem nats_pw (n : Nat) : nats (pwN n) = pws (fa n) := by unfold nats pwN pws; rw [List.map_map]; rfl
theorem prN_in {n p : Nat} (h1 : 1 ≤ n) (h : p ∈ prN n) : 2 ≤ p ∧ p ∣ n := by
  unfold prN at h
  obtain ⟨⟨q, e⟩, hx, rfl⟩ := List.mem_map.1 h
  obtain ⟨g1, g2, _⟩ := (fa_mem h1).1 hx
  exact ⟨g1.1, g2⟩
theorem pwN_in {n p : Nat} (h1 : 1 ≤ n) (h : p ∈ pwN n) : 2 ≤ p ∧ p ∣ n := by
  unfold pwN at h
  obtain ⟨⟨q, e⟩, hx, rfl⟩ := List.mem_map.1 h
  obtain ⟨g1, g2, rfl⟩ := (fa_mem h1).1 hx
  obtain ⟨m, e1, _⟩ := mu_split g1.1 n h1
  have g3 := (mu_pos g1.1 h1).2 g2
  refine ⟨Nat.le_trans g1.1 ?_, ⟨m, e1⟩⟩
  show q ≤ q ^ mu q n
  have := Nat.pow_le_pow_right (n := q) (by have := g1.1; omega) g3
  rwa [Nat.pow_one] at this
end Go.Proofs.Ytcbiennifmfkgaa
