/- Put together by program (merge.py): Rturn. -/
import Derived.Test.YtcfmiflhhjoofaaM25
/- Reference 5's Rev and Turn. -/
namespace Go.Proofs.Ytcfmiflhhjoofaa
open Go.ChangeShapes Go.WideShapes Go.ChangeAt Go.RowKit
set_option linter.unusedVariables false
theorem Row.drop {w : World} {b off n : Nat} {xs : List Int} (h : Row w (some ⟨b, off, none⟩) n xs) (t : Nat) (ht : t < n) : Row w (some ⟨b, off + t, none⟩) (n - t) (xs.drop t) := by
  refine ⟨by rw [List.length_drop, h.len], ?_, fun x hx => h.wf x (List.mem_of_mem_drop hx), by have := h.small; omega⟩
  rcases h.reads with hn | ⟨b', off', e, hb, hc⟩
  · have := h.len; rw [hn] at this; simp at this; omega
  · cases e
    refine .inr ⟨b, off + t, rfl, hb, fun i hi => ?_⟩
    rw [List.length_drop] at hi
    rw [Nat.add_assoc, hc (t + i) (by omega)]
    simp [List.getD]
theorem Row.take {w : World} {p : Option Addr} {n : Nat} {xs : List Int} (h : Row w p n xs) (t : Nat) (ht : t ≤ n) : Row w p t (xs.take t) := by
  refine ⟨by rw [List.length_take, h.len]; omega, ?_, fun x hx => h.wf x (List.mem_of_mem_take hx), by have := h.small; omega⟩
  rcases h.reads with hn | ⟨b', off', e, hb, hc⟩
  · exact .inl (by rw [hn]; simp)
  · refine .inr ⟨b', off', e, hb, fun i hi => ?_⟩
    rw [List.length_take] at hi
    rw [hc i (by omega)]
    have h1 : i < t := by omega
    simp [List.getD, h1]
theorem turn_facts (k : Int) (n : Nat) (h0 : 0 < n) (hn : n ≤ 17592186044415) : (k.tmod n < 0 → wrap64 (k.tmod n + n) = (tpos k n : Int)) ∧ (¬ k.tmod n < 0 → k.tmod n = (tpos k n : Int)) := by
  have h1 := Int.emod_lt_of_pos k (show (0 : Int) < (n : Int) by omega)
  have h2 := Int.emod_nonneg k (show (n : Int) ≠ 0 by omega)
  have ht : k.tmod n = k % n ∨ k.tmod n = k % n - n := by
    rw [Int.tmod_eq_emod]
    split
    · left; omega
    · right; omega
  have hp : (tpos k n : Int) = k % n := by unfold tpos; omega
  constructor
  · intro hk
    have e : k.tmod n + n = k % n := by rcases ht with h | h <;> omega
    rw [e, hp]
    exact IntWalk.wrap64_in _ (by omega)
  · intro hk
    rcases ht with h | h <;> omega
theorem turnl_nil (t : Nat) : turnl [] t = [] := rfl
theorem turnl_wf (xs : List Int) (t : Nat) : ∀ z ∈ turnl xs t, (Lit.int .u64 z).wf = true := by
  intro z hz
  unfold turnl at hz
  obtain ⟨x, _, rfl⟩ := List.mem_map.1 hz
  exact WalkArith.wf_u64 ⟨fm_lo _, fm_hi' _⟩
theorem revl_wf (xs : List Int) : ∀ z ∈ revl xs, (Lit.int .u64 z).wf = true := by
  intro z hz
  unfold revl at hz
  obtain ⟨x, _, rfl⟩ := List.mem_map.1 hz
  exact WalkArith.wf_u64 ⟨fm_lo _, fm_hi' _⟩
end Go.Proofs.Ytcfmiflhhjoofaa
