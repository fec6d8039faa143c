/- LoadCounts: the numbers of one call more. -/
import Derived.Test.YtfilbdmenlhoiaaLwh
namespace Go.Proofs.Ytfilbdmenlhoiaa
open Go.ChangeShapes Go.WideShapes Go.ChangeAt Go.RowKit
set_option linter.unusedVariables false
set_option linter.unusedSimpArgs false
theorem lastN_ok (x : Oi) (h : i64ok x.f ∧ i64ok x.t) : i64ok (lastN x) ∧ 0 ≤ lastN x := by
  obtain ⟨h1, h2⟩ := h
  unfold i64ok at *
  unfold lastN
  split
  · omega
  · split <;> omega
theorem oneN_ok (x : Oi) (h : i64ok x.f ∧ i64ok x.t) : (oneN x).ok ∧ 0 ≤ (oneN x).g := by
  have hl := lastN_ok x h
  unfold oneN
  split
  · exact ⟨⟨by unfold i64ok; simp, by unfold i64ok; simp, by unfold i64ok; simp, by unfold i64ok; simp⟩, Int.le_refl _⟩
  · refine ⟨⟨by unfold i64ok; simp, ?_, by unfold i64ok; simp, hl.1⟩, hl.2⟩
    simp only
    split <;> (unfold i64ok; omega)
theorem ladd_nought {s : Ld} (hs : s.ok ∧ 0 ≤ s.g) : ladd ⟨0, 0, 0, 0⟩ s = s := by
  obtain ⟨⟨h1, h2, h3, h4⟩, h5⟩ := hs
  obtain ⟨c, e, d, g⟩ := s
  simp only [ladd, Int.zero_add, wrap_id h1, wrap_id h2, wrap_id h3, Ld.mk.injEq, true_and]
  simp only at h5
  omega
theorem lsum_two {s y : Ld} (hs : s.ok ∧ 0 ≤ s.g) : lsum [s, y] = ladd s y := by
  unfold lsum
  rw [List.foldl_cons, List.foldl_cons, List.foldl_nil, ladd_nought hs]
/-- A call more: the program's way is the document's. -/
theorem ladd_one {s : Ld} (hs : s.ok ∧ 0 ≤ s.g) (x : Oi) : ladd s (oneN x) = ofS s x := by
  obtain ⟨⟨h1, h2, h3, h4⟩, h5⟩ := hs
  unfold oneN ofS
  by_cases ht : x.t = -1
  · rw [if_pos ht, if_pos ht]
    simp only [ladd, Int.add_zero, wrap_id h2, wrap_id h3, Ld.mk.injEq, true_and]
    omega
  · rw [if_neg ht, if_neg ht]
    by_cases he : x.e = 0
    · simp only [ladd, if_pos he, Int.add_zero, wrap_id h2, Ld.mk.injEq, true_and]
      split <;> omega
    · simp only [ladd, if_neg he, Ld.mk.injEq, true_and]
      split <;> omega
theorem ofN_ok {l : List Oi} (h : ∀ x ∈ l, i64ok x.f ∧ i64ok x.t) : (ofN l).ok ∧ 0 ≤ (ofN l).g := by
  have : ∀ (l : List Oi) (s : Ld), (s.ok ∧ 0 ≤ s.g) → (∀ x ∈ l, i64ok x.f ∧ i64ok x.t) → (l.foldl ofS s).ok ∧ 0 ≤ (l.foldl ofS s).g := by
    intro l
    induction l with
    | nil => intro s hs _; exact hs
    | cons y l ih =>
      intro s hs hl
      refine ih _ ?_ (fun x hx => hl x (List.mem_cons_of_mem _ hx))
      rw [← ladd_one hs]
      exact ladd_ok hs (oneN_ok y (hl y (List.mem_cons_self ..))).1
  exact this l _ ⟨⟨by unfold i64ok; simp, by unfold i64ok; simp, by unfold i64ok; simp, by unfold i64ok; simp⟩, Int.le_refl _⟩ h
end Go.Proofs.Ytfilbdmenlhoiaa
