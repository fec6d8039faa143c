/- lex.Tokens: byte by byte. -/
import Derived.Test.YtoejflnlkapkiaaDoorLexb
namespace Go.Proofs.YtoejflnlkapkiaaDoor
open Go.ChangeShapes Go.WideShapes Go.ChangeAt Go.RowKit
set_option linter.unusedVariables false
set_option linter.unusedSimpArgs false

theorem tk_len {s : ByteArray} : ∀ {i : Nat} {l : List (Int × Nat × Nat)}, tk s i = some l → l.length ≤ i ∧ ∀ k a b, l.getLast? = some (k, a, b) → a < i ∧ b = i ∧ k = kd (bt s (i - 1)) ∧ k ≠ 0 := by
  intro i
  induction i with
  | zero => intro l h; simp [tk] at h; subst h; simp
  | succ i ih =>
    intro l h
    simp only [tk] at h
    cases hp : tk s i with
    | none => simp [hp] at h
    | some m =>
      simp only [hp] at h
      by_cases h0 : kd (bt s i) = 0
      · simp [h0] at h
      · simp only [h0, if_false] at h
        have hm := ih hp
        rcases hl : m.getLast? with _ | ⟨k, a, b⟩
        · simp only [hl, Option.some.injEq] at h
          subst h
          refine ⟨by simp; omega, fun k a b h => ?_⟩
          rw [List.getLast?_concat] at h
          simp only [Option.some.injEq, Prod.mk.injEq] at h
          obtain ⟨rfl, rfl, rfl⟩ := h
          exact ⟨by omega, rfl, rfl, h0⟩
        · simp only [hl] at h
          have hml := hm.2 k a b hl
          have hne : m ≠ [] := by intro e; simp [e] at hl
          split at h
          · rename_i hc
            simp only [Option.some.injEq] at h; subst h
            have : 0 < m.length := List.length_pos_iff.2 hne
            refine ⟨by simp; omega, fun k' a' b' h => ?_⟩
            rw [List.getLast?_concat] at h
            simp only [Option.some.injEq, Prod.mk.injEq] at h
            obtain ⟨rfl, rfl, rfl⟩ := h
            exact ⟨by omega, rfl, hc.2, hml.2.2.2⟩
          · simp only [Option.some.injEq] at h; subst h
            refine ⟨by simp; omega, fun k' a' b' h => ?_⟩
            rw [List.getLast?_concat] at h
            simp only [Option.some.injEq, Prod.mk.injEq] at h
            obtain ⟨rfl, rfl, rfl⟩ := h
            exact ⟨by omega, rfl, rfl, h0⟩

theorem encT_set (s : ByteArray) (m : List (Int × Nat × Nat)) (k : Int) (a b b' : Nat) : (encT s (m ++ [(k, a, b)])).set (m.length * 3 + 1) (.string (s.extract a b')) = encT s (m ++ [(k, a, b')]) := by
  rw [encT_append, encT_append, List.set_append_right _ _ (by rw [encT_len]; omega), encT_len]
  simp [encT]
theorem iterPos_of {w : World} {k p : Nat} {s : ByteArray} (h : w.heap[k]? = some (.stringIter s p)) : w.iterPos k = p := by
  unfold World.iterPos; rw [h]

end Go.Proofs.YtoejflnlkapkiaaDoor
