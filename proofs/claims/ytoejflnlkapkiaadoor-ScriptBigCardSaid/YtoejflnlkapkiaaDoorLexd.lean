/- Reference 22's Tokens: one run behind the other. -/
import Derived.Test.YtoejflnlkapkiaaDoorLexc
namespace Go.Proofs.YtoejflnlkapkiaaDoor
open Go.ChangeShapes Go.WideShapes Go.ChangeAt Go.RowKit
set_option linter.unusedVariables false
set_option linter.unusedSimpArgs false

theorem idx_at (s : ByteArray) (i : Nat) (h : i < s.size) (wx : World) : (Instr.index 9 (.string s) (.int .i64 (i : Int))).run Tryd.prog wx = .ok (.int .u8 (bt s i)) wx := by
  rw [run_index_string wx _ s .i64 i Tryd.underlying9, dif_pos ⟨by omega, by omega⟩]
  simp [bt_eq]
theorem sub_at (s : ByteArray) (a b : Nat) (h1 : a ≤ b) (h2 : b ≤ s.size) (wx : World) : (Instr.slice 9 (.string s) (some (.int .i64 (a : Int))) (some (.int .i64 (b : Int))) none).run Tryd.prog wx = .ok (.string (s.extract a b)) wx := by
  have := run_slice_string (P := Tryd.prog) wx 9 s .i64 .i64 (a : Int) (b : Int) Tryd.underlying9 (by omega) (by omega) (by omega)
  simpa using this

theorem tk_push {s : ByteArray} {i : Nat} {l : List (Int × Nat × Nat)} (h : tk s i = some l) (h0 : kd (bt s i) ≠ 0) (hb : ∀ k a b, l.getLast? = some (k, a, b) → kd (bt s i) = 3 ∨ k ≠ kd (bt s i)) : tk s (i + 1) = some (l ++ [(kd (bt s i), i, i + 1)]) := by
  simp only [tk, h, h0, if_false]
  rcases hl : l.getLast? with _ | ⟨k, a, b⟩
  · rfl
  · simp only
    rw [if_neg (by have := hb k a b hl; intro e; rcases this with h | h
                   · exact e.1 h
                   · exact h e.2)]
theorem tk_more {s : ByteArray} {i a : Nat} {k : Int} {l : List (Int × Nat × Nat)} (h : tk s i = some (l ++ [(k, a, i)])) (h0 : k ≠ 0) (h3 : k < 3) (hk : kd (bt s i) = k) : tk s (i + 1) = some (l ++ [(k, a, i + 1)]) := by
  simp only [tk, h, hk, h0, if_false, List.getLast?_concat]
  rw [if_pos (by constructor <;> first | omega | trivial)]
  simp

end Go.Proofs.YtoejflnlkapkiaaDoor
