/- '==' between two numbers in digits. -/
import Derived.Test.YtlmaacbjbmhogaaWide3
import Derived.ChangeKeysEq
namespace Go.Proofs.Ytlmaacbjbmhogaa
open Go.ChangeShapes Go.WideShapes Go.ChangeAt Go.RowKit
set_option linter.unusedVariables false
theorem ints8 (a0 a1 a2 a3 a4 a5 a6 a7 b0 b1 b2 b3 b4 b5 b6 b7 : Int) (w : World) :
    (Op.equalIn 10000 27 (.agg #[.int .i64 a0, .int .i64 a1, .int .i64 a2, .int .i64 a3, .int .i64 a4, .int .i64 a5, .int .i64 a6, .int .i64 a7]) (.agg #[.int .i64 b0, .int .i64 b1, .int .i64 b2, .int .i64 b3, .int .i64 b4, .int .i64 b5, .int .i64 b6, .int .i64 b7])).run Try.prog w = .ok (a0 == b0 && (a1 == b1 && (a2 == b2 && (a3 == b3 && (a4 == b4 && (a5 == b5 && (a6 == b6 && (a7 == b7)))))))) w := by
  obtain ⟨i, hi, _, _, _⟩ := info_parts info_i64
  have hc : Try.prog.cellsOf 3 = 1 := by kernel_rfl
  rw [run_equalIn_array w 9999 _ _ Try.underlying27 hi, hc]
  have h8 : List.range 8 = [0, 1, 2, 3, 4, 5, 6, 7] := by decide
  rw [h8]
  have hp : ∀ (xs : Array Value) (j : Nat) (w : World) (h : j < xs.size), (part 3 xs j).run Try.prog w = .ok xs[j] w := by
    intro xs j w h
    exact run_part_plain w (by kernel_rfl) (Array.getElem?_eq_getElem h)
  have hu := Try.underlying3
  have he : ∀ (a b : Int) (w : World), (Op.equalIn 9999 3 (.int .i64 a) (.int .i64 b)).run Try.prog w = .ok (a == b) w := fun a b w => run_equalIn_int w 9998 3 .i64 .i64 a b hu
  simp [Op.eqItems, Sem.run_bind, hp, he]
  repeat' split
  all_goals simp_all
/-- '==' and '!=' between two numbers in digits. -/
theorem eql_D (m n : Nat) (w : World) : (Op.equalIn 10000 27 (.agg (D m)) (.agg (D n))).run Try.prog w = .ok (decide (dl m = dl n)) w := by
  have := ints8 (dg m 0) (dg m 1) (dg m 2) (dg m 3) (dg m 4) (dg m 5) (dg m 6) (dg m 7) (dg n 0) (dg n 1) (dg n 2) (dg n 3) (dg n 4) (dg n 5) (dg n 6) (dg n 7) w
  have e : (dg m 0 == dg n 0 && (dg m 1 == dg n 1 && (dg m 2 == dg n 2 && (dg m 3 == dg n 3 && (dg m 4 == dg n 4 && (dg m 5 == dg n 5 && (dg m 6 == dg n 6 && (dg m 7 == dg n 7)))))))) = decide (dl m = dl n) := by
    rw [Bool.eq_iff_iff]
    simp [dl]
  rw [e] at this
  exact this
theorem eql_D_same {m n : Nat} (h : dl m = dl n) (w : World) : (Op.equalIn 10000 27 (.agg (D m)) (.agg (D n))).run Try.prog w = .ok true w := by
  rw [eql_D, decide_eq_true h]

end Go.Proofs.Ytlmaacbjbmhogaa
