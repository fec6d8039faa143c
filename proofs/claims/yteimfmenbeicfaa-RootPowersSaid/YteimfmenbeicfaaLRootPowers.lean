/- RootPowers: powers of a number. -/
import Derived.Test.YteimfmenbeicfaaPowers
import Derived.Test.YteimfmenbeicfaaRoot
import Derived.Test.YteimfmenbeicfaaVecc
namespace Go.Proofs.Yteimfmenbeicfaa
open Go.ChangeShapes Go.WideShapes Go.ChangeAt Go.RowKit
set_option linter.unusedVariables false
namespace rootPowers

theorem c_powers (a : Int) (n : Nat) (w : World) (a0 : 0 ≤ a) (a1 : a ≤ 18446744073709551615) (hn : n ≤ 300) : Calls Try.prog 26 #[.int .u64 a, .int .i64 n] w (GivesOk w n (powl a n)) :=
  (root_powers a n w a0 a1 (by omega)).mono fun e w' ⟨he, hq, hb⟩ => ⟨_, _, he, Row.of_at hq (powl_wf a n) (powl_len a n) (by omega), hb⟩
theorem c_rpowers (a : Int) (n : Nat) (w : World) (hn : n ≤ 300) : Calls Try.prog 28 #[.int .u64 (fm a), .int .i64 n] w (Gives w n (powl a n)) :=
  (r4_powers (fm a) n w (fm_lo a) (fm_hi a) (by omega)).mono fun e w' ⟨v, he, hq, hb⟩ => by rw [powl_fm] at hq; exact gives_own he hq hb (powl_wf a n) (powl_len a n) (by omega)

set_option maxRecDepth 100000 in
theorem walk (W : World) (a : Int) (w0 : 0 ≤ a ∧ a ≤ 18446744073709551615) (n : Int) (w1 : -9223372036854775808 ≤ n ∧ n ≤ 9223372036854775807) :
    Calls Try.prog 6 #[.int .u64 a, .int .i64 n] W fun e W' => e = .returned (.bool true) ∧ Below W.heap.size W W' := by
  obtain ⟨a0, a1⟩ := w0
  obtain ⟨n0, n1⟩ := w1
  by_cases h1 : n < 0
  · have N := Lib.hid (root_powers_no a n W a0 a1 (.inl h1))
    have g1 : decide (300 < n) = false := decide_eq_false (by omega)
    have g2 : decide (n < 0) = true := decide_eq_true h1
    go_enter Try.func6, Try.ntmps6
    go_wp2_with fail
    refine N.out.mono ?_
    rintro e w1 ⟨rfl, rfl⟩
    go_wp2_with fail
    refine (live4 _).mono ?_
    rintro e w2 ⟨rfl, hb2⟩
    go_wp2_with fail
    go_ret
    exact ⟨rfl, hb2⟩
  by_cases h2 : 16777216 < n
  · have N := Lib.hid (root_powers_no a n W a0 a1 (.inr h2))
    have g1 : decide (300 < n) = true := decide_eq_true (by omega)
    have g2 : decide (n ≤ 16777216) = false := decide_eq_false (by omega)
    have g3 : decide (n < 0) = false := decide_eq_false h1
    have g4 : decide (16777216 < n) = true := decide_eq_true h2
    go_enter Try.func6, Try.ntmps6
    go_wp2_with fail
    refine N.out.mono ?_
    rintro e w1 ⟨rfl, rfl⟩
    go_wp2_with fail
    refine (live4 _).mono ?_
    rintro e w2 ⟨rfl, hb2⟩
    go_wp2_with fail
    go_ret
    exact ⟨rfl, hb2⟩
  by_cases h3 : 300 < n
  · have g1 : decide (300 < n) = true := decide_eq_true h3
    have g2 : decide (n ≤ 16777216) = true := decide_eq_true (by omega)
    go_enter Try.func6, Try.ntmps6
    go_wp2_with fail
    refine (live4 _).mono ?_
    rintro e w2 ⟨rfl, hb2⟩
    go_wp2_with fail
    go_ret
    exact ⟨rfl, hb2⟩
  obtain ⟨m, rfl⟩ : ∃ m : Nat, n = m := ⟨n.toNat, by omega⟩
  have hm : m ≤ 300 := by omega
  have g1 : decide (300 < (m : Int)) = false := decide_eq_false h3
  have g2 : decide ((m : Int) < 0) = false := decide_eq_false h1
  have g3 : decide (16777216 < (m : Int)) = false := decide_eq_false h2
  clear h1 h2 h3
  have P := Lib.hid (c_powers a m W a0 a1 hm)
  have RP := Lib.hid (fun w => c_rpowers a m w hm)
  go_enter Try.func6, Try.ntmps6
  go_wp2_with fail
  refine P.out.mono ?_
  rintro e w1 ⟨p, c, rfl, r1, b1⟩
  have R1 := Lib.hid r1
  clear r1
  go_wp2_with fail
  refine (r2_red _ _ a0 a1).mono ?_
  rintro e w2 ⟨rfl, rfl⟩
  go_wp2_with fail
  refine (RP.out _).mono ?_
  rintro e w2 ⟨q, d, rfl, r2, b2⟩
  have R2 := Lib.hid r2
  have R1' := Lib.hid (R1.out.below b2)
  clear r2 R1
  go_wp2_with fail
  refine (c_same R1'.out R2.out).mono ?_
  rintro e w3 ⟨rfl, b3⟩
  go_wp2_with fail
  refine (live4 _).mono ?_
  rintro e w4 ⟨rfl, b4⟩
  go_wp2_with fail
  go_ret
  exact ⟨rfl, (b1.trans (b2.mono b1.size)).trans ((b3.mono (by have := b1.size; have := b2.size; omega)).trans (b4.mono (by have := b1.size; have := b2.size; have := b3.size; omega)))⟩
end rootPowers
end Go.Proofs.Yteimfmenbeicfaa
