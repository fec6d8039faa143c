/- GoldTells: sums, differences, products, the opposite and half, as the document says. -/
import Derived.Test.YtmledddhknphkaaGoldp
import Derived.Test.YtmledddhknphkaaRefb
namespace Go.Proofs.Ytmledddhknphkaa
open Go.ChangeShapes Go.WideShapes Go.ChangeAt Go.RowKit
set_option linter.unusedVariables false
set_option linter.unusedVariables false

/-- The inverse of two. -/
theorem finv_two : finv 2 = 9223372034707292161 := by
  have h := Fld.inv_mul 2 (by decide)
  have k : fm (9223372034707292161 * 2) = 1 := by decide
  have := Fld.inv_unique 2 _ _ h k
  rw [fm_fm] at this
  exact this.trans (by decide)

theorem live2 (w : World) : Calls Try.prog 43 #[] w fun e w' => e = .returned (.bool true) ∧ Below w.heap.size w w' := by
  have m : ∀ w, Calls Try.prog 40 #[.int .u64 4294967296, .int .u64 4294967296] w fun e w' => e = .returned (.int .u64 4294967295) ∧ Below w.heap.size w w' := fun w => by
    have := gold_mul 4294967296 4294967296 w (by decide) (by decide) (by decide) (by decide)
    rwa [show fm (4294967296 * 4294967296) = 4294967295 from by decide] at this
  have i : ∀ w1, Calls Try.prog 44 #[.int .u64 2] w1 fun e w' => e = .returned (.int .u64 9223372034707292161) ∧ Below w1.heap.size w1 w' := fun w1 => by
    have := gold_inv 2 w1 (by decide) (by decide)
    rwa [finv_two] at this
  have M := Lib.hid m
  have I := Lib.hid i
  clear m i
  have hB := Below.refl w.heap.size w
  go_enter Try.func43, Try.ntmps43
  go_wp2_with (first | (go_at_call 40; (with_reducible refine (M.out _).mono ?_); rintro e w' ⟨rfl, hb⟩; replace hB := hB.trans (hb.mono hB.size); clear hb) | (go_at_call 44; (with_reducible refine (I.out _).mono ?_); rintro e w' ⟨rfl, hb⟩; replace hB := hB.trans (hb.mono hB.size); clear hb))
  go_ret
  exact ⟨rfl, hB⟩

namespace goldTells
theorem walk (W : World) (a0 : Int) (w0 : 0 ≤ a0 ∧ a0 ≤ 18446744073709551615) (a1 : Int) (w1 : 0 ≤ a1 ∧ a1 ≤ 18446744073709551615) :
    Calls Try.prog 6 #[.int .u64 a0, .int .u64 a1] W fun e W' => e = .returned (.bool true) ∧ Below W.heap.size W W' := by
  obtain ⟨l0, h0⟩ := w0
  obtain ⟨l1, h1⟩ := w1
  have hB := Below.refl W.heap.size W
  obtain ⟨f0, f1, f2⟩ := hlf_ok (fm a0) (fm_lo _) (fm_hi _)
  have hH : ∀ w, Calls Try.prog 35 #[.int .u64 (hlf (fm a0)), .int .u64 (hlf (fm a0))] w fun e w' => e = .returned (.int .u64 (fm a0)) ∧ w = w' := fun w => by
    have := r2_add _ _ w f0 f1 f0 f1
    rwa [f2] at this
  have HH := Lib.hid hH
  clear hH f2
  go_enter Try.func6, Try.ntmps6
  go_wp2_with (first | (go_at_call 32; (with_reducible refine (r2_red _ _ (by assumption) (by assumption)).mono ?_); rintro e w' ⟨rfl, rfl⟩) | (go_at_call 33; (with_reducible refine (gold_red _ _ (by assumption) (by assumption)).mono ?_); rintro e w' ⟨rfl, rfl⟩) | (go_at_call 34; (with_reducible refine (gold_add _ _ _ l0 h0 l1 h1).mono ?_); rintro e w' ⟨rfl, rfl⟩) | (go_at_call 35; (with_reducible refine (r2_addf _ _ _).mono ?_); rintro e w' ⟨rfl, rfl⟩) | (go_at_call 35; (with_reducible refine (HH.out _).mono ?_); rintro e w' ⟨rfl, rfl⟩) | (go_at_call 36; (with_reducible refine (gold_sub _ _ _ l0 h0 l1 h1).mono ?_); rintro e w' ⟨rfl, rfl⟩) | (go_at_call 37; (with_reducible refine (r2_subf _ _ _).mono ?_); rintro e w' ⟨rfl, rfl⟩) | (go_at_call 38; (with_reducible refine (gold_neg _ _ l0 h0).mono ?_); rintro e w' ⟨rfl, rfl⟩) | (go_at_call 39; (with_reducible refine (r2_negf _ _).mono ?_); rintro e w' ⟨rfl, rfl⟩) | (go_at_call 40; (with_reducible refine (gold_mul _ _ _ l0 h0 l1 h1).mono ?_); rintro e w' ⟨rfl, hb⟩; replace hB := hB.trans (hb.mono hB.size); clear hb) | (go_at_call 41; (with_reducible refine (r2_mulf _ _ _).mono ?_); rintro e w' ⟨rfl, rfl⟩) | (go_at_call 42; (with_reducible refine (gold_half _ _ l0 h0).mono ?_); rintro e w' ⟨rfl, rfl⟩) | (go_at_call 43; (with_reducible refine (live2 _).mono ?_); rintro e w' ⟨rfl, hb⟩; replace hB := hB.trans (hb.mono hB.size); clear hb))
  go_ret
  exact ⟨rfl, hB⟩
end goldTells
end Go.Proofs.Ytmledddhknphkaa
