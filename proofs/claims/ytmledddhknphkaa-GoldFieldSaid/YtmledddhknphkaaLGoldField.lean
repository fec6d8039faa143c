/- GoldField: the laws of a field. -/
import Derived.Test.YtmledddhknphkaaLGoldTells
namespace Go.Proofs.Ytmledddhknphkaa
open Go.ChangeShapes Go.WideShapes Go.ChangeAt Go.RowKit
set_option linter.unusedVariables false
namespace goldField
theorem inv_cancel (a b : Int) (h : fm b ≠ 0) : fm (fm (a * b) * finv b) = fm a := by
  have k := Fld.inv_mul b h
  have e : fm (fm (a * b) * finv b) = fm (a * fm (finv b * b)) := by
    rw [fm_mul_l, fm_mul_r]; congr 1; grind
  rw [e]
  have k' : fm (finv b * b) = 1 := k
  rw [k', Int.mul_one]

theorem walk (W : World) (a : Int) (w0 : 0 ≤ a ∧ a ≤ 18446744073709551615) (b : Int) (w1 : 0 ≤ b ∧ b ≤ 18446744073709551615) (c : Int) (w2 : 0 ≤ c ∧ c ≤ 18446744073709551615) :
    Calls Try.prog 9 #[.int .u64 a, .int .u64 b, .int .u64 c] W fun e W' => e = .returned (.bool true) ∧ Below W.heap.size W W' := by
  obtain ⟨l0, h0⟩ := w0
  obtain ⟨l1, h1⟩ := w1
  obtain ⟨l2, h2⟩ := w2
  have q1 : (fm (a + b) != fm (b + a)) = false := by rw [Int.add_comm]; simp
  have q2 : (fm (a * b) != fm (b * a)) = false := by rw [Int.mul_comm]; simp
  have q3 : (fm (fm (a * b) * c) != fm (a * fm (b * c))) = false := by rw [fm_mul_l, fm_mul_r, Int.mul_assoc]; simp
  have q4 : (fm (fm (a + b) + c) != fm (a + fm (b + c))) = false := by rw [fm_add_l, fm_add_r, Int.add_assoc]; simp
  have q5 : (fm (a * fm (b + c)) != fm (fm (a * b) + fm (a * c))) = false := by rw [fm_mul_r, fm_add_fm, Int.mul_add]; simp
  have q6 : (fm (a + fm (-a)) != 0) = false := by rw [fm_add_r, Int.add_right_neg]; decide
  have q7 : (fm (fm (a + b) - b) != fm a) = false := by rw [fm_sub_l, Int.add_sub_cancel]; simp
  have hB := Below.refl W.heap.size W
  by_cases hz : fm b = 0
  · have q8 : (fm b == 0) = true := by simpa using hz
    clear hz
    go_enter Try.func9, Try.ntmps9
    go_wp2_with (first | (go_at_call 34; (with_reducible refine (gold_add _ _ _ (by first | assumption | exact fm_lo _ | exact fm_hi' _) (by first | assumption | exact fm_lo _ | exact fm_hi' _) (by first | assumption | exact fm_lo _ | exact fm_hi' _) (by first | assumption | exact fm_lo _ | exact fm_hi' _)).mono ?_); rintro e w' ⟨rfl, rfl⟩) | (go_at_call 40; (with_reducible refine (gold_mul _ _ _ (by first | assumption | exact fm_lo _ | exact fm_hi' _) (by first | assumption | exact fm_lo _ | exact fm_hi' _) (by first | assumption | exact fm_lo _ | exact fm_hi' _) (by first | assumption | exact fm_lo _ | exact fm_hi' _)).mono ?_); rintro e w' ⟨rfl, hb⟩; replace hB := hB.trans (hb.mono hB.size); clear hb) | (go_at_call 38; (with_reducible refine (gold_neg _ _ (by first | assumption | exact fm_lo _ | exact fm_hi' _) (by first | assumption | exact fm_lo _ | exact fm_hi' _)).mono ?_); rintro e w' ⟨rfl, rfl⟩) | (go_at_call 36; (with_reducible refine (gold_sub _ _ _ (by first | assumption | exact fm_lo _ | exact fm_hi' _) (by first | assumption | exact fm_lo _ | exact fm_hi' _) (by first | assumption | exact fm_lo _ | exact fm_hi' _) (by first | assumption | exact fm_lo _ | exact fm_hi' _)).mono ?_); rintro e w' ⟨rfl, rfl⟩) | (go_at_call 33; (with_reducible refine (gold_red _ _ (by first | assumption | exact fm_lo _ | exact fm_hi' _) (by first | assumption | exact fm_lo _ | exact fm_hi' _)).mono ?_); rintro e w' ⟨rfl, rfl⟩) | (go_at_call 43; (with_reducible refine (live2 _).mono ?_); rintro e w' ⟨rfl, hb⟩; replace hB := hB.trans (hb.mono hB.size); clear hb))
    go_ret
    exact ⟨rfl, hB⟩
  · have q8 : (fm b == 0) = false := by simpa using hz
    have q9 : (fm (fm (a * b) * finv b) == fm a) = true := by simpa using inv_cancel a b hz
    clear hz
    have i0 : 0 ≤ finv b := fm_lo _
    have i1 : finv b ≤ 18446744073709551615 := fm_hi' _
    go_enter Try.func9, Try.ntmps9
    go_wp2_with (first | (go_at_call 34; (with_reducible refine (gold_add _ _ _ (by first | assumption | exact fm_lo _ | exact fm_hi' _) (by first | assumption | exact fm_lo _ | exact fm_hi' _) (by first | assumption | exact fm_lo _ | exact fm_hi' _) (by first | assumption | exact fm_lo _ | exact fm_hi' _)).mono ?_); rintro e w' ⟨rfl, rfl⟩) | (go_at_call 40; (with_reducible refine (gold_mul _ _ _ (by first | assumption | exact fm_lo _ | exact fm_hi' _) (by first | assumption | exact fm_lo _ | exact fm_hi' _) (by first | assumption | exact fm_lo _ | exact fm_hi' _) (by first | assumption | exact fm_lo _ | exact fm_hi' _)).mono ?_); rintro e w' ⟨rfl, hb⟩; replace hB := hB.trans (hb.mono hB.size); clear hb) | (go_at_call 38; (with_reducible refine (gold_neg _ _ (by first | assumption | exact fm_lo _ | exact fm_hi' _) (by first | assumption | exact fm_lo _ | exact fm_hi' _)).mono ?_); rintro e w' ⟨rfl, rfl⟩) | (go_at_call 36; (with_reducible refine (gold_sub _ _ _ (by first | assumption | exact fm_lo _ | exact fm_hi' _) (by first | assumption | exact fm_lo _ | exact fm_hi' _) (by first | assumption | exact fm_lo _ | exact fm_hi' _) (by first | assumption | exact fm_lo _ | exact fm_hi' _)).mono ?_); rintro e w' ⟨rfl, rfl⟩) | (go_at_call 33; (with_reducible refine (gold_red _ _ (by first | assumption | exact fm_lo _ | exact fm_hi' _) (by first | assumption | exact fm_lo _ | exact fm_hi' _)).mono ?_); rintro e w' ⟨rfl, rfl⟩) | (go_at_call 44; (with_reducible refine (gold_inv _ _ (by first | assumption | exact fm_lo _ | exact fm_hi' _) (by first | assumption | exact fm_lo _ | exact fm_hi' _)).mono ?_); rintro e w' ⟨rfl, hb⟩; replace hB := hB.trans (hb.mono hB.size); clear hb) | (go_at_call 43; (with_reducible refine (live2 _).mono ?_); rintro e w' ⟨rfl, hb⟩; replace hB := hB.trans (hb.mono hB.size); clear hb))
    go_ret
    exact ⟨rfl, hB⟩
end goldField
end Go.Proofs.Ytmledddhknphkaa
