/- GoldPowers: powers and inverses. -/
import Derived.Test.YtmledddhknphkaaLGoldTells
namespace Go.Proofs.Ytmledddhknphkaa
open Go.ChangeShapes Go.WideShapes Go.ChangeAt Go.RowKit
set_option linter.unusedVariables false
namespace goldPowers

theorem walk (W : World) (a : Int) (w0 : 0 ≤ a ∧ a ≤ 18446744073709551615) (n : Int) (w1 : 0 ≤ n ∧ n ≤ 18446744073709551615) :
    Calls Try.prog 7 #[.int .u64 a, .int .u64 n] W fun e W' => e = .returned (.bool true) ∧ Below W.heap.size W W' := by
  obtain ⟨l0, h0⟩ := w0
  obtain ⟨l1, h1⟩ := w1
  obtain ⟨n, rfl⟩ := Int.eq_ofNat_of_zero_le l1
  have hn : n ≤ 18446744073709551615 := by omega
  have i0 : 0 ≤ finv a := fm_lo _
  have i1 : finv a ≤ 18446744069414584320 := fm_hi _
  have hB := Below.refl W.heap.size W
  have q0 : finv a < 18446744069414584321 := by omega
  by_cases hz : fm a = 0
  · have q1 : (fm a == 0) = true := by simpa using hz
    have q2' : finv a = 0 := Fld.inv_zero a hz
    have q2 : (finv a == 0) = true := by rw [q2']; rfl
    clear q2'
    clear hz
    go_enter Try.func7, Try.ntmps7
    go_wp2_with (first | (go_at_call 32; (with_reducible refine (r2_red _ _ l0 h0).mono ?_); rintro e w' ⟨rfl, rfl⟩) | (go_at_call 44; (with_reducible refine (gold_inv _ _ l0 h0).mono ?_); rintro e w' ⟨rfl, hb⟩; replace hB := hB.trans (hb.mono hB.size); clear hb) | (go_at_call 45; (with_reducible refine (gold_pow _ _ _ l0 h0 hn).mono ?_); rintro e w' ⟨rfl, hb⟩; replace hB := hB.trans (hb.mono hB.size); clear hb) | (go_at_call 46; (with_reducible refine (r2_powf _ _ _ hn).mono ?_); rintro e w' ⟨rfl, rfl⟩) | (go_at_call 43; (with_reducible refine (live2 _).mono ?_); rintro e w' ⟨rfl, hb⟩; replace hB := hB.trans (hb.mono hB.size); clear hb))
    go_ret
    exact ⟨rfl, hB⟩
  · have q1 : (fm a == 0) = false := by simpa using hz
    have hi : fm (finv a * a) = 1 := Fld.inv_mul a hz
    have m : ∀ w, Calls Try.prog 41 #[.int .u64 (finv a), .int .u64 (fm a)] w fun e w' => e = .returned (.int .u64 1) ∧ w = w' := fun w => by
      have := r2_mulz (finv a) (fm a) w i0 (by omega) (fm_lo _) (fm_hi _)
      rwa [fm_mul_r, hi] at this
    have f : ∀ w, Calls Try.prog 45 #[.int .u64 a, .int .u64 18446744069414584320] w fun e w' => e = .returned (.int .u64 1) ∧ Below w.heap.size w w' := fun w => by
      have := gold_pow a Fld.p1 w l0 h0 (by decide +kernel)
      rw [Fld.fm_fermat a hz] at this
      exact this
    have M := Lib.hid m
    have F := Lib.hid f
    clear hz hi m f
    go_enter Try.func7, Try.ntmps7
    go_wp2_with (first | (go_at_call 32; (with_reducible refine (r2_red _ _ l0 h0).mono ?_); rintro e w' ⟨rfl, rfl⟩) | (go_at_call 44; (with_reducible refine (gold_inv _ _ l0 h0).mono ?_); rintro e w' ⟨rfl, hb⟩; replace hB := hB.trans (hb.mono hB.size); clear hb) | (go_at_call 45; (with_reducible refine (F.out _).mono ?_); rintro e w' ⟨rfl, hb⟩; replace hB := hB.trans (hb.mono hB.size); clear hb) | (go_at_call 45; (with_reducible refine (gold_pow _ _ _ l0 h0 hn).mono ?_); rintro e w' ⟨rfl, hb⟩; replace hB := hB.trans (hb.mono hB.size); clear hb) | (go_at_call 46; (with_reducible refine (r2_powf _ _ _ hn).mono ?_); rintro e w' ⟨rfl, rfl⟩) | (go_at_call 41; (with_reducible refine (M.out _).mono ?_); rintro e w' ⟨rfl, rfl⟩) | (go_at_call 43; (with_reducible refine (live2 _).mono ?_); rintro e w' ⟨rfl, hb⟩; replace hB := hB.trans (hb.mono hB.size); clear hb))
    go_ret
    exact ⟨rfl, hB⟩
end goldPowers
end Go.Proofs.Ytmledddhknphkaa
