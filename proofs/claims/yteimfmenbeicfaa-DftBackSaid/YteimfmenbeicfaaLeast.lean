/- The reference's Least. -/
import Derived.Test.YteimfmenbeicfaaPowm
import Derived.Test.YteimfmenbeicfaaRefb
import Derived.Test.YteimfmenbeicfaaVecc
namespace Go.Proofs.Yteimfmenbeicfaa
open Go.ChangeShapes Go.WideShapes Go.ChangeAt Go.RowKit
set_option linter.unusedVariables false

/-- The primes of P - 1. -/
def qsl : List Int := [2, 3, 5, 17, 257, 65537]
theorem qsl_at : ∀ i, i < 6 → 2 ≤ qsl.getD i 0 ∧ qsl.getD i 0 ≤ 65537 := by decide
theorem qsl_wf : ∀ z ∈ qsl, (Lit.int .u64 z).wf = true := by decide

set_option maxRecDepth 100000 in
theorem r4_least (a : Int) (k : Int) (w : World) (a0 : 0 ≤ a) (a1 : a ≤ 18446744069414584320) (k1 : 1 ≤ k) (k2 : k ≤ 18446744073709551615)
    (hd : 18446744069414584320 % k = 0) (ho : fm (a ^ k.toNat) = 1) (hq : ∀ i, i < 6 → k % qsl.getD i 0 = 0 → fm (a ^ (k / qsl.getD i 0).toNat) ≠ 1) :
    Calls Try.prog 22 #[.int .u64 a, .int .u64 k] w fun e w' => e = .returned (.bool true) ∧ Below w.heap.size w w' := by
  have HQ := Lib.hid hq
  have hkz : (k == 0) = false := by simp; omega
  have hdd : ((18446744069414584320 : Int) % k == 0) = true := by simpa using hd
  have P := Lib.hid (fun (n : Nat) w (h : n ≤ 18446744073709551615) => r2_pow a n w a0 a1 h)
  have HO := Lib.hid ho
  have r1 : RowAt (w.alloc (.cells #[.int .u64 2, .int .u64 3, .int .u64 5, .int .u64 17, .int .u64 257, .int .u64 65537] 22)) w.heap.size 22 qsl := by
    unfold RowAt; rw [heap_alloc_new]; rfl
  have R1 := Lib.hid (Row.of_at r1 qsl_wf (n := 6) rfl (by omega))
  have hB : Below w.heap.size w (w.alloc (.cells #[.int .u64 2, .int .u64 3, .int .u64 5, .int .u64 17, .int .u64 257, .int .u64 65537] 22)) := (Below.refl _ _).alloc (Nat.le_refl _) _
  clear hq hd ho r1
  go_enter Try.func22, Try.ntmps22
  go_wp2_with fail
  generalize w.alloc (.cells #[.int .u64 2, .int .u64 3, .int .u64 5, .int .u64 17, .int .u64 257, .int .u64 65537] 22) = W1 at *
  go_loopw [6] (fun i wr => ∃ j : Nat, j ≤ 6 ∧ i = .int .i64 j ∧ Hid (Row wr (some ⟨w.heap.size, 0, none⟩) 6 qsl) ∧ Below w.heap.size w wr) (fun i _ => 6 - (intOf i).toNat)
  case atStart => exact ⟨0, Nat.zero_le _, rfl, R1, hB⟩
  case round =>
    clear R1 hB
    obtain ⟨j, hj, rfl, R1, hB⟩ := hrel
    by_cases hlt : j < 6
    · obtain ⟨b, off, he, hb, hc, _, _⟩ := R1.out.cell hlt
      cases he
      rw [Nat.zero_add] at hc
      obtain ⟨q0, q1⟩ := qsl_at j hlt
      have HJ := Lib.hid (HQ.out j hlt)
      generalize qsl.getD j 0 = q at *
      have hqz : (q == 0) = false := by simp; omega
      by_cases hkq : k % q = 0
      · have hm : (k % q == 0) = true := by simpa using hkq
        have d0 : 0 ≤ k / q := Int.ediv_nonneg (by omega) (by omega)
        have d1 : k / q ≤ k := Int.ediv_le_self _ (by omega)
        have hne : (fm (a ^ (k / q).toNat) == 1) = false := by simpa using HJ.out hkq
        have HP := Lib.hid (fun w => P.out (k / q).toNat w (by omega))
        have HE := Lib.hid (show ((k / q).toNat : Int) = k / q by omega)
        clear hkq
        generalize fm (a ^ (k / q).toNat) = v at *
        go_wp2_with fail
        rw [← HE.out]
        refine (HP.out _).mono ?_
        rintro e w1 ⟨rfl, rfl⟩
        go_wp2_with fail
        go_roundw
        case rel => exact ⟨j + 1, by omega, by go_num, R1, hB⟩
        case measure => (first | (simp [intOf]; done) | (simp [intOf]; omega) | (simp only [intOf]; omega))
      · have hm : (k % q == 0) = false := by simpa using hkq
        clear hkq
        go_wp2_with fail
        go_roundw
        case rel => exact ⟨j + 1, by omega, by go_num, R1, hB⟩
        case measure => (first | (simp [intOf]; done) | (simp [intOf]; omega) | (simp only [intOf]; omega))
    · obtain rfl : j = 6 := by omega
      go_wp2_with fail
      have HE := Lib.hid (show (k.toNat : Int) = k by omega)
      have HP := Lib.hid (fun w => P.out k.toNat w (by omega))
      rw [HO.out] at HP
      rw [← HE.out]
      refine (HP.out _).mono ?_
      rintro e w1 ⟨rfl, rfl⟩
      go_wp2_with fail
      go_ret
      exact ⟨rfl, hB⟩
end Go.Proofs.Yteimfmenbeicfaa
