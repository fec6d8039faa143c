/- root.Order. -/
import Derived.Test.YteimfmenbeicfaaLeast
import Derived.Test.YteimfmenbeicfaaGoldp
import Derived.Test.YteimfmenbeicfaaGold
namespace Go.Proofs.Yteimfmenbeicfaa
open Go.ChangeShapes Go.WideShapes Go.ChangeAt Go.RowKit
set_option linter.unusedVariables false

/-- k is a power to which a is 1, of those that divide P - 1; and no part of it by one of the first j primes is. -/
def OrdOk (a k : Int) (j : Nat) : Prop := 1 ≤ k ∧ 18446744069414584320 % k = 0 ∧ fm (a ^ k.toNat) = 1 ∧ ∀ i, i < j → k % qsl.getD i 0 = 0 → fm (a ^ (k / qsl.getD i 0).toNat) ≠ 1
theorem OrdOk.le {a k : Int} {j : Nat} (h : OrdOk a k j) : k ≤ 18446744069414584320 := Int.le_of_dvd (by omega) (Int.dvd_of_emod_eq_zero h.2.1)
theorem ord_start (a : Int) (h : fm a ≠ 0) : OrdOk a 18446744069414584320 0 := by
  refine ⟨by omega, by decide, ?_, fun i hi => by omega⟩
  have := Fld.fm_fermat a h
  exact this
theorem ord_next {a k : Int} {j : Nat} (h : OrdOk a k j) (hq : k % qsl.getD j 0 = 0 → fm (a ^ (k / qsl.getD j 0).toNat) ≠ 1) : OrdOk a k (j + 1) := by
  obtain ⟨h1, h2, h3, h4⟩ := h
  refine ⟨h1, h2, h3, fun i hi => ?_⟩
  by_cases e : i = j
  · subst e; exact hq
  · exact h4 i (by omega)
theorem ord_div {a k q : Int} {j : Nat} (hj : j ≤ 6) (h : OrdOk a k j) (hq : 1 ≤ q) (hk : k % q = 0) (ho : fm (a ^ (k / q).toNat) = 1) : OrdOk a (k / q) j := by
  obtain ⟨h1, h2, h3, h4⟩ := h
  obtain ⟨m, hm⟩ := Int.dvd_of_emod_eq_zero hk
  have e1 : k / q = m := by rw [hm, Int.mul_ediv_cancel_left _ (by omega)]
  rw [e1] at ho ⊢
  have hm1 : 1 ≤ m := by
    by_cases hneg : m ≤ 0
    · have : q * m ≤ 0 := Int.mul_nonpos_of_nonneg_of_nonpos (by omega) hneg
      omega
    · omega
  have hdm : m ∣ 18446744069414584320 := Int.dvd_trans ⟨q, by rw [hm, Int.mul_comm]⟩ (Int.dvd_of_emod_eq_zero h2)
  refine ⟨hm1, Int.emod_eq_zero_of_dvd hdm, ho, fun i hi hz he => ?_⟩
  have hs := (qsl_at i (by omega)).1
  have h5 := h4 i hi
  generalize qsl.getD i 0 = s at *
  obtain ⟨t, ht⟩ := Int.dvd_of_emod_eq_zero hz
  have e2 : m / s = t := by rw [ht, Int.mul_ediv_cancel_left _ (by omega)]
  rw [e2] at he
  have hks : k = s * (q * t) := by rw [hm, ht]; grind
  have e3 : k / s = q * t := by rw [hks, Int.mul_ediv_cancel_left _ (by omega)]
  have hz2 : k % s = 0 := by rw [hks]; exact Int.mul_emod_right _ _
  have ht0 : 0 ≤ t := by
    rw [← e2]; exact Int.ediv_nonneg (by omega) (by omega)
  refine h5 hz2 ?_
  rw [e3, Int.toNat_mul (by omega) ht0, Nat.mul_comm, Int.pow_mul, ← Fld.fm_pow1, he, Int.one_pow]
  rfl

theorem root_primes (w : World) : Calls Try.prog 60 #[] w fun e w' => e = .returned (.slice (some ⟨w.heap.size, 0, none⟩) 6 6) ∧ Reads .i64 w' (some ⟨w.heap.size, 0, none⟩) qsl ∧ Below w.heap.size w w' := by
  go_enter Try.func60, Try.ntmps60
  go_wp2_with fail
  go_ret
  refine ⟨rfl, .inr ⟨w.heap.size, 0, rfl, by simp, fun i hi => ?_⟩, (Below.refl _ _).alloc (Nat.le_refl _) _⟩
  rw [cell_of_row _ w.heap.size (0 + i) _ _ _ (heap_alloc_new _ _)]
  have hi6 : i < 6 := hi
  have h6 : i = 0 ∨ i = 1 ∨ i = 2 ∨ i = 3 ∨ i = 4 ∨ i = 5 := by omega
  rcases h6 with rfl | rfl | rfl | rfl | rfl | rfl <;> rfl
theorem root_order_zero (a : Int) (w : World) (a0 : 0 ≤ a) (a1 : a ≤ 18446744073709551615) (h : fm a = 0) : Calls Try.prog 24 #[.int .u64 a] w fun e w' => e = .returned (.tuple #[.int .u64 0, .int .i64 2]) ∧ Below w.heap.size w w' := by
  have R := gold_red a w a0 a1
  rw [h] at R
  have R := Lib.hid R
  have hB := Below.refl w.heap.size w
  go_enter Try.func24, Try.ntmps24
  go_wp2_with fail
  refine R.out.mono ?_
  rintro e w1 ⟨rfl, rfl⟩
  go_wp2_with fail
  go_ret2
  exact ⟨rfl, hB⟩
set_option maxRecDepth 100000 in
theorem root_order (a : Int) (w : World) (a0 : 0 ≤ a) (a1 : a ≤ 18446744073709551615) (h : fm a ≠ 0) : Calls Try.prog 24 #[.int .u64 a] w fun e w' => ∃ k, e = .returned (.tuple #[.int .u64 k, .int .i64 0]) ∧ OrdOk a k 6 ∧ Below w.heap.size w w' := by
  have R := Lib.hid (gold_red a w a0 a1)
  have hq : (fm a == 0) = false := by simpa using h
  have S := Lib.hid (ord_start a h)
  have P := Lib.hid (fun (n : Nat) w (h : n ≤ 18446744073709551615) => gold_pow a n w a0 a1 h)
  have hB := Below.refl w.heap.size w
  clear h
  go_enter Try.func24, Try.ntmps24
  go_wp2_with fail
  refine R.out.mono ?_
  rintro e w1 ⟨rfl, rfl⟩
  go_wp2_with fail
  refine (root_primes _).mono ?_
  rintro e w1 ⟨rfl, r1, b1⟩
  have R1 := Lib.hid r1
  clear r1 R
  go_wp2_with fail
  go_loopw [4, 12] (fun o i wr => ∃ (j : Nat) (k : Int), j ≤ 6 ∧ i = .int .i64 j ∧ o = .int .u64 k ∧ Hid (OrdOk a k j) ∧ Hid (Reads .i64 wr (some ⟨w.heap.size, 0, none⟩) qsl) ∧ Below w.heap.size w wr) (fun _ i _ => 6 - (intOf i).toNat)
  case atStart => exact ⟨0, _, Nat.zero_le _, rfl, rfl, S, R1, b1⟩
  case round =>
    clear R1 S b1
    obtain ⟨j, k, hj, rfl, rfl, OK, R1, hB⟩ := hrel
    by_cases hlt : j < 6
    · obtain ⟨q0, q1⟩ := qsl_at j hlt
      obtain ⟨q, hqj⟩ : ∃ q, qsl.getD j 0 = q := ⟨_, rfl⟩
      have HQ := Lib.hid hqj
      rw [hqj] at q0 q1
      have hc : wr.cell? ⟨w.heap.size, j, none⟩ = some (.int .i64 q) := by
        rcases R1.out with hn | ⟨b, off, he, hb, hcell⟩
        · cases hn
        · cases he
          have := hcell j hlt
          rw [Nat.zero_add, hqj] at this
          exact this
      clear hqj
      have hqz : (q == 0) = false := by simp; omega
      have hd6 : decide ((j : Int) < 6) = true := decide_eq_true (by omega)
      go_wp2_with fail
      go_loopw [4] (fun o wr2 => ∃ k2, o = .int .u64 k2 ∧ Hid (OrdOk a k2 j) ∧ Hid (Reads .i64 wr2 (some ⟨w.heap.size, 0, none⟩) qsl) ∧ Below w.heap.size w wr2) (fun o _ => (intOf o).toNat)
      case atStart => exact ⟨k, rfl, OK, R1, hB⟩
      case round =>
        clear OK R1 hB hc
        obtain ⟨k2, rfl, OK, R1, hB⟩ := hrel
        have p1 := OK.out.1
        have p2 := OK.out.le
        by_cases hkq : k2 % q = 0
        · have hm : (k2 % q == 0) = true := by simpa using hkq
          have d0 : 0 ≤ k2 / q := Int.ediv_nonneg (by omega) (by omega)
          have d1 : k2 / q ≤ k2 := Int.ediv_le_self _ (by omega)
          have HP := Lib.hid (fun w => P.out (k2 / q).toNat w (by omega))
          have HE := Lib.hid (show ((k2 / q).toNat : Int) = k2 / q by omega)
          by_cases hv : fm (a ^ (k2 / q).toNat) = 1
          · have HO := Lib.hid (ord_div (by omega) OK.out (by omega) hkq hv)
            have d2 := HO.out.1
            have d3 : k2 / q < k2 := Int.ediv_lt_of_lt_mul (by omega) (by
              have : k2 * 2 ≤ k2 * q := Int.mul_le_mul_of_nonneg_left (by omega) (by omega)
              omega)
            rw [hv] at HP
            clear hkq hv
            go_wp2_with fail
            rw [← HE.out]
            refine (HP.out _).mono ?_
            rintro e w2 ⟨rfl, b2⟩
            have R2 := Lib.hid (R1.out.below b2)
            have hB2 := hB.trans (b2.mono hB.size)
            go_wp2_with fail
            go_roundw
            case rel => exact ⟨_, rfl, HO, R2, hB2⟩
            case measure => (first | (simp [intOf]; done) | (simp [intOf]; omega) | (simp only [intOf]; omega))
          · have HO := Lib.hid (ord_next (j := j) OK.out (by rw [HQ.out]; exact fun _ => hv))
            have hv1 : (fm (a ^ (k2 / q).toNat) == 1) = false := by simpa using hv
            clear hkq hv
            generalize fm (a ^ (k2 / q).toNat) = v at *
            go_wp2_with fail
            rw [← HE.out]
            refine (HP.out _).mono ?_
            rintro e w2 ⟨rfl, b2⟩
            have R2 := Lib.hid (R1.out.below b2)
            have hB2 := hB.trans (b2.mono hB.size)
            go_wp2_with fail
            go_roundw
            case rel => exact ⟨j + 1, k2, by omega, by go_num, rfl, HO, R2, hB2⟩
            case measure => (first | (simp [intOf]; done) | (simp [intOf]; omega) | (simp only [intOf]; omega))
        · have HO := Lib.hid (ord_next (j := j) OK.out (by rw [HQ.out]; exact fun h => absurd h hkq))
          have hm : (k2 % q == 0) = false := by simpa using hkq
          clear hkq
          go_wp2_with fail
          go_roundw
          case rel => exact ⟨j + 1, k2, by omega, by go_num, rfl, HO, R1, hB⟩
          case measure => (first | (simp [intOf]; done) | (simp [intOf]; omega) | (simp only [intOf]; omega))
    · obtain rfl : j = 6 := by omega
      go_wp2_with fail
      go_ret2
      exact ⟨_, rfl, OK.out, hB⟩
end Go.Proofs.Yteimfmenbeicfaa
