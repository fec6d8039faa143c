/- root.Powers, and the reference's. -/
import Derived.Test.YtkijiljipacfjaaRoot
import Derived.Test.YtkijiljipacfjaaOwn
import Derived.Test.YtkijiljipacfjaaSum
namespace Go.Proofs.Ytkijiljipacfjaa
open Go.ChangeShapes Go.WideShapes Go.ChangeAt Go.RowKit
set_option linter.unusedVariables false
/-- a to the powers 0, 1, 2, .., n of them. -/
def powl (a : Int) (n : Nat) : List Int := (List.range n).map fun i => fm (a ^ i)
theorem powl_len (a : Int) (n : Nat) : (powl a n).length = n := by unfold powl; simp
theorem powl_at (a : Int) (n i : Nat) (h : i < n) : (powl a n).getD i 0 = fm (a ^ i) := by unfold powl; simp [List.getD, h]
theorem powl_wf (a : Int) (n : Nat) : ∀ z ∈ powl a n, (Lit.int .u64 z).wf = true := by
  intro z hz
  unfold powl at hz
  obtain ⟨x, _, rfl⟩ := List.mem_map.1 hz
  exact WalkArith.wf_u64 ⟨fm_lo _, fm_hi' _⟩
theorem powl_fm (a : Int) (n : Nat) : powl (fm a) n = powl a n := by
  unfold powl
  apply List.map_congr_left
  intro i _
  exact Fld.fm_pow1 a i
theorem pow_next (a : Int) (k : Nat) : fm (fm (a ^ k) * a) = fm (a ^ (k + 1)) := by rw [fm_mul_l, Int.pow_succ]

set_option maxRecDepth 100000 in
theorem root_powers (a : Int) (n : Nat) (w : World) (a0 : 0 ≤ a) (a1 : a ≤ 18446744073709551615) (hn : n ≤ 16777216) :
    Calls Try.prog 94 #[.int .u64 a, .int .i64 n] w fun e w' => e = .returned (.tuple #[.slice (some ⟨w.heap.size, 0, none⟩) n n, .int .i64 0]) ∧ RowAt w' w.heap.size 35 (powl a n) ∧ Below w.heap.size w w' := by
  have hmk := make_u64 n (by omega)
  have hd0 : decide ((n : Int) < 0) = false := decide_eq_false (by omega)
  have hd1 : decide (16777216 < (n : Int)) = false := decide_eq_false (by omega)
  have HL := Lib.hid (powl_len a n)
  have HA := Lib.hid (powl_at a n)
  have HO := Lib.hid (show (1 : Int) = fm (a ^ 0) by rw [Int.pow_zero]; rfl)
  go_enter Try.func94, Try.ntmps94
  go_wp2_with fail
  go_loopw [7, 19] (fun p i wr => ∃ k : Nat, k ≤ n ∧ i = .int .i64 k ∧ p = .int .u64 (fm (a ^ k)) ∧ Hid (Filling wr w.heap.size 35 (powl a n) k n) ∧ Below w.heap.size w wr) (fun _ i _ => n - (intOf i).toNat)
  case atStart => exact ⟨0, Nat.zero_le _, rfl, by rw [← HO.out], Lib.hid (Filling.start w _ _ n), (Below.refl _ _).alloc (Nat.le_refl _) _⟩
  case round =>
    obtain ⟨k, hk, rfl, rfl, HFL, hB⟩ := hrel
    have hsz := HFL.out.lt
    by_cases hlt : k < n
    · have HS := Lib.hid (HA.out k hlt)
      have HX := Lib.hid (pow_next a k)
      have g0 := fm_lo (a ^ k)
      have g1 := fm_hi (a ^ k)
      generalize fm (a ^ k) = pk at *
      obtain ⟨u, hu⟩ := HFL.out.cell hlt HL.out
      have hfr := HFL.out.free k
      have HG := Lib.hid (HFL.out.step hlt HL.out HS.out)
      go_wp2_with fail
      refine (gold_mul _ _ _ g0 (by omega) a0 a1).mono ?_
      rintro e w1 ⟨rfl, hb1⟩
      rw [HX.out]
      have HG2 := Lib.hid (HG.out.below hb1)
      go_wp2_with fail
      go_roundw
      case rel => exact ⟨k + 1, by omega, by go_num, rfl, HG2, ((hB.setCell (Nat.le_refl _) _).trans (hb1.mono (by simp; exact hB.size)))⟩
      case measure => (first | (simp [intOf]; done) | (simp [intOf]; omega) | (simp only [intOf]; omega))
    · obtain rfl : k = n := by omega
      go_wp2_with fail
      go_ret2
      exact ⟨rfl, HFL.out.done HL.out, hB⟩
theorem root_powers_no (a : Int) (n : Int) (w : World) (a0 : 0 ≤ a) (a1 : a ≤ 18446744073709551615) (hn : n < 0 ∨ 16777216 < n) :
    Calls Try.prog 94 #[.int .u64 a, .int .i64 n] w fun e w' => e = .returned (.tuple #[.slice none 0 0, .int .i64 3]) ∧ w = w' := by
  by_cases h : n < 0
  · have hd0 : decide ((n : Int) < 0) = true := decide_eq_true h
    go_enter Try.func94, Try.ntmps94
    go_wp2_with fail
    go_ret2
    exact ⟨rfl, rfl⟩
  · have hd0 : decide ((n : Int) < 0) = false := decide_eq_false h
    have hd1 : decide (16777216 < (n : Int)) = true := decide_eq_true (by omega)
    go_enter Try.func94, Try.ntmps94
    go_wp2_with fail
    go_ret2
    exact ⟨rfl, rfl⟩
set_option maxRecDepth 100000 in
theorem r4_powers (a : Int) (n : Nat) (w : World) (a0 : 0 ≤ a) (a1 : a ≤ 18446744069414584320) (hn : n ≤ 16777216) :
    Calls Try.prog 73 #[.int .u64 a, .int .i64 n] w fun e w' => ∃ v, e = .returned v ∧ Owns w' w.heap.size 35 .u64 v (powl a n) ∧ Below w.heap.size w w' := by
  have HL := Lib.hid (powl_len a n)
  have HA := Lib.hid (powl_at a n)
  have HO := Lib.hid (show (1 : Int) = fm (a ^ 0) by rw [Int.pow_zero]; rfl)
  go_enter Try.func73, Try.ntmps73
  go_wp2_with fail
  go_loopw [5, 6, 7] (fun v p i wr => ∃ k : Nat, k ≤ n ∧ i = .int .i64 k ∧ p = .int .u64 (fm (a ^ k)) ∧ Hid (Owns wr w.heap.size 35 .u64 v (upto (powl a n) k)) ∧ Below w.heap.size w wr) (fun _ _ i _ => n - (intOf i).toNat)
  case atStart => exact ⟨0, Nat.zero_le _, rfl, by rw [← HO.out], Lib.hid (Owns.nil _ _ _ _), Below.refl _ _⟩
  case round =>
    obtain ⟨k, hk, rfl, rfl, HOW, hB⟩ := hrel
    by_cases hlt : k < n
    · have HX := Lib.hid (pow_next a k)
      have g0 := fm_lo (a ^ k)
      have g1 := fm_hi (a ^ k)
      have HS := Lib.hid (upto_snoc (powl a n) k _ (by rw [HL.out]; exact hlt) (HA.out k hlt))
      have HK := Lib.hid (upto_len (powl a n) k (by rw [HL.out]; exact hk))
      generalize fm (a ^ k) = pk at *
      go_wp2_with (at_builtin; refine append_one Try.underlying22 info_u64 rfl _ _ rfl rfl HOW.out rfl hB.size (by rw [HK.out]; omega) ?_; intro v' w' hO hb')
      have HO2 := Lib.hid hO
      clear hO
      refine (r2_mulz _ _ _ g0 (by omega) a0 a1).mono ?_
      rintro e w1 ⟨rfl, rfl⟩
      rw [HX.out]
      go_wp2_with fail
      go_roundw
      case rel => exact ⟨k + 1, by omega, by go_num, rfl, by rw [← HS.out]; exact HO2, hB.trans hb'⟩
      case measure => (first | (simp [intOf]; done) | (simp [intOf]; omega) | (simp only [intOf]; omega))
    · obtain rfl : k = n := by omega
      go_wp2_with fail
      go_ret
      exact ⟨_, rfl, by rw [← upto_full (powl a k) k HL.out]; exact HOW.out, hB⟩
end Go.Proofs.Ytkijiljipacfjaa
