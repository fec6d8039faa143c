/- Put together by program (merge.py): Unit Powers Live6 Least. -/
import Derived.Test.YtcfmiflhhjoofaaM5
import Derived.Test.YtcfmiflhhjoofaaM6
import Derived.Test.YtcfmiflhhjoofaaM8
import Derived.Test.YtcfmiflhhjoofaaM11
import Derived.Test.YtcfmiflhhjoofaaM12
import Derived.Test.YtcfmiflhhjoofaaM13
/- vec.Unit. -/
namespace Go.Proofs.Ytcfmiflhhjoofaa
open Go.ChangeShapes Go.WideShapes Go.ChangeAt Go.RowKit
set_option linter.unusedVariables false

/-- n numbers, all 0 but that at k. -/
def unitl (n k : Nat) : List Int := (List.range n).map fun i => if i = k then 1 else 0
theorem unitl_len (n k : Nat) : (unitl n k).length = n := by unfold unitl; simp
theorem unitl_at (n k i : Nat) (h : i < n) : (unitl n k).getD i 0 = if i = k then 1 else 0 := by unfold unitl; simp [List.getD, h]
theorem unitl_wf (n k : Nat) : ∀ z ∈ unitl n k, (Lit.int .u64 z).wf = true := by
  intro z hz
  unfold unitl at hz
  obtain ⟨x, _, rfl⟩ := List.mem_map.1 hz
  by_cases h : x = k
  · rw [if_pos h]; decide
  · rw [if_neg h]; decide
theorem unit_set (n k : Nat) (hk : k < n) : (Array.replicate n (Value.int .u64 0)).setIfInBounds k (.int .u64 1) = ((unitl n k).map (Value.int .u64)).toArray := by
  apply Array.ext
  · simp [unitl_len]
  · intro i h1 h2
    have hi : i < n := by simpa using h1
    rw [Array.getElem_setIfInBounds (by simpa using hi)]
    unfold unitl
    by_cases h : k = i
    · simp [h]
    · have h' : ¬ i = k := fun e => h e.symm
      simp [h, h']
theorem fsum_unit (xs : List Int) (n k : Nat) (hn : xs.length = n) (hk : k < n) : ∀ j, j ≤ n → fsum (zmul xs (unitl n k)) j = if k < j then fm (xs.getD k 0) else 0
  | 0, _ => by rw [fsum_zero]; simp
  | j + 1, hj => by
    have hl : (zmul xs (unitl n k)).length = n := (zmul_len xs _ (by rw [unitl_len, hn])).trans hn
    rw [← fsum_succ _ j (by rw [hl]; omega), fsum_unit xs n k hn hk j (by omega), zmul_at xs _ j (by rw [hn]; omega) (by rw [unitl_len, hn]), unitl_at n k j (by omega)]
    by_cases h : j = k
    · subst h
      have e1 : ¬ j < j := by omega
      have e2 : j < j + 1 := by omega
      rw [if_neg e1, if_pos rfl, if_pos e2, Int.mul_one, Int.zero_add, fm_fm]
    · rw [if_neg h, Int.mul_zero]
      have e0 : fm 0 = 0 := rfl
      rw [e0, Int.add_zero]
      by_cases h2 : k < j
      · have e2 : k < j + 1 := by omega
        rw [if_pos h2, if_pos e2, fm_fm]
      · have e2 : ¬ k < j + 1 := by omega
        rw [if_neg h2, if_neg e2, e0]

theorem dotp_unit (xs : List Int) (n k : Nat) (hn : xs.length = n) (hk : k < n) : dotp xs (unitl n k) = fm (xs.getD k 0) := by
  have hl : (zmul xs (unitl n k)).length = n := (zmul_len xs _ (by rw [unitl_len, hn])).trans hn
  unfold dotp
  rw [hl, fsum_unit xs n k hn hk n (Nat.le_refl _), if_pos hk]

end Go.Proofs.Ytcfmiflhhjoofaa
/- root.Powers, and the reference's. -/
namespace Go.Proofs.Ytcfmiflhhjoofaa
open Go.ChangeShapes Go.WideShapes Go.ChangeAt Go.RowKit
set_option linter.unusedVariables false
/-- a to the powers 0, 1, 2, .., n of them. -/
def powl (a : Int) (n : Nat) : List Int := (List.range n).map fun i => fm (a ^ i)
theorem powl_len (a : Int) (n : Nat) : (powl a n).length = n := by unfold powl; simp
theorem powl_at (a : Int) (n i : Nat) (h : i < n) : (powl a n).getD i 0 = fm (a ^ i) := by unfold powl; simp [List.getD, h]
theorem powl_wf (a : Int) (n : Nat) : ∀ z ∈ powl a n, (Lit.int .u64 z).wf = true := by
  intro z hz
  unfold powl at hz
  obtain ⟨x, _, rfl⟩ := List.mem_map.1 hz
  exact WalkArith.wf_u64 ⟨fm_lo _, fm_hi' _⟩
theorem powl_fm (a : Int) (n : Nat) : powl (fm a) n = powl a n := by
  unfold powl
  apply List.map_congr_left
  intro i _
  exact Fld.fm_pow1 a i
theorem pow_next (a : Int) (k : Nat) : fm (fm (a ^ k) * a) = fm (a ^ (k + 1)) := by rw [fm_mul_l, Int.pow_succ]

set_option maxRecDepth 100000 in
theorem root_powers (a : Int) (n : Nat) (w : World) (a0 : 0 ≤ a) (a1 : a ≤ 18446744073709551615) (hn : n ≤ 16777216) :
    Calls Try.prog 61 #[.int .u64 a, .int .i64 n] w fun e w' => e = .returned (.tuple #[.slice (some ⟨w.heap.size, 0, none⟩) n n, .int .i64 0]) ∧ RowAt w' w.heap.size 43 (powl a n) ∧ Below w.heap.size w w' := by
  have hmk := make_u64 n (by omega)
  have hd0 : decide ((n : Int) < 0) = false := decide_eq_false (by omega)
  have hd1 : decide (16777216 < (n : Int)) = false := decide_eq_false (by omega)
  have HL := Lib.hid (powl_len a n)
  have HA := Lib.hid (powl_at a n)
  have HO := Lib.hid (show (1 : Int) = fm (a ^ 0) by rw [Int.pow_zero]; rfl)
  go_enter Try.func61, Try.ntmps61
  go_wp2_with fail
  go_loopw [7, 19] (fun p i wr => ∃ k : Nat, k ≤ n ∧ i = .int .i64 k ∧ p = .int .u64 (fm (a ^ k)) ∧ Hid (Filling wr w.heap.size 43 (powl a n) k n) ∧ Below w.heap.size w wr) (fun _ i _ => n - (intOf i).toNat)
  case atStart => exact ⟨0, Nat.zero_le _, rfl, by rw [← HO.out], Lib.hid (Filling.start w _ _ n), (Below.refl _ _).alloc (Nat.le_refl _) _⟩
  case round =>
    obtain ⟨k, hk, rfl, rfl, HFL, hB⟩ := hrel
    have hsz := HFL.out.lt
    by_cases hlt : k < n
    · have HS := Lib.hid (HA.out k hlt)
      have HX := Lib.hid (pow_next a k)
      have g0 := fm_lo (a ^ k)
      have g1 := fm_hi (a ^ k)
      generalize fm (a ^ k) = pk at *
      obtain ⟨u, hu⟩ := HFL.out.cell hlt HL.out
      have hfr := HFL.out.free k
      have HG := Lib.hid (HFL.out.step hlt HL.out HS.out)
      go_wp2_with fail
      refine (gold_mul _ _ _ g0 (by omega) a0 a1).mono ?_
      rintro e w1 ⟨rfl, hb1⟩
      rw [HX.out]
      have HG2 := Lib.hid (HG.out.below hb1)
      go_wp2_with fail
      go_roundw
      case rel => exact ⟨k + 1, by omega, by go_num, rfl, HG2, ((hB.setCell (Nat.le_refl _) _).trans (hb1.mono (by simp; exact hB.size)))⟩
      case measure => (first | (simp [intOf]; done) | (simp [intOf]; omega) | (simp only [intOf]; omega))
    · obtain rfl : k = n := by omega
      go_wp2_with fail
      go_ret2
      exact ⟨rfl, HFL.out.done HL.out, hB⟩
theorem root_powers_no (a : Int) (n : Int) (w : World) (a0 : 0 ≤ a) (a1 : a ≤ 18446744073709551615) (hn : n < 0 ∨ 16777216 < n) :
    Calls Try.prog 61 #[.int .u64 a, .int .i64 n] w fun e w' => e = .returned (.tuple #[.slice none 0 0, .int .i64 3]) ∧ w = w' := by
  by_cases h : n < 0
  · have hd0 : decide ((n : Int) < 0) = true := decide_eq_true h
    go_enter Try.func61, Try.ntmps61
    go_wp2_with fail
    go_ret2
    exact ⟨rfl, rfl⟩
  · have hd0 : decide ((n : Int) < 0) = false := decide_eq_false h
    have hd1 : decide (16777216 < (n : Int)) = true := decide_eq_true (by omega)
    go_enter Try.func61, Try.ntmps61
    go_wp2_with fail
    go_ret2
    exact ⟨rfl, rfl⟩
set_option maxRecDepth 100000 in
theorem r4_powers (a : Int) (n : Nat) (w : World) (a0 : 0 ≤ a) (a1 : a ≤ 18446744069414584320) (hn : n ≤ 16777216) :
    Calls Try.prog 25 #[.int .u64 a, .int .i64 n] w fun e w' => ∃ v, e = .returned v ∧ Owns w' w.heap.size 43 .u64 v (powl a n) ∧ Below w.heap.size w w' := by
  have HL := Lib.hid (powl_len a n)
  have HA := Lib.hid (powl_at a n)
  have HO := Lib.hid (show (1 : Int) = fm (a ^ 0) by rw [Int.pow_zero]; rfl)
  go_enter Try.func25, Try.ntmps25
  go_wp2_with fail
  go_loopw [5, 6, 7] (fun v p i wr => ∃ k : Nat, k ≤ n ∧ i = .int .i64 k ∧ p = .int .u64 (fm (a ^ k)) ∧ Hid (Owns wr w.heap.size 43 .u64 v (upto (powl a n) k)) ∧ Below w.heap.size w wr) (fun _ _ i _ => n - (intOf i).toNat)
  case atStart => exact ⟨0, Nat.zero_le _, rfl, by rw [← HO.out], Lib.hid (Owns.nil _ _ _ _), Below.refl _ _⟩
  case round =>
    obtain ⟨k, hk, rfl, rfl, HOW, hB⟩ := hrel
    by_cases hlt : k < n
    · have HX := Lib.hid (pow_next a k)
      have g0 := fm_lo (a ^ k)
      have g1 := fm_hi (a ^ k)
      have HS := Lib.hid (upto_snoc (powl a n) k _ (by rw [HL.out]; exact hlt) (HA.out k hlt))
      have HK := Lib.hid (upto_len (powl a n) k (by rw [HL.out]; exact hk))
      generalize fm (a ^ k) = pk at *
      go_wp2_with (at_builtin; refine append_one Try.underlying25 info_u64 rfl _ _ rfl rfl HOW.out rfl hB.size (by rw [HK.out]; omega) ?_; intro v' w' hO hb')
      have HO2 := Lib.hid hO
      clear hO
      refine (r2_mulz _ _ _ g0 (by omega) a0 a1).mono ?_
      rintro e w1 ⟨rfl, rfl⟩
      rw [HX.out]
      go_wp2_with fail
      go_roundw
      case rel => exact ⟨k + 1, by omega, by go_num, rfl, by rw [← HS.out]; exact HO2, hB.trans hb'⟩
      case measure => (first | (simp [intOf]; done) | (simp [intOf]; omega) | (simp only [intOf]; omega))
    · obtain rfl : k = n := by omega
      go_wp2_with fail
      go_ret
      exact ⟨_, rfl, by rw [← upto_full (powl a k) k HL.out]; exact HOW.out, hB⟩
end Go.Proofs.Ytcfmiflhhjoofaa
/- The page's example of layer 6; the transform of a unit. -/
namespace Go.Proofs.Ytcfmiflhhjoofaa
open Go.ChangeShapes Go.WideShapes Go.ChangeAt Go.RowKit
set_option linter.unusedVariables false
theorem rowat2 (w : World) (x y : Int) : RowAt (w.alloc (.cells #[.int .u64 x, .int .u64 y] 43)) w.heap.size 43 [x, y] := by
  unfold RowAt; rw [heap_alloc_new]; rfl
theorem hor12 : horl (rt 2) [1, 2] 2 = [3, 18446744069414584320] := by
  rw [rt_two]; decide +kernel
theorem hor_unit (st : Int) (n k : Nat) (hk : k < n) : ∀ d j, j + d = n → hor st ((unitl n k).drop j) = if j ≤ k then fm (st ^ (k - j)) else 0
  | 0, j, h => by
    have : (unitl n k).drop j = [] := by rw [List.drop_eq_nil_iff, unitl_len]; omega
    rw [this, if_neg (by omega)]
    rfl
  | d + 1, j, h => by
    have e0 : fm 0 = 0 := rfl
    rw [← hor_step st (unitl n k) j (by rw [unitl_len]; omega), hor_unit st n k hk d (j + 1) (by omega), unitl_at n k j (by omega)]
    by_cases h1 : j = k
    · subst h1
      rw [if_neg (by omega), if_pos rfl, if_pos (Nat.le_refl _), Int.zero_mul, e0, Nat.sub_self, Int.pow_zero]
      rfl
    · by_cases h2 : j < k
      · rw [if_pos (by omega), if_neg h1, if_pos (by omega), Int.add_zero, fm_fm, fm_mul_l, ← Int.pow_succ]
        congr 2
        omega
      · rw [if_neg (by omega), if_neg h1, if_neg (by omega), Int.zero_mul, e0]
        rfl
theorem horl_unit (r : Int) (n k : Nat) (hk : k < n) : horl r (unitl n k) n = powl (fm (r ^ k)) n := by
  unfold horl powl
  apply List.map_congr_left
  intro i _
  have := hor_unit (fm (r ^ i)) n k hk n 0 (by omega)
  rw [List.drop_zero, if_pos (Nat.zero_le _), Nat.sub_zero] at this
  rw [this, Fld.fm_pow1, Fld.fm_pow1, ← Int.pow_mul, ← Int.pow_mul, Nat.mul_comm]

end Go.Proofs.Ytcfmiflhhjoofaa
/- The reference's Least. -/
namespace Go.Proofs.Ytcfmiflhhjoofaa
open Go.ChangeShapes Go.WideShapes Go.ChangeAt Go.RowKit
set_option linter.unusedVariables false

/-- The primes of P - 1. -/
def qsl : List Int := [2, 3, 5, 17, 257, 65537]
theorem qsl_at : ∀ i, i < 6 → 2 ≤ qsl.getD i 0 ∧ qsl.getD i 0 ≤ 65537 := by decide
theorem qsl_wf : ∀ z ∈ qsl, (Lit.int .u64 z).wf = true := by decide

end Go.Proofs.Ytcfmiflhhjoofaa
