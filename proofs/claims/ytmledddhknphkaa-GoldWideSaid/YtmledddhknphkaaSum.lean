/- gold.Sum over a slice; the reference's Wide. -/
import Derived.Test.YtmledddhknphkaaGoldp
import Derived.Test.YtmledddhknphkaaRefb
namespace Go.Proofs.Ytmledddhknphkaa
open Go.ChangeShapes Go.WideShapes Go.ChangeAt Go.RowKit
set_option linter.unusedVariables false

/-- The sum of the first k numbers, in the field. -/
def fsum (xs : List Int) (k : Nat) : Int := fm (xs.take k).sum
theorem fsum_lo (xs : List Int) (k : Nat) : 0 ≤ fsum xs k := fm_lo _
theorem fsum_hi (xs : List Int) (k : Nat) : fsum xs k ≤ 18446744069414584320 := fm_hi _
theorem fsum_zero (xs : List Int) : fsum xs 0 = 0 := by unfold fsum; simp; rfl
theorem take_snoc {α} (xs : List α) (k : Nat) (h : k < xs.length) : xs.take (k + 1) = xs.take k ++ [xs[k]] := List.take_succ_eq_append_getElem h
theorem fsum_succ (xs : List Int) (k : Nat) (h : k < xs.length) : fm (fsum xs k + xs.getD k 0) = fsum xs (k + 1) := by
  unfold fsum
  have e : xs.getD k 0 = xs[k] := by simp [List.getD, h]
  rw [take_snoc xs k h, fm_add_l, e, List.sum_append]
  simp only [List.sum_cons, List.sum_nil, Int.add_zero]
theorem fsum_succ' (xs : List Int) (k : Nat) (h : k < xs.length) : fm (fsum xs k + fm (xs.getD k 0)) = fsum xs (k + 1) := by
  rw [fm_add_r, fsum_succ xs k h]

/-- A slice of words: its numbers lie in their range, in the walk's spelling. -/
theorem words_at {xs : List Int} (h : ∀ x ∈ xs, (Lit.int .u64 x).wf = true) (k : Nat) (hk : k < xs.length) : 0 ≤ xs.getD k 0 ∧ xs.getD k 0 ≤ 18446744073709551615 := by
  have : xs.getD k 0 = xs[k] := by simp [List.getD, hk]
  rw [this]
  exact bounds_u64 (h _ (List.getElem_mem hk))

theorem gold_sum (a : Option Addr) (c : Nat) (xs : List Int) (w : World) (hr : Reads .u64 w a xs) (hwf : ∀ x ∈ xs, (Lit.int .u64 x).wf = true) (hlen : xs.length ≤ 9223372036854775807) :
    Calls Try.prog 49 #[.slice a xs.length c] w fun e w' => e = .returned (.int .u64 (fsum xs xs.length)) ∧ w = w' := by
  have HZ := Lib.hid (fsum_zero xs)
  obtain ⟨n, hn⟩ : ∃ n, xs.length = n := ⟨_, rfl⟩
  rw [hn] at hlen ⊢
  have HN := Lib.hid hn
  clear hn
  go_enter Try.func49, Try.ntmps49
  go_wp2_with fail
  go_loop [3, 8] (fun s i => ∃ k : Nat, k ≤ n ∧ i = .int .i64 k ∧ s = .int .u64 (fsum xs k)) (fun _ i => n - (intOf i).toNat)
  case atStart => exact ⟨0, Nat.zero_le _, rfl, by rw [HZ.out]⟩
  case round =>
    obtain ⟨k, hk, rfl, rfl⟩ := hrel
    by_cases hlt : k < n
    · rcases hr with hnil | ⟨b, off, rfl, hb, hcell⟩
      · have := HN.out; rw [hnil] at this; simp at this; omega
      · have hc := hcell k (by rw [HN.out]; exact hlt)
        obtain ⟨g0, g1⟩ := words_at hwf k (by rw [HN.out]; exact hlt)
        have HS := Lib.hid (fsum_succ xs k (by rw [HN.out]; exact hlt))
        have s0 := fsum_lo xs k
        have s1 := fsum_hi xs k
        have hwf' := Lib.hid hwf
        have hcell' := Lib.hid hcell
        clear hwf hcell
        generalize xs.getD k 0 = x at *
        go_wp2_with fail
        refine (gold_add _ _ _ s0 (by omega) g0 g1).mono ?_
        rintro e w1 ⟨rfl, rfl⟩
        go_wp2_with fail
        go_round
        case rel => exact ⟨k + 1, by omega, by go_num, by rw [HS.out]⟩
        case measure => (first | (simp [intOf]; done) | (simp [intOf]; omega) | (simp only [intOf]; omega))
    · obtain rfl : k = n := by omega
      go_wp2_with fail
      go_ret
      exact ⟨rfl, rfl⟩

theorem bits_hi (h l k : Nat) (hl : l < 18446744073709551616) : (h * 18446744073709551616 + l) / 2 ^ (64 + k) = h / 2 ^ k := by
  rw [Nat.pow_add, ← Nat.div_div_eq_div_mul]
  congr 1
  omega
theorem bits_lo (h l k : Nat) (hk : k < 64) : (h * 18446744073709551616 + l) / 2 ^ k % 2 = l / 2 ^ k % 2 := by
  have e : h * 18446744073709551616 = 2 ^ k * (h * 2 ^ (63 - k) * 2) := by
    have : (18446744073709551616 : Nat) = 2 ^ k * (2 ^ (63 - k) * 2) := by
      rw [← Nat.pow_succ, ← Nat.pow_add, show k + (63 - k + 1) = 64 from by omega]
    rw [this]; grind
  rw [e, Nat.mul_add_div (Nat.pow_pos (by omega)), Nat.add_mod]
  omega
/-- A digit. -/
def dig (t k : Nat) : Int := ((t / 2 ^ k % 2 : Nat) : Int)
theorem dig_lo (t k : Nat) : 0 ≤ dig t k := by unfold dig; omega
theorem dig_hi (t k : Nat) : dig t k ≤ 1 := by unfold dig; omega
theorem dbl_bit (t k : Nat) : fm (fm (dbl t 1 (k + 1) + dbl t 1 (k + 1)) + dig t k) = dbl t 1 k := by
  have := dbl_step t k 1
  rw [Int.mul_one] at this
  exact this.symm
theorem tmod_bit (h k : Nat) : ((h : Int) / 2 ^ k).tmod 2 = dig h k := by
  rw [show ((h : Int) / 2 ^ k) = ((h / 2 ^ k : Nat) : Int) from by push_cast; rfl]; rfl

theorem r2_wide (h l : Nat) (w : World) (hh : h < 18446744073709551616) (hl : l < 18446744073709551616) :
    Calls Try.prog 48 #[.int .u64 h, .int .u64 l] w fun e w' => e = .returned (.int .u64 (fm ((h : Int) * 18446744073709551616 + l))) ∧ w = w' := by
  obtain ⟨t, ht⟩ : ∃ t, t = h * 18446744073709551616 + l := ⟨_, rfl⟩
  have HT := Lib.hid (dbl_top t 1 128 (by omega))
  have hz : dbl t 1 0 = fm ((h : Int) * 18446744073709551616 + l) := by rw [dbl_zero, Int.mul_one, ht]; congr 1
  have HZ := Lib.hid hz
  have hh' : ∀ k, dig h k = dig t (64 + k) := fun k => by unfold dig; rw [ht, bits_hi h l k hl]
  have hl' : ∀ k, k < 64 → dig l k = dig t k := fun k hk => by unfold dig; rw [ht, bits_lo h l k hk]
  have HH := Lib.hid hh'
  have HL := Lib.hid hl'
  clear ht hh' hl' hz
  go_enter Try.func48, Try.ntmps48
  go_wp2_with fail
  go_loop [5, 6] (fun s k => ∃ (j : Nat), j ≤ 64 ∧ k = .int .i64 ((j : Int) - 1) ∧ s = .int .u64 (dbl t 1 (64 + j)))
    (fun _ k => (intOf k + 1).toNat)
  case atStart => exact ⟨64, by omega, rfl, by rw [show 64 + 64 = 128 from rfl, HT.out]⟩
  case round =>
    obtain ⟨j, hj, rfl, rfl⟩ := hrel
    cases j with
    | zero =>
      go_wp2_with fail
      go_loop [5, 7] (fun s k => ∃ (j : Nat), j ≤ 64 ∧ k = .int .i64 ((j : Int) - 1) ∧ s = .int .u64 (dbl t 1 j))
        (fun _ k => (intOf k + 1).toNat)
      case atStart => exact ⟨64, by omega, rfl, rfl⟩
      case round =>
        obtain ⟨j, hj, rfl, rfl⟩ := hrel
        cases j with
        | zero =>
          go_wp2_with fail
          go_ret
          exact ⟨ret_u64 HZ.out, rfl⟩
        | succ k =>
          have d0 := dbl_lo t 1 (k + 1)
          have d1 := dbl_hi t 1 (k + 1)
          have b0 := dig_lo t k
          have b1 := dig_hi t k
          have HX := Lib.hid ((tmod_bit l k).trans (HL.out k (by omega)))
          have HS := Lib.hid (dbl_bit t k)
          go_wp2_with fail
          refine (r2_add _ _ _ d0 d1 d0 d1).mono ?_
          rintro e w1 ⟨rfl, rfl⟩
          go_wp2_with fail
          rw [HX.out]
          refine (r2_add _ _ _ (fm_lo _) (fm_hi _) b0 (by omega)).mono ?_
          rintro e w1 ⟨rfl, rfl⟩
          go_wp2_with fail
          go_round
          case rel => exact ⟨k, by omega, rfl, by rw [HS.out]⟩
          case measure => (first | (simp [intOf]; done) | (simp [intOf]; omega) | (simp only [intOf]; omega))
    | succ k =>
      have d0 := dbl_lo t 1 (64 + (k + 1))
      have d1 := dbl_hi t 1 (64 + (k + 1))
      have b0 := dig_lo t (64 + k)
      have b1 := dig_hi t (64 + k)
      have HX := Lib.hid ((tmod_bit h k).trans (HH.out k))
      have HS := Lib.hid (dbl_bit t (64 + k))
      go_wp2_with fail
      refine (r2_add _ _ _ d0 d1 d0 d1).mono ?_
      rintro e w1 ⟨rfl, rfl⟩
      go_wp2_with fail
      rw [HX.out]
      refine (r2_add _ _ _ (fm_lo _) (fm_hi _) b0 (by omega)).mono ?_
      rintro e w1 ⟨rfl, rfl⟩
      go_wp2_with fail
      go_round
      case rel => exact ⟨k, by omega, rfl, by rw [show 64 + (k + 1) = (64 + k) + 1 from rfl, HS.out]⟩
      case measure => (first | (simp [intOf]; done) | (simp [intOf]; omega) | (simp only [intOf]; omega))
theorem r2_widez (h l : Int) (w : World) (h0 : 0 ≤ h) (h1 : h ≤ 18446744073709551615) (l0 : 0 ≤ l) (l1 : l ≤ 18446744073709551615) :
    Calls Try.prog 48 #[.int .u64 h, .int .u64 l] w fun e w' => e = .returned (.int .u64 (fm (h * 18446744073709551616 + l))) ∧ w = w' := by
  obtain ⟨h, rfl⟩ := Int.eq_ofNat_of_zero_le h0
  obtain ⟨l, rfl⟩ := Int.eq_ofNat_of_zero_le l0
  exact r2_wide h l w (by omega) (by omega)
theorem Reads.alloc {k : IntKind} {w : World} {a : Option Addr} {xs : List Int} (h : Reads k w a xs) (o : Obj) : Reads k (w.alloc o) a xs := by
  rcases h with h | ⟨b, off, rfl, hb, hc⟩
  · exact .inl h
  · exact .inr ⟨b, off, rfl, by simp; omega, fun i hi => by rw [World.cell?_of_block (Below.heap_alloc w o b hb)]; exact hc i hi⟩
theorem Reads.below {k : IntKind} {w w' : World} {a : Option Addr} {xs : List Int} (h : Reads k w a xs) (hb : Below w.heap.size w w') : Reads k w' a xs := by
  rcases h with h | ⟨b, off, rfl, hlt, hc⟩
  · exact .inl h
  · exact .inr ⟨b, off, rfl, by have := hb.size; omega, fun i hi => by rw [hb.cell (p := ⟨b, off + i, none⟩) hlt]; exact hc i hi⟩

end Go.Proofs.Ytmledddhknphkaa
