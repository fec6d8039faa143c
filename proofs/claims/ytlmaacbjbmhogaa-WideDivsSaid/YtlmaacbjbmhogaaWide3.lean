/- dulcimerref01: Of, Cmp, Bit. -/
import Derived.Test.YtlmaacbjbmhogaaWide2
namespace Go.Proofs.Ytlmaacbjbmhogaa
open Go.ChangeShapes Go.WideShapes Go.ChangeAt Go.RowKit
set_option linter.unusedVariables false

theorem D_of (h l : Int) (h0 : 0 ≤ h) (h1 : h ≤ 18446744073709551615) (l0 : 0 ≤ l) (l1 : l ≤ 18446744073709551615) :
    (#[.int .i64 (l % 65536), .int .i64 (l / 65536 % 65536), .int .i64 (l / 65536 / 65536 % 65536), .int .i64 (l / 65536 / 65536 / 65536 % 65536), .int .i64 (h % 65536), .int .i64 (h / 65536 % 65536), .int .i64 (h / 65536 / 65536 % 65536), .int .i64 (h / 65536 / 65536 / 65536 % 65536)] : Array Value) = D (h * 18446744073709551616 + l).toNat := by
  obtain ⟨h, rfl⟩ := Int.eq_ofNat_of_zero_le h0
  obtain ⟨l, rfl⟩ := Int.eq_ofNat_of_zero_le l0
  have e : ((h : Int) * 18446744073709551616 + (l : Int)).toNat = h * 18446744073709551616 + l := by omega
  rw [e]
  have hd : ∀ j, dg (h * 18446744073709551616 + l) j = (((h * 18446744073709551616 + l) / 65536 ^ j % 65536 : Nat) : Int) := fun _ => rfl
  unfold D dl
  simp only [hd, List.map_cons, List.map_nil, Nat.reducePow, Nat.pow_zero, Nat.div_one]
  congr 1
  simp only [List.cons.injEq, Value.int.injEq, true_and, and_true]
  refine ⟨?_, ?_, ?_, ?_, ?_, ?_, ?_, ?_⟩ <;> omega

set_option maxRecDepth 100000 in
theorem r1_of (h l : Int) (w : World) (h0 : 0 ≤ h) (h1 : h ≤ 18446744073709551615) (l0 : 0 ≤ l) (l1 : l ≤ 18446744073709551615) :
    Calls Try.prog 19 #[.int .u64 h, .int .u64 l] w fun e w' => e = .returned (.agg (D (h * 18446744073709551616 + l).toNat)) ∧ Below w.heap.size w w' := by
  have HD := Lib.hid (D_of h l h0 h1 l0 l1)
  go_enter Try.func19, Try.ntmps19
  go_wp2_with fail
  go_rounds 5
  go_returns
  refine ⟨by rw [← HD.out], ?_⟩
  go_grown

theorem bit_dig (n k : Nat) : n / 65536 ^ (k / 16) % 65536 / 2 ^ (k % 16) % 2 = n / 2 ^ k % 2 := by
  have e1 : 65536 ^ (k / 16) = 2 ^ (16 * (k / 16)) := by rw [show (65536 : Nat) = 2 ^ 16 from rfl, ← Nat.pow_mul]
  have e2 : (65536 : Nat) = 2 ^ (k % 16) * (2 ^ (15 - k % 16) * 2) := by
    rw [← Nat.pow_succ, ← Nat.pow_add, show k % 16 + (15 - k % 16 + 1) = 16 from by omega]
  have e3 : n / 2 ^ k = n / 65536 ^ (k / 16) / 2 ^ (k % 16) := by
    rw [Nat.div_div_eq_div_mul, e1, ← Nat.pow_add]; congr 2; omega
  rw [e3]
  generalize n / 65536 ^ (k / 16) = m
  conv => lhs; rw [show m % 65536 = m % (2 ^ (k % 16) * (2 ^ (15 - k % 16) * 2)) from by rw [← e2]]
  rw [Nat.mod_mul_right_div_self, Nat.mod_mul_left_mod]

/-- A digit halved i times. -/
def hv (d i : Nat) : Int := ((d / 2 ^ i : Nat) : Int)
theorem hv_zero (d : Nat) : hv d 0 = (d : Int) := by unfold hv; simp
theorem hv_succ (d i : Nat) : hv d i / 2 = hv d (i + 1) := by unfold hv; rw [Nat.pow_succ, ← Nat.div_div_eq_div_mul]; omega
theorem hv_lo (d i : Nat) : 0 ≤ hv d i := Int.natCast_nonneg _
theorem hv_hi (d i : Nat) (h : d ≤ 65535) : hv d i ≤ 65535 := by
  unfold hv; have := Nat.div_le_self d (2 ^ i); omega

/-- A digit of two. -/
def bitI (n k : Nat) : Int := ((n / 2 ^ k % 2 : Nat) : Int)
set_option maxRecDepth 100000 in
theorem r1_bit (n k : Nat) (w : World) (k1 : k < 128) :
    Calls Try.prog 27 #[.agg (D n), .int .i64 k] w fun e w' => e = .returned (.int .i64 (bitI n k)) ∧ Below w.heap.size w w' := by
  have hcell : (D n)[k / 16]? = some (.int .i64 (dg n (k / 16))) := by
    have := dcell (w := w.alloc (.cells (D n) 0)) (B := w.heap.size) (T := 0) (n := n) (heap_alloc_new _ _) (k / 16) (by omega)
    rw [cell_of_row _ _ _ _ _ _ (heap_alloc_new _ _)] at this
    exact this
  obtain ⟨d, hd⟩ : ∃ d, n / 65536 ^ (k / 16) % 65536 = d := ⟨_, rfl⟩
  have hdg : dg n (k / 16) = (d : Int) := by unfold dg; rw [hd]
  have hd5 : d ≤ 65535 := by omega
  have HE := Lib.hid (show hv d (k % 16) % 2 = bitI n k by unfold hv bitI; rw [← bit_dig n k, hd]; rfl)
  rw [hdg] at hcell
  have HZ := Lib.hid (hv_zero d)
  clear hdg hd
  have hm : (k : Int) % 16 = ((k % 16 : Nat) : Int) := by omega
  have h16 : k % 16 < 16 := Nat.mod_lt _ (by omega)
  have hq : (k / 16 : Nat) < 8 := by omega
  generalize hk16 : k % 16 = r at *
  have HK := Lib.hid hk16
  clear hk16
  go_enter Try.func27, Try.ntmps27
  go_wp2_with fail
  go_loop [5, 6] (fun v i => ∃ j : Nat, j ≤ r ∧ i = .int .i64 j ∧ v = .int .i64 (hv d j)) (fun _ i => r - (intOf i).toNat)
  case atStart => exact ⟨0, Nat.zero_le _, rfl, by rw [HZ.out]⟩
  case round =>
    obtain ⟨j, hj, rfl, rfl⟩ := hrel
    have v0 := hv_lo d j
    have v1 := hv_hi d j hd5
    have HS := Lib.hid (hv_succ d j)
    by_cases hlt : j < r
    · have hlt' : (j : Int) < (r : Int) := by omega
      go_wp2_with fail
      go_round
      case rel => exact ⟨j + 1, by omega, by go_num, by rw [← HS.out]⟩
      case measure => (first | (simp [intOf]; done) | (simp [intOf]; omega) | (simp only [intOf]; omega))
    · obtain rfl : j = r := by omega
      go_wp2_with fail
      go_ret
      exact ⟨ret_i64 HE.out, by go_grown⟩

theorem cmp_lt {a b k : Nat} (h : a / 65536 ^ (k + 1) = b / 65536 ^ (k + 1)) (hl : dg a k < dg b k) : a < b := by
  unfold dg at hl
  have hp : 0 < 65536 ^ k := Nat.pow_pos (by omega)
  rw [pw_succ, ← Nat.div_div_eq_div_mul, ← Nat.div_div_eq_div_mul] at h
  have : a / 65536 ^ k < b / 65536 ^ k := by omega
  exact Nat.lt_of_not_le fun hle => by have := Nat.div_le_div_right (c := 65536 ^ k) hle; omega
theorem cmp_eq {a b k : Nat} (h : a / 65536 ^ (k + 1) = b / 65536 ^ (k + 1)) (hl : dg a k = dg b k) : a / 65536 ^ k = b / 65536 ^ k := by
  unfold dg at hl
  rw [pw_succ, ← Nat.div_div_eq_div_mul, ← Nat.div_div_eq_div_mul] at h
  omega
/-- -1, 0 or 1. -/
def cmpI (a b : Nat) : Int := if a < b then -1 else if b < a then 1 else 0
set_option maxRecDepth 100000 in
theorem r1_cmp (a b : Nat) (w : World) (ha : a < 65536 ^ 8) (hb : b < 65536 ^ 8) :
    Calls Try.prog 12 #[.agg (D a), .agg (D b)] w fun e w' => e = .returned (.int .i64 (cmpI a b)) ∧ Below w.heap.size w w' := by
  have HT := Lib.hid (show a / 65536 ^ 8 = b / 65536 ^ 8 by rw [Nat.div_eq_of_lt ha, Nat.div_eq_of_lt hb])
  have hA : ((w.alloc (.cells (D a) 27)).alloc (.cells (D b) 27)).heap[w.heap.size]? = some (.cells (D a) 27 (0, 0)) := heap_alloc2_old _ _ _
  have hB : ((w.alloc (.cells (D a) 27)).alloc (.cells (D b) 27)).heap[w.heap.size + 1]? = some (.cells (D b) 27 (0, 0)) := heap_alloc2_new _ _ _
  have hW : Below w.heap.size w ((w.alloc (.cells (D a) 27)).alloc (.cells (D b) 27)) := by go_grown
  have hz : ((w.alloc (.cells (D a) 27)).alloc (.cells (D b) 27)).heap.size = w.heap.size + 2 := by simp
  have HA := Lib.hid hA
  have HB := Lib.hid hB
  have HW := Lib.hid hW
  have HZ := Lib.hid hz
  clear hA hB hW hz ha hb
  go_enter Try.func12, Try.ntmps12
  go_wp2_with fail
  generalize (w.alloc (.cells (D a) 27)).alloc (.cells (D b) 27) = W0 at *
  go_loopw [5] (fun i wr => ∃ j : Nat, j ≤ 8 ∧ i = .int .i64 ((j : Int) - 1) ∧ Hid (a / 65536 ^ j = b / 65536 ^ j) ∧ Below (w.heap.size + 2) W0 wr) (fun i _ => (intOf i + 1).toNat)
  case atStart => exact ⟨8, by omega, rfl, HT, Below.refl _ _⟩
  case round =>
    obtain ⟨j, hj, rfl, HE, hB0⟩ := hrel
    cases j with
    | zero =>
      have hab : cmpI a b = 0 := by
        have := HE.out; simp at this; unfold cmpI; rw [if_neg (by omega), if_neg (by omega)]
      have HAB := Lib.hid hab
      clear hab
      go_wp2_with fail
      go_ret
      exact ⟨ret_i64 HAB.out.symm, HW.out.trans (hB0.mono (by omega))⟩
    | succ k =>
      have hca : wr.cell? ⟨w.heap.size, k, none⟩ = some (.int .i64 (dg a k)) := (hB0.cell (p := ⟨w.heap.size, k, none⟩) (by show w.heap.size < _; omega)).trans (dcell HA.out k (by omega))
      have hcb : wr.cell? ⟨w.heap.size + 1, k, none⟩ = some (.int .i64 (dg b k)) := (hB0.cell (p := ⟨w.heap.size + 1, k, none⟩) (by show w.heap.size + 1 < _; omega)).trans (dcell HB.out k (by omega))
      have hk0 : (0 : Int) ≤ (k : Int) := by omega
      have hk8 : (k : Int) < 8 := by omega
      by_cases h1 : dg a k < dg b k
      · have HR := Lib.hid (show cmpI a b = -1 by unfold cmpI; rw [if_pos (cmp_lt HE.out h1)])
        go_wp2_with fail
        go_quiet (fail)
        go_wp2_with fail
        go_ret
        exact ⟨ret_i64 HR.out.symm, HW.out.trans ((below_drewN hB0 _).mono (by omega))⟩
      · by_cases h2 : dg b k < dg a k
        · have HR := Lib.hid (show cmpI a b = 1 by unfold cmpI; have := cmp_lt HE.out.symm h2; rw [if_neg (by omega), if_pos this])
          go_wp2_with fail
          go_quiet (fail)
          go_wp2_with fail
          go_quiet (fail)
          go_wp2_with fail
          go_ret
          exact ⟨ret_i64 HR.out.symm, HW.out.trans ((below_drewN (below_drewN hB0 _) _).mono (by omega))⟩
        · have HR := Lib.hid (cmp_eq HE.out (show dg a k = dg b k by omega))
          go_wp2_with fail
          go_quiet (fail)
          go_wp2_with fail
          go_quiet (fail)
          go_wp2_with fail
          go_roundw
          case rel => exact ⟨k, by omega, rfl, HR, below_drewN hB0 _⟩
          case measure => (first | (simp [intOf]; done) | (simp [intOf]; omega) | (simp only [intOf]; omega))

end Go.Proofs.Ytlmaacbjbmhogaa
