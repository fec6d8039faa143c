/- TickSums: laps, one behind the other. -/
import Derived.Test.YtlbkmheggdgfoaaTick3
namespace Go.Proofs.Ytlbkmheggdgfoaa
open Go.ChangeShapes Go.WideShapes Go.ChangeAt Go.RowKit
set_option linter.unusedVariables false
namespace tickSums
/-- The laps together, of k of them. -/
def lapsum (xs : List Int) : Nat → Int
  | 0 => 0
  | k + 1 => lapsum xs k + (nw xs (2 * k + 2) - nw xs (2 * k + 1))
theorem lapsum_rng (xs : List Int) : ∀ k, 0 ≤ lapsum xs k ∧ lapsum xs k ≤ nw xs (2 * k)
  | 0 => by have := nw_rng xs 0; exact ⟨Int.le_refl _, this.1⟩
  | k + 1 => by
    have i := lapsum_rng xs k
    have h1 : nw xs (2 * k) ≤ nw xs (2 * k + 1) := nw_mono1 xs (2 * k)
    have h2 : nw xs (2 * k + 1) ≤ nw xs (2 * k + 2) := nw_mono1 xs (2 * k + 1)
    have e : lapsum xs (k + 1) = lapsum xs k + (nw xs (2 * k + 2) - nw xs (2 * k + 1)) := rfl
    rw [e, show 2 * (k + 1) = 2 * k + 2 by omega]
    omega
set_option maxRecDepth 100000 in
theorem main (W : World) (a0 : Option Addr) (n0 c0 : Nat) (xs : List Int) (hl : xs.length = n0) (hr : Reads .i64 W a0 xs) (hwf : ∀ x ∈ xs, (Lit.int .i64 x).wf = true) (hn : n0 ≤ 100) (n : Nat) (w1 : n ≤ 255) :
    Calls Try.prog 5 #[.slice a0 n0 c0, .int .u8 n] W fun e W' => e = .returned (.bool true) ∧ Below W.heap.size W W' := by
  have g1 : decide (100 < (n0 : Int)) = false := decide_eq_false (by omega)
  have M := Lib.hid (tick_new a0 n0 c0 xs W hl hr hwf (by omega))
  have R := Lib.hid (fun (w : World) (j : Nat) (hb : Below W.heap.size W w) (hj : j ≤ 1000) => r20_now a0 n0 c0 xs j w hl (hr.below hb) hwf (by omega) hj)
  have LN := Lib.hid (show lapsum xs n ≤ nw xs n0 by
    have h1 := (lapsum_rng xs n).2
    have h2 := nw_len xs (2 * n)
    rw [hl] at h2
    omega)
  clear hl hr hwf
  go_enter Try.func5, Try.ntmps5
  go_wp2_with fail
  refine M.out.mono ?_
  rintro e w1 ⟨C, rfl, hC, hk, b1⟩
  have K := Lib.hid hk
  clear hk M
  go_wp2_with fail
  go_loopw [6, 7, 8] (fun l i _ wr => ∃ k : Nat, k ≤ n ∧ i = .int .i64 k ∧ l = .int .i64 (lapsum xs k) ∧ Hid (Clk wr C (xs.drop (2 * k)) (nw xs (2 * k)) ((2 * k : Nat) : Int)) ∧ Below W.heap.size W wr) (fun _ i _ _ => n - (intOf i).toNat)
  case atStart => exact ⟨0, by omega, rfl, rfl, K, b1⟩
  case round =>
    clear K b1
    obtain ⟨k, hk, rfl, rfl, K, hB⟩ := hrel
    by_cases hlt : k < n
    · have L := Lib.hid (fun w h => lap_at W.heap.size C xs (2 * k) w hC (by omega) h)
      have R1 := Lib.hid (fun w hb => R.out w (2 * k + 2) hb (by omega))
      have R2 := Lib.hid (fun w hb => R.out w (2 * k + 1) hb (by omega))
      have e1 : (((2 * k + 2 : Nat)) : Int) = 2 * (k : Int) + 2 := by omega
      have e2 : (((2 * k + 1 : Nat)) : Int) = 2 * (k : Int) + 1 := by omega
      rw [e1] at R1
      rw [e2] at R2
      have hm : nw xs (2 * k + 1) ≤ nw xs (2 * k + 2) := nw_mono1 xs (2 * k + 1)
      obtain ⟨r00, r01⟩ := nw_rng xs (2 * k + 1)
      obtain ⟨r10, r11⟩ := nw_rng xs (2 * k + 2)
      obtain ⟨s0, s1⟩ := lapsum_rng xs k
      have s2 := (nw_rng xs (2 * k)).2
      have SE := Lib.hid (show lapsum xs k + (nw xs (2 * k + 2) - nw xs (2 * k + 1)) = lapsum xs (k + 1) from rfl)
      have KE := Lib.hid (show ∀ w, Clk w C (xs.drop (2 * k + 2)) (nw xs (2 * k + 2)) ((2 * k + 2 : Nat) : Int) → Clk w C (xs.drop (2 * (k + 1))) (nw xs (2 * (k + 1))) ((2 * (k + 1) : Nat) : Int) from fun w h => h)
      clear e1 e2
      generalize lapsum xs k = s at *
      generalize ht : nw xs (2 * k + 2) = t at *
      have TE := Lib.hid (show nw xs (2 * (k + 1)) = t from ht)
      clear ht
      generalize nw xs (2 * k + 1) = f at *
      go_wp2_with fail
      refine (L.out _ K.out).mono ?_
      rintro e w1 ⟨rfl, hk', b1⟩
      have K' := Lib.hid (KE.out _ hk')
      have hB' := hB.trans b1
      clear hk' K hB b1
      go_wp2_with fail
      refine (R1.out _ hB').mono ?_
      rintro e w1 ⟨rfl, rfl⟩
      go_wp2_with fail
      refine (R2.out _ hB').mono ?_
      rintro e w1 ⟨rfl, rfl⟩
      go_wp2_with fail
      go_roundw
      case rel => exact ⟨k + 1, by omega, by go_num, by rw [← SE.out], by rw [TE.out]; exact K', hB'⟩
      case measure => (first | (simp [intOf]; done) | (simp [intOf]; omega) | (simp only [intOf]; omega))
    · obtain rfl : k = n := by omega
      have R1 := Lib.hid (R.out _ n0 hB (by omega))
      have g2 : decide (lapsum xs k ≤ nw xs n0) = true := decide_eq_true LN.out
      go_wp2_with fail
      refine R1.out.mono ?_
      rintro e w1 ⟨rfl, rfl⟩
      go_wp2_with fail
      refine (live20 _).mono ?_
      rintro e w1 ⟨rfl, b1⟩
      go_wp2_with fail
      go_ret
      exact ⟨rfl, hB.trans (b1.mono hB.size)⟩
theorem walk (W : World) (a0 : Option Addr) (n0 c0 : Nat) (w0 : IsRow .i64 W a0 n0 c0) (a1 : Int) (w1 : 0 ≤ a1 ∧ a1 ≤ 255) :
    Calls Try.prog 5 #[.slice a0 n0 c0, .int .u8 a1] W fun e W' => e = .returned (.bool true) ∧ Below W.heap.size W W' := by
  obtain ⟨xs, hl, _, hm, hr, hwf⟩ := w0
  obtain ⟨n, rfl⟩ : ∃ n : Nat, a1 = n := ⟨a1.toNat, by omega⟩
  by_cases h : 100 < n0
  · have g1 : decide (100 < (n0 : Int)) = true := decide_eq_true (by omega)
    clear hl hr hwf
    go_enter Try.func5, Try.ntmps5
    go_wp2_with fail
    refine (live20 _).mono ?_
    rintro e w1 ⟨rfl, b1⟩
    go_wp2_with fail
    go_ret
    exact ⟨rfl, b1⟩
  · exact main W a0 n0 c0 xs hl hr hwf (by omega) n (by omega)
end tickSums
end Go.Proofs.Ytlbkmheggdgfoaa
