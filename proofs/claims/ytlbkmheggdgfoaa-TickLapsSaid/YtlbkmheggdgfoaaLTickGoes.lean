/- TickGoes: where a clock stands whenever it is asked. -/
import Derived.Test.YtlbkmheggdgfoaaTick2
namespace Go.Proofs.Ytlbkmheggdgfoaa
open Go.ChangeShapes Go.WideShapes Go.ChangeAt Go.RowKit
set_option linter.unusedVariables false
namespace tickGoes
theorem drop_nil (xs : List Int) (k : Nat) (h : xs.length ≤ k) : xs.drop k = [] := List.drop_eq_nil_iff.2 h
theorem now_at (B C : Nat) (xs : List Int) (k : Nat) (w : World) (hB : B ≤ C) (hq : k ≤ 1000) (h : Clk w C (xs.drop k) (nw xs k) k) : Calls Try.prog 14 #[.pointer (some ⟨C, 0, none⟩)] w (Went w B C (xs.drop (k + 1)) (nw xs (k + 1)) ((k + 1 : Nat) : Int)) := by
  by_cases hk : k < xs.length
  · rw [List.drop_eq_getElem_cons hk] at h
    have := now_on B C _ _ _ k w hB hq h
    rw [nw_succ xs k hk]
    have e : xs.getD k 0 = xs[k] := by simp [List.getD, hk]
    rw [e]
    exact this
  · rw [drop_nil xs k (by omega)] at h
    rw [drop_nil xs (k + 1) (by omega), nw_over xs k (by omega)]
    exact now_over B C _ k w hB hq h
set_option maxRecDepth 100000 in
theorem main (W : World) (a0 : Option Addr) (n0 c0 : Nat) (xs : List Int) (hl : xs.length = n0) (hr : Reads .i64 W a0 xs) (hwf : ∀ x ∈ xs, (Lit.int .i64 x).wf = true) (hn : n0 ≤ 100) (n : Nat) (w1 : n ≤ 255) :
    Calls Try.prog 3 #[.slice a0 n0 c0, .int .u8 n] W fun e W' => e = .returned (.bool true) ∧ Below W.heap.size W W' := by
  have g1 : decide (100 < (n0 : Int)) = false := decide_eq_false (by omega)
  have M := Lib.hid (tick_new a0 n0 c0 xs W hl hr hwf (by omega))
  have R := Lib.hid (fun (w : World) (j : Nat) (hb : Below W.heap.size W w) (hj : j ≤ 1000) => r20_now a0 n0 c0 xs j w hl (hr.below hb) hwf (by omega) hj)
  clear hl hr hwf
  go_enter Try.func3, Try.ntmps3
  go_wp2_with fail
  refine M.out.mono ?_
  rintro e w1 ⟨C, rfl, hC, hk, b1⟩
  have K := Lib.hid hk
  clear hk M
  go_wp2_with fail
  go_loopw [6, 7, 8] (fun l i _ wr => ∃ k : Nat, k ≤ n ∧ i = .int .i64 ((k + 1 : Nat) : Int) ∧ l = .int .i64 (nw xs k) ∧ Hid (Clk wr C (xs.drop k) (nw xs k) k) ∧ Below W.heap.size W wr) (fun _ i _ _ => n + 1 - (intOf i).toNat)
  case atStart => exact ⟨0, by omega, rfl, rfl, K, b1⟩
  case round =>
    clear K b1
    obtain ⟨k, hk, rfl, rfl, K, hB⟩ := hrel
    by_cases hlt : k < n
    · have N := Lib.hid (fun w h => now_at W.heap.size C xs k w hC (by omega) h)
      have R1 := Lib.hid (fun w hb => R.out w (k + 1) hb (by omega))
      have A := Lib.hid (fun w h => asked C (xs.drop (k + 1)) (nw xs (k + 1)) ((k + 1 : Nat) : Int) w h)
      have hm := nw_mono1 xs k
      have hd : decide (nw xs (k + 1) < nw xs k) = false := decide_eq_false (by omega)
      have g2 : decide (((k + 1 : Nat) : Int) ≤ (n : Int)) = true := decide_eq_true (by omega)
      have g3 : decide ((k : Int) + 1 ≤ (n : Int)) = true := decide_eq_true (by omega)
      clear hm
      go_wp2_with fail
      refine (N.out _ K.out).mono ?_
      rintro e w1 ⟨rfl, hk', b1⟩
      have K' := Lib.hid hk'
      have hB' := hB.trans b1
      clear hk' K hB b1
      go_wp2_with fail
      refine (R1.out _ hB').mono ?_
      rintro e w1 ⟨rfl, rfl⟩
      go_wp2_with fail
      refine (A.out _ K'.out).mono ?_
      rintro e w1 ⟨rfl, rfl⟩
      go_wp2_with fail
      go_roundw
      case rel => exact ⟨k + 1, by omega, by go_num, rfl, K', hB'⟩
      case measure => (first | (simp [intOf]; done) | (simp [intOf]; omega) | (simp only [intOf]; omega))
    · obtain rfl : k = n := by omega
      have g2 : decide (((k + 1 : Nat) : Int) ≤ (k : Int)) = false := decide_eq_false (by omega)
      have g3 : decide ((k : Int) + 1 ≤ (k : Int)) = false := decide_eq_false (by omega)
      go_wp2_with fail
      refine (now_nil _).mono ?_
      rintro e w1 ⟨rfl, rfl⟩
      go_wp2_with fail
      refine (asked_nil _).mono ?_
      rintro e w1 ⟨rfl, rfl⟩
      go_wp2_with fail
      refine (live20 _).mono ?_
      rintro e w1 ⟨rfl, b1⟩
      go_wp2_with fail
      go_ret
      exact ⟨rfl, hB.trans (b1.mono hB.size)⟩
theorem walk (W : World) (a0 : Option Addr) (n0 c0 : Nat) (w0 : IsRow .i64 W a0 n0 c0) (a1 : Int) (w1 : 0 ≤ a1 ∧ a1 ≤ 255) :
    Calls Try.prog 3 #[.slice a0 n0 c0, .int .u8 a1] W fun e W' => e = .returned (.bool true) ∧ Below W.heap.size W W' := by
  obtain ⟨xs, hl, _, hm, hr, hwf⟩ := w0
  obtain ⟨n, rfl⟩ : ∃ n : Nat, a1 = n := ⟨a1.toNat, by omega⟩
  by_cases h : 100 < n0
  · have g1 : decide (100 < (n0 : Int)) = true := decide_eq_true (by omega)
    clear hl hr hwf
    go_enter Try.func3, Try.ntmps3
    go_wp2_with fail
    refine (live20 _).mono ?_
    rintro e w1 ⟨rfl, b1⟩
    go_wp2_with fail
    go_ret
    exact ⟨rfl, b1⟩
  · exact main W a0 n0 c0 xs hl hr hwf (by omega) n (by omega)
end tickGoes
end Go.Proofs.Ytlbkmheggdgfoaa
