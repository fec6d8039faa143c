/- GenTells: which number makes all below any prime up to 2^17, its powers, and their logs; or why there are none. -/
import Derived.Test.YtmeaakchnellfaaGenl
namespace Go.Proofs.Ytmeaakchnellfaa
open Go.ChangeShapes Go.WideShapes Go.ChangeAt Go.RowKit
set_option linter.unusedVariables false
namespace genTells
set_option maxRecDepth 100000 in
set_option maxHeartbeats 4000000 in
theorem main (W : World) (q : Nat) (hq : isP q) (hq2 : q ≤ 131072) :
    Calls Try.prog 6 #[.int .i64 (q : Int)] W fun e W' => e = .returned (.bool true) ∧ Below W.heap.size W W' := by
  have q0 := hq.1
  have GG := Lib.hid (fun w => gen_gen q w hq hq2)
  have GP := Lib.hid (fun w => gen_powers q w hq hq2)
  have GL := Lib.hid (fun w => gen_logs q w hq hq2)
  have RG := Lib.hid (fun w => r9_gen q w hq hq2)
  have RP := Lib.hid (fun w => r9_powers q w hq hq2)
  have RI := fun w => r9_is (q : Int) w (by omega)
  rw [qrb_of hq hq2] at RI
  have RI := Lib.hid RI
  have hB : Below W.heap.size W W := Below.refl _ _
  go_enter Try.func6, Try.ntmps6
  go_wp2_with fail
  refine (GG.out _).mono ?_
  rintro e w1 ⟨g, rfl, hg, b1⟩
  have hB := hB.trans (b1.mono hB.size); clear b1
  have MU := Lib.hid (fun a (h : IsMk q a) => (show g = a from hg.uniq h))
  have FX := Lib.hid (fun i (hi : i < q - 1) => (show (gpl q g).getD i 0 = ((g ^ i % q : Nat) : Int) ∧ 1 ≤ g ^ i % q ∧ g ^ i % q < q ∧ (inverl (pm1 q g) (q - 1)).getD (g ^ i % q - 1) 0 = (i : Int) from
    ⟨gpl_at q g i hi, (pow_pos hq hg.one hg.lt i).1, Nat.mod_lt _ (by omega), log_at hq hg hi⟩))
  clear hg
  obtain ⟨n, hn⟩ : ∃ n, q - 1 = n := ⟨_, rfl⟩
  have hni : (q : Int) - 1 = (n : Int) := by omega
  have GP := Lib.hid (fun w => (GP.out w).mono (fun e w' (h : ∃ g, IsMk q g ∧ GivesIOk w (q - 1) (gpl q g) e w') => (show GivesIOk w n (gpl q g) e w' by
    obtain ⟨a, h1, h2⟩ := h
    obtain rfl := MU.out a h1
    rw [hn] at h2
    exact h2)))
  have GL := Lib.hid (fun w => (GL.out w).mono (fun e w' (h : ∃ g, IsMk q g ∧ GivesIOk w (q - 1) (inverl (pm1 q g) (q - 1)) e w') => (show GivesIOk w n (inverl (pm1 q g) n) e w' by
    obtain ⟨a, h1, h2⟩ := h
    obtain rfl := MU.out a h1
    rw [hn] at h2
    exact h2)))
  have RP := Lib.hid (fun w => (RP.out w).mono (fun e w' (h : ∃ g, IsMk q g ∧ GivesI w (q - 1) (gpl q g) e w') => (show GivesI w n (gpl q g) e w' by
    obtain ⟨a, h1, h2⟩ := h
    obtain rfl := MU.out a h1
    rw [hn] at h2
    exact h2)))
  rw [hn] at FX
  generalize inverl (pm1 q g) n = ls at *
  generalize gpl q g = gs at *
  go_wp2_with fail
  refine (GP.out _).mono ?_
  rintro e w1 ⟨p1, k1, rfl, hr, b1⟩
  have R1 := Lib.hid hr; clear hr
  have hB := hB.trans (b1.mono hB.size); clear b1
  go_wp2_with fail
  refine (GL.out _).mono ?_
  rintro e w1 ⟨p2, k2, rfl, hr, b1⟩
  have R2 := Lib.hid hr; clear hr
  have R1 := Lib.hid (R1.out.below b1); have hB := hB.trans (b1.mono hB.size); clear b1
  go_wp2_with fail
  refine (RI.out _).mono ?_
  rintro e w1 ⟨rfl, rfl⟩
  go_wp2_with fail
  refine (RG.out _).mono ?_
  rintro e w1 ⟨a, rfl, ha, rfl⟩
  obtain rfl := MU.out a ha
  clear ha
  go_wp2_with fail
  refine (RP.out _).mono ?_
  rintro e w1 ⟨p3, k3, rfl, hr, b1⟩
  have R3 := Lib.hid hr; clear hr
  have R1 := Lib.hid (R1.out.below b1); have R2 := Lib.hid (R2.out.below b1); have hB := hB.trans (b1.mono hB.size); clear b1
  go_wp2_with fail
  refine (c_samei R1.out R3.out).mono ?_
  rintro e w1 ⟨rfl, b1⟩
  have R1 := Lib.hid (R1.out.below b1); have R2 := Lib.hid (R2.out.below b1); have hB := hB.trans (b1.mono hB.size); clear b1
  clear GG GP GL RG RP RI R3
  go_wp2_with fail
  go_loopw [9] (fun i wr => ∃ k : Nat, k ≤ n ∧ i = .int .i64 k ∧ Hid (RowI wr p1 n gs) ∧ Hid (RowI wr p2 n ls) ∧ Below W.heap.size W wr) (fun i _ => n - (intOf i).toNat)
  case atStart => exact ⟨0, Nat.zero_le _, rfl, R1, R2, hB⟩
  case round =>
    clear R1 R2 hB
    obtain ⟨k, hk, rfl, R1, R2, hB⟩ := hrel
    by_cases hlt : k < n
    · obtain ⟨f1, f2, f3, f4⟩ := FX.out k hlt
      obtain ⟨b1, o1, rfl, hb1, hc1, x0, x1⟩ := R1.out.cell hlt
      rw [f1] at hc1 x0 x1
      generalize g ^ k % q = y at *
      obtain ⟨v, hv⟩ : ∃ v, y - 1 = v := ⟨_, rfl⟩
      rw [hv] at f4
      have hvi : (y : Int) - 1 = (v : Int) := by omega
      have hvn : v < n := by omega
      obtain ⟨b2, o2, rfl, hb2, hc2, y0, y1⟩ := R2.out.cell hvn
      rw [f4] at hc2 y0 y1
      have dd : decide ((k : Int) < (n : Int)) = true := decide_eq_true (by omega)
      have d1 : decide ((y : Int) < 1) = false := decide_eq_false (by omega)
      have d2 : decide ((q : Int) ≤ (y : Int)) = false := decide_eq_false (by omega)
      have hv0 : (0 : Int) ≤ (v : Int) := by omega
      have hv1 : (v : Int) < (n : Int) := by omega
      clear f1 f4 hv
      go_wp2_with fail
      go_roundw
      case rel => exact ⟨k + 1, by omega, by go_num, R1, R2, hB⟩
      case measure => (first | (simp [intOf]; done) | (simp [intOf]; omega) | (simp only [intOf]; omega))
    · obtain rfl : k = n := by omega
      have dd : decide ((k : Int) < (k : Int)) = false := decide_eq_false (by omega)
      go_wp2_with fail
      refine (live9 _).mono ?_
      rintro e w1 ⟨rfl, b1⟩
      have hB := hB.trans (b1.mono hB.size); clear b1
      go_wp2_with fail
      go_ret
      exact ⟨rfl, hB⟩
theorem noprime (W : World) (n : Int) (hn : n ≤ 9223372036854775807) (h : qrb n = false) :
    Calls Try.prog 6 #[.int .i64 n] W fun e W' => e = .returned (.bool true) ∧ Below W.heap.size W W' := by
  have GG := Lib.hid (fun w => gen_genno n w h)
  have GP := Lib.hid (fun w => gen_powersno n w h)
  have GL := Lib.hid (fun w => gen_logsno n w h)
  have RI := fun w => r9_is n w hn
  rw [h] at RI
  have RI := Lib.hid RI
  have hB : Below W.heap.size W W := Below.refl _ _
  go_enter Try.func6, Try.ntmps6
  go_wp2_with fail
  refine (GG.out _).mono ?_
  rintro e w1 ⟨rfl, b1⟩
  have hB := hB.trans (b1.mono hB.size); clear b1
  go_wp2_with fail
  refine (GP.out _).mono ?_
  rintro e w1 ⟨rfl, b1⟩
  have hB := hB.trans (b1.mono hB.size); clear b1
  go_wp2_with fail
  refine (GL.out _).mono ?_
  rintro e w1 ⟨rfl, b1⟩
  have hB := hB.trans (b1.mono hB.size); clear b1
  go_wp2_with fail
  refine (RI.out _).mono ?_
  rintro e w1 ⟨rfl, rfl⟩
  go_wp2_with fail
  refine (live9 _).mono ?_
  rintro e w1 ⟨rfl, b1⟩
  have hB := hB.trans (b1.mono hB.size); clear b1
  go_wp2_with fail
  go_ret
  exact ⟨rfl, hB⟩
theorem walk (W : World) (a0 : Int) (w0 : -9223372036854775808 ≤ a0 ∧ a0 ≤ 9223372036854775807) :
    Calls Try.prog 6 #[.int .i64 a0] W fun e W' => e = .returned (.bool true) ∧ Below W.heap.size W W' := by
  cases h : qrb a0 with
  | false => exact noprime W a0 w0.2 h
  | true =>
    obtain ⟨q, rfl, hq, hq2⟩ := qrb_yes h
    exact main W q hq hq2
end genTells
end Go.Proofs.Ytmeaakchnellfaa
