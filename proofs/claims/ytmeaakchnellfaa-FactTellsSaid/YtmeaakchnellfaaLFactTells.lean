/- FactTells: any number's primes, how often each divides it, that they make it, and whether it is one; or why there are none. -/
import Derived.Test.YtmeaakchnellfaaFacs
namespace Go.Proofs.Ytmeaakchnellfaa
open Go.ChangeShapes Go.WideShapes Go.ChangeAt Go.RowKit
set_option linter.unusedVariables false
namespace factTells
theorem pw_pos : ∀ (L : List (Nat × Nat)), (∀ x ∈ L, 2 ≤ x.1 ∧ 1 ≤ x.2) → 1 ≤ pw L := fun L h => by
  have := pw_len L h
  have := Nat.pow_pos (n := L.length) (show 0 < 2 by omega)
  omega
theorem facts {N : Nat} (hN : 1 ≤ N) {i : Nat} (hi : i < (fa N).length) :
    ∃ p e M : Nat, (fa N).getD i (0, 0) = (p, e) ∧ 2 ≤ p ∧ p ≤ N ∧ e = mu p N ∧ e ≤ N ∧ pw ((fa N).take i) = M ∧ pw ((fa N).take (i + 1)) = M * p ^ e ∧ (∀ j, j ≤ e → M * p ^ j ≤ N) := by
  have hall := fl_all (k := N + 1) hN
  have hmem : (fa N)[i] ∈ fa N := List.getElem_mem hi
  rcases hx : (fa N)[i] with ⟨p, e⟩
  rw [hx] at hmem
  obtain ⟨h1, h2, h3⟩ := (fa_mem hN).1 hmem
  have hg : (fa N).getD i (0, 0) = (p, e) := by simp [List.getD, hi, hx]
  have hs : pw ((fa N).take (i + 1)) = pw ((fa N).take i) * p ^ e := by
    rw [List.take_succ_eq_append_getElem hi, pw_app, hx, pw_one]
  have hle : pw ((fa N).take i) * p ^ e ≤ N := by
    have e1 : pw (fa N) = pw ((fa N).take (i + 1)) * pw ((fa N).drop (i + 1)) := by rw [← pw_app, List.take_append_drop]
    rw [pw_fa hN, hs] at e1
    have : 1 ≤ pw ((fa N).drop (i + 1)) := pw_pos _ (fun x hx => hall x (List.mem_of_mem_drop hx))
    have := Nat.le_mul_of_pos_right (pw ((fa N).take i) * p ^ e) this
    omega
  have hM : 1 ≤ pw ((fa N).take i) := pw_pos _ (fun x hx => hall x (List.mem_of_mem_take hx))
  have hpe : p ^ e ≤ N := by
    have := Nat.le_mul_of_pos_left (p ^ e) hM
    omega
  have h2p := h1.1
  have hee : e < p ^ e := Nat.lt_pow_self (by omega)
  refine ⟨p, e, _, hg, h2p, Nat.le_of_dvd hN h2, h3, by omega, rfl, hs, fun j hj => ?_⟩
  have := Nat.mul_le_mul_left (pw ((fa N).take i)) (Nat.pow_le_pow_right (n := p) (by omega) hj)
  omega
set_option maxRecDepth 100000 in
set_option maxHeartbeats 4000000 in
theorem main (W : World) (N : Nat) (h1 : 1 ≤ N) (h2 : N ≤ 16777216) :
    Calls Try.prog 3 #[.int .i64 (N : Int)] W fun e W' => e = .returned (.bool true) ∧ Below W.heap.size W W' := by
  have FF := Lib.hid (fun w => fact_factors N w h1 h2)
  have FP := Lib.hid (fun w => fact_prime (N : Int) w)
  have RP := Lib.hid (fun w => r3_prime (N : Int) w (by omega))
  have RI := fun w => r3_is (N : Int) w
  rw [decide_eq_true (by omega)] at RI
  have RI := Lib.hid RI
  have PR := Lib.hid (fun w => r3_primes N w h1 h2)
  have TI := Lib.hid (fun p w (hp : 2 ≤ p) => r3_times p N w hp h1 (by omega))
  have FX := Lib.hid (fun i (hi : i < (fa N).length) => facts h1 hi)
  have P0 := Lib.hid (show pw ((fa N).take 0) = 1 from rfl)
  have PE := Lib.hid (show pw ((fa N).take (fa N).length) = N by rw [List.take_length]; exact pw_fa h1)
  have FA := Lib.hid (fun i => fsts_at (fa N) i)
  have FL := fa_len h1 h2
  have hB : Below W.heap.size W W := Below.refl _ _
  generalize fsts (fa N) = fs at *
  generalize fa N = L at *
  obtain ⟨n, hn⟩ : ∃ n, L.length = n := ⟨_, rfl⟩
  rw [hn] at FX FL PE PR
  have GP := Lib.hid (fun w e w' (h : GivesP w L e w') => (show ∃ a c, e = .returned (.tuple #[.slice a n c, .int .i64 0]) ∧ RowP w' a n L ∧ Below w.heap.size w w' by unfold GivesP at h; rw [hn] at h; exact h))
  clear hn
  generalize prb (N : Int) = z at *
  go_enter Try.func3, Try.ntmps3
  go_wp2_with fail
  refine (FF.out _).mono ?_
  intro e w1 h
  obtain ⟨p1, k1, rfl, hr, b1⟩ := GP.out _ _ _ h
  have R1 := Lib.hid hr; clear hr h
  have hB := hB.trans (b1.mono hB.size); clear b1
  go_wp2_with fail
  refine (FP.out _).mono ?_
  rintro e w1 ⟨rfl, b1⟩
  have R1 := Lib.hid (R1.out.below b1); have hB := hB.trans (b1.mono hB.size); clear b1
  go_wp2_with fail
  refine (RP.out _).mono ?_
  rintro e w1 ⟨rfl, rfl⟩
  go_wp2_with fail
  refine (RI.out _).mono ?_
  rintro e w1 ⟨rfl, rfl⟩
  go_wp2_with fail
  refine (PR.out _).mono ?_
  rintro e w1 ⟨p2, k2, rfl, hr, b1⟩
  have R2 := Lib.hid hr; clear hr
  have R1 := Lib.hid (R1.out.below b1); have hB := hB.trans (b1.mono hB.size); clear b1
  clear FF FP RP RI PR GP
  go_wp2_with fail
  go_loopw [6, 7] (fun x y wr => ∃ i m : Nat, i ≤ n ∧ y = .int .i64 i ∧ x = .int .i64 m ∧ Hid (pw (L.take i) = m) ∧ Hid (RowP wr p1 n L) ∧ Hid (RowI wr p2 n fs) ∧ Below W.heap.size W wr) (fun _ y _ => n - (intOf y).toNat)
  case atStart => exact ⟨0, 1, Nat.zero_le _, rfl, rfl, P0, R1, R2, hB⟩
  case round =>
    clear R1 R2 hB P0
    obtain ⟨i, m, hi, rfl, rfl, HM, R1, R2, hB⟩ := hrel
    by_cases hlt : i < n
    · obtain ⟨p, e, M, g1, g2, g3, g4, g5, g6, g7, g8⟩ := FX.out i hlt
      have g8 := Lib.hid g8
      rw [HM.out] at g6
      subst g6
      obtain ⟨b1, o1, rfl, hb1, hc1, hd1⟩ := R1.out.cell i hlt
      obtain ⟨b2, o2, rfl, hb2, hc2, x0, x1⟩ := R2.out.cell hlt
      rw [FA.out i, g1] at hc2 x0 x1
      rw [g1] at hc1 hd1
      have hc1 : wr.cell? ⟨b1, o1 + i * 2, none⟩ = some (.int .i64 (p : Int)) := hc1
      have hd1 : wr.cell? ⟨b1, o1 + i * 2 + 1, none⟩ = some (.int .i64 (e : Int)) := hd1
      have hc2 : wr.cell? ⟨b2, o2 + i, none⟩ = some (.int .i64 (p : Int)) := hc2
      have TT := Lib.hid (fun w => by have := TI.out p w g2; rw [← g4] at this; exact this)
      have hk0 : (0 : Int) ≤ (i : Int) := by omega
      have hk1 : (i : Int) < (n : Int) := by omega
      have dd : decide ((i : Int) < (n : Int)) = true := decide_eq_true (by omega)
      have G7 := Lib.hid g7
      have GI := Lib.hid g1
      clear g1 g4 g7 x0 x1
      go_wp2_with fail
      go_quiet ((go_at_call 18; exact Calls.quiet_of_same ((TT.out _).mono fun e w' ⟨he, hw⟩ => ⟨he, hw.symm⟩)))
      go_wp2_with fail
      go_loopw [6, 8] (fun x y wr => ∃ j u : Nat, j ≤ e ∧ y = .int .i64 j ∧ x = .int .i64 u ∧ Hid (u = m * p ^ j) ∧ Hid (RowP wr (some ⟨b1, o1, none⟩) n L) ∧ Hid (RowI wr (some ⟨b2, o2, none⟩) n fs) ∧ Below W.heap.size W wr) (fun _ y _ => e - (intOf y).toNat)
      case atStart => exact ⟨0, m, Nat.zero_le _, rfl, rfl, Lib.hid (by rw [Nat.pow_zero, Nat.mul_one]), Lib.hid (R1.out.below (below_drewN (Below.refl _ _) _)), Lib.hid (R2.out.below (below_drewN (Below.refl _ _) _)), below_drewN hB _⟩
      case round =>
        clear R1 R2 hB hc1 hc2 hd1
        obtain ⟨j, u, hj, rfl, rfl, HU, R1, R2, hB⟩ := hrel
        obtain ⟨b3, o3, he3, hb3, hc3, hd3⟩ := R1.out.cell i hlt
        cases he3
        rw [show L.getD i (0, 0) = (p, e) from GI.out] at hc3 hd3
        have hc1 : wr.cell? ⟨b1, o1 + i * 2, none⟩ = some (.int .i64 (p : Int)) := hc3
        have hd1 : wr.cell? ⟨b1, o1 + i * 2 + 1, none⟩ = some (.int .i64 (e : Int)) := hd3
        clear hc3 hd3
        by_cases hlt2 : j < e
        · have dd2 : decide ((j : Int) < (e : Int)) = true := decide_eq_true (by omega)
          obtain ⟨V, hV⟩ : ∃ V, u * p = V := ⟨_, rfl⟩
          have hVe : V = m * p ^ (j + 1) := by rw [← hV, HU.out, Nat.pow_succ, Nat.mul_assoc]
          have hVN : V ≤ N := by rw [hVe]; exact g8.out (j + 1) hlt2
          have hw : IntKind.i64.wrap ((u : Int) * (p : Int)) = (V : Int) := by
            rw [show (u : Int) * (p : Int) = ((u * p : Nat) : Int) from (Int.natCast_mul u p).symm, hV]
            exact IntWalk.i64_in _ (by omega)
          have HV := Lib.hid hVe
          clear hVe hV
          go_wp2_with fail
          go_roundw
          case rel => exact ⟨j + 1, V, by omega, by go_num, rfl, HV, R1, R2, hB⟩
          case measure => (first | (simp [intOf]; done) | (simp [intOf]; omega) | (simp only [intOf]; omega))
        · obtain rfl : j = e := by omega
          have dd2 : decide ((j : Int) < (j : Int)) = false := decide_eq_false (by omega)
          go_wp2_with fail
          go_roundw
          case rel => exact ⟨i + 1, u, by omega, by go_num, rfl, Lib.hid (by rw [G7.out, HU.out]), R1, R2, hB⟩
          case measure => (first | (simp [intOf]; done) | (simp [intOf]; omega) | (simp only [intOf]; omega))
    · obtain rfl : i = n := by omega
      have dd : decide ((i : Int) < (i : Int)) = false := decide_eq_false (by omega)
      have E : Hid (m = N) := Lib.hid (by rw [← HM.out]; exact PE.out)
      have E2 := E.out
      subst E2
      go_wp2_with fail
      refine (live3 _).mono ?_
      rintro e w1 ⟨rfl, b1⟩
      have hB := hB.trans (b1.mono hB.size); clear b1
      go_wp2_with fail
      go_ret
      exact ⟨rfl, hB⟩
theorem outside (W : World) (n : Int) (w : -9223372036854775808 ≤ n ∧ n ≤ 9223372036854775807) (h : ¬ (1 ≤ n ∧ n ≤ 16777216)) :
    Calls Try.prog 3 #[.int .i64 n] W fun e W' => e = .returned (.bool true) ∧ Below W.heap.size W W' := by
  have FF := Lib.hid (fun w => fact_factorsno n w h)
  have FP := Lib.hid (fun w => fact_prime n w)
  have RP := Lib.hid (fun v => r3_prime n v (by omega))
  have RI := fun w => r3_is n w
  rw [decide_eq_false h] at RI
  have RI := Lib.hid RI
  have hB : Below W.heap.size W W := Below.refl _ _
  generalize prb n = z at *
  go_enter Try.func3, Try.ntmps3
  go_wp2_with fail
  refine (FF.out _).mono ?_
  rintro e w1 ⟨rfl, rfl⟩
  go_wp2_with fail
  refine (FP.out _).mono ?_
  rintro e w1 ⟨rfl, b1⟩
  have hB := hB.trans (b1.mono hB.size); clear b1
  go_wp2_with fail
  refine (RP.out _).mono ?_
  rintro e w1 ⟨rfl, rfl⟩
  go_wp2_with fail
  refine (RI.out _).mono ?_
  rintro e w1 ⟨rfl, rfl⟩
  go_wp2_with fail
  refine (live3 _).mono ?_
  rintro e w1 ⟨rfl, b1⟩
  have hB := hB.trans (b1.mono hB.size); clear b1
  go_wp2_with fail
  go_ret
  exact ⟨rfl, hB⟩
theorem walk (W : World) (a0 : Int) (w0 : -9223372036854775808 ≤ a0 ∧ a0 ≤ 9223372036854775807) :
    Calls Try.prog 3 #[.int .i64 a0] W fun e W' => e = .returned (.bool true) ∧ Below W.heap.size W W' := by
  by_cases h : 1 ≤ a0 ∧ a0 ≤ 16777216
  · obtain ⟨N, rfl⟩ : ∃ N : Nat, a0 = N := ⟨a0.toNat, by omega⟩
    exact main W N (by omega) (by omega)
  · exact outside W a0 w0 h
end factTells
end Go.Proofs.Ytmeaakchnellfaa
