/- FactDivisors: all divisors of any number, rising, and that there are as many as its primes say; or why there are none. -/
import Derived.Test.YtmeaakchnellfaaDivr
import Derived.Test.YtmeaakchnellfaaSamei
namespace Go.Proofs.Ytmeaakchnellfaa
open Go.ChangeShapes Go.WideShapes Go.ChangeAt Go.RowKit
set_option linter.unusedVariables false
namespace factDivisors
theorem nd_pos : ∀ (L : List (Nat × Nat)), 1 ≤ nd L
  | [] => Nat.le_refl _
  | x :: l => by rw [nd]; exact Nat.mul_pos (by omega) (nd_pos l)
theorem facts {N : Nat} (hN : 1 ≤ N) {i : Nat} (hi : i < (fa N).length) :
    ∃ e M : Nat, ((fa N).getD i (0, 0)).2 = e ∧ e ≤ N ∧ nd ((fa N).take i) = M ∧ nd ((fa N).take (i + 1)) = M * (e + 1) ∧ M * (e + 1) ≤ N := by
  have hmem : (fa N)[i] ∈ fa N := List.getElem_mem hi
  have hg : (fa N).getD i (0, 0) = (fa N)[i] := by simp [List.getD, hi]
  have hs : nd ((fa N).take (i + 1)) = nd ((fa N).take i) * ((fa N)[i].2 + 1) := by
    rw [List.take_succ_eq_append_getElem hi, nd_app, nd_one]
  have hle : nd ((fa N).take i) * ((fa N)[i].2 + 1) ≤ N := by
    have e1 : nd (fa N) = nd ((fa N).take (i + 1)) * nd ((fa N).drop (i + 1)) := by rw [← nd_app, List.take_append_drop]
    rw [← tau_nd hN, hs] at e1
    have h1 : tau N ≤ N := cf_le _ _
    have h2 := Nat.le_mul_of_pos_right (nd ((fa N).take i) * ((fa N)[i].2 + 1)) (nd_pos ((fa N).drop (i + 1)))
    omega
  have h3 := Nat.le_mul_of_pos_left ((fa N)[i].2 + 1) (nd_pos ((fa N).take i))
  exact ⟨_, _, by rw [hg], by omega, rfl, hs, hle⟩
set_option maxRecDepth 100000 in
set_option maxHeartbeats 4000000 in
theorem main (W : World) (N : Nat) (h1 : 1 ≤ N) (h2 : N ≤ 16777216) :
    Calls Try.prog 4 #[.int .i64 (N : Int)] W fun e W' => e = .returned (.bool true) ∧ Below W.heap.size W W' := by
  have FF := Lib.hid (fun w => fact_factors N w h1 h2)
  have FD := Lib.hid (fun w => fact_divisors N w h1 h2)
  have RD := Lib.hid (fun w => r3_divisors N w h1 h2)
  have RI := fun w => r3_is (N : Int) w
  rw [decide_eq_true (by omega)] at RI
  have RI := Lib.hid RI
  have FX := Lib.hid (fun i (hi : i < (fa N).length) => facts h1 hi)
  have P0 := Lib.hid (show nd ((fa N).take 0) = 1 from rfl)
  have PE := Lib.hid (show nd ((fa N).take (fa N).length) = nd (fa N) by rw [List.take_length])
  have DL := Lib.hid (fun K (h : IsRoot N K) => dvl_len h1 h.1 h.2)
  have RU := Lib.hid (fun a b (h : IsRoot N a) (k : IsRoot N b) => root_uniq h.1 h.2 k.1 k.2)
  have FL := fa_len h1 h2
  have hB : Below W.heap.size W W := Below.refl _ _
  generalize fa N = L at *
  obtain ⟨n, hn⟩ : ∃ n, L.length = n := ⟨_, rfl⟩
  rw [hn] at FX FL PE
  have GP := Lib.hid (fun w e w' (h : GivesP w L e w') => (show ∃ a c, e = .returned (.tuple #[.slice a n c, .int .i64 0]) ∧ RowP w' a n L ∧ Below w.heap.size w w' by unfold GivesP at h; rw [hn] at h; exact h))
  clear hn
  go_enter Try.func4, Try.ntmps4
  go_wp2_with fail
  refine (FD.out _).mono ?_
  rintro e w1 ⟨K, hK, p1, k1, rfl, hr, b1⟩
  obtain ⟨D, hD⟩ : ∃ D, (dvl N K).length = D := ⟨_, rfl⟩
  rw [hD] at hr
  rw [hD]
  have HDL := Lib.hid (show D = nd L by rw [← hD]; exact DL.out K hK)
  have RD1 := Lib.hid (fun w => (RD.out w).mono (fun e w' (h : ∃ K, IsRoot N K ∧ GivesI w (dvl N K).length (natl (dvl N K)) e w') => (show GivesI w D (natl (dvl N K)) e w' by
    obtain ⟨K2, h3, h4⟩ := h
    obtain rfl := RU.out K K2 hK h3
    rw [hD] at h4
    exact h4)))
  have R1 := Lib.hid hr; clear hr hK hD RD RU
  have hB := hB.trans (b1.mono hB.size); clear b1
  generalize natl (dvl N K) = ys at *
  go_wp2_with fail
  refine (RI.out _).mono ?_
  rintro e w1 ⟨rfl, rfl⟩
  go_wp2_with fail
  refine (FF.out _).mono ?_
  intro e w1 h
  obtain ⟨p2, k2, rfl, hr, b1⟩ := GP.out _ _ _ h
  have R2 := Lib.hid hr; clear hr h
  have R1 := Lib.hid (R1.out.below b1); have hB := hB.trans (b1.mono hB.size); clear b1
  clear FF FD GP RI DL
  go_wp2_with fail
  go_loopw [5, 8] (fun x y wr => ∃ i m : Nat, i ≤ n ∧ y = .int .i64 i ∧ x = .int .i64 m ∧ Hid (nd (L.take i) = m) ∧ Hid (RowI wr p1 D ys) ∧ Hid (RowP wr p2 n L) ∧ Below W.heap.size W wr) (fun _ y _ => n - (intOf y).toNat)
  case atStart => exact ⟨0, 1, Nat.zero_le _, rfl, rfl, P0, R1, R2, hB⟩
  case round =>
    clear R1 R2 hB P0
    obtain ⟨i, m, hi, rfl, rfl, HM, R1, R2, hB⟩ := hrel
    by_cases hlt : i < n
    · obtain ⟨e, M, g1, g2, g3, g4, g5⟩ := FX.out i hlt
      rw [HM.out] at g3
      subst g3
      obtain ⟨b2, o2, rfl, hb2, _, hd1⟩ := R2.out.cell i hlt
      rw [g1] at hd1
      have dd : decide ((i : Int) < (n : Int)) = true := decide_eq_true (by omega)
      have hk0 : (0 : Int) ≤ (i : Int) := by omega
      have hk1 : (i : Int) < (n : Int) := by omega
      obtain ⟨V, hV⟩ : ∃ V, m * (e + 1) = V := ⟨_, rfl⟩
      rw [hV] at g4 g5
      have hw : IntKind.i64.wrap ((m : Int) * ((e : Int) + 1)) = (V : Int) := by
        rw [show (m : Int) * ((e : Int) + 1) = ((m * (e + 1) : Nat) : Int) by rw [Int.natCast_mul]; rfl, hV]
        exact IntWalk.i64_in _ (by omega)
      have G4 := Lib.hid g4
      clear g1 g4 hV
      go_wp2_with fail
      go_roundw
      case rel => exact ⟨i + 1, V, by omega, by go_num, rfl, G4, R1, R2, hB⟩
      case measure => (first | (simp [intOf]; done) | (simp [intOf]; omega) | (simp only [intOf]; omega))
    · obtain rfl : i = n := by omega
      have dd : decide ((i : Int) < (i : Int)) = false := decide_eq_false (by omega)
      have E : m = D := by rw [← HM.out, HDL.out, PE.out]
      subst E
      clear HM
      go_wp2_with fail
      refine (RD1.out _).mono ?_
      rintro e w1 ⟨p3, k3, rfl, hr, b1⟩
      have R3 := Lib.hid hr; clear hr
      have R1 := Lib.hid (R1.out.below b1); have hB := hB.trans (b1.mono hB.size); clear b1
      go_wp2_with fail
      refine (c_samei R1.out R3.out).mono ?_
      rintro e w1 ⟨rfl, b1⟩
      have hB := hB.trans (b1.mono hB.size); clear b1
      go_wp2_with fail
      refine (live3 _).mono ?_
      rintro e w1 ⟨rfl, b1⟩
      have hB := hB.trans (b1.mono hB.size); clear b1
      go_wp2_with fail
      go_ret
      exact ⟨rfl, hB⟩
theorem outside (W : World) (n : Int) (h : ¬ (1 ≤ n ∧ n ≤ 16777216)) :
    Calls Try.prog 4 #[.int .i64 n] W fun e W' => e = .returned (.bool true) ∧ Below W.heap.size W W' := by
  have FD := Lib.hid (fun w => fact_divisorsno n w h)
  have RI := fun w => r3_is n w
  rw [decide_eq_false h] at RI
  have RI := Lib.hid RI
  have hB : Below W.heap.size W W := Below.refl _ _
  go_enter Try.func4, Try.ntmps4
  go_wp2_with fail
  refine (FD.out _).mono ?_
  rintro e w1 ⟨rfl, rfl⟩
  go_wp2_with fail
  refine (RI.out _).mono ?_
  rintro e w1 ⟨rfl, rfl⟩
  go_wp2_with fail
  refine (live3 _).mono ?_
  rintro e w1 ⟨rfl, b1⟩
  have hB := hB.trans (b1.mono hB.size); clear b1
  go_wp2_with fail
  go_ret
  exact ⟨rfl, hB⟩
theorem walk (W : World) (a0 : Int) (w0 : -9223372036854775808 ≤ a0 ∧ a0 ≤ 9223372036854775807) :
    Calls Try.prog 4 #[.int .i64 a0] W fun e W' => e = .returned (.bool true) ∧ Below W.heap.size W W' := by
  by_cases h : 1 ≤ a0 ∧ a0 ≤ 16777216
  · obtain ⟨N, rfl⟩ : ∃ N : Nat, a0 = N := ⟨a0.toNat, by omega⟩
    exact main W N (by omega) (by omega)
  · exact outside W a0 h
end factDivisors
end Go.Proofs.Ytmeaakchnellfaa
