/- Package fact: Phi. -/
import Derived.Test.YtmeaakchnellfaaPhi
namespace Go.Proofs.Ytmeaakchnellfaa
open Go.ChangeShapes Go.WideShapes Go.ChangeAt Go.RowKit
set_option linter.unusedVariables false
set_option maxRecDepth 100000 in
set_option maxHeartbeats 4000000 in
theorem fact_phi (N : Nat) (W : World) (h1 : 1 ≤ N) (h2 : N ≤ 16777216) :
    Calls Try.prog 22 #[.int .i64 (N : Int)] W fun e w' => e = .returned (.tuple #[.int .i64 (cf (cop N) N : Nat), .int .i64 0]) ∧ Below W.heap.size W w' := by
  have FF := Lib.hid (fun w => fact_factors N w h1 h2)
  have PS := Lib.hid (fun i (hi : i < (fa N).length) => ph_step h1 hi)
  have P0 := Lib.hid (ph_zero N)
  have PE := Lib.hid (ph_all h1)
  have FL := fa_len h1 h2
  have hB : Below W.heap.size W W := Below.refl _ _
  generalize cf (cop N) N = z at *
  generalize fa N = L at *
  obtain ⟨n, hn⟩ : ∃ n, L.length = n := ⟨_, rfl⟩
  rw [hn] at PS FL PE
  have GP := Lib.hid (fun w e w' (h : GivesP w L e w') => (show ∃ a c, e = .returned (.tuple #[.slice a n c, .int .i64 0]) ∧ RowP w' a n L ∧ Below w.heap.size w w' by unfold GivesP at h; rw [hn] at h; exact h))
  clear hn
  go_enter Try.func22, Try.ntmps22
  go_wp2_with fail
  refine (FF.out _).mono ?_
  intro e w1 h
  obtain ⟨p1, k1, rfl, hr, b1⟩ := GP.out _ _ _ h
  have R1 := Lib.hid hr; clear hr h
  have hB := hB.trans (b1.mono hB.size); clear b1
  clear FF GP
  go_wp2_with fail
  go_loopw [6, 20] (fun x y wr => ∃ i m : Nat, i ≤ n ∧ y = .int .i64 i ∧ x = .int .i64 m ∧ Hid (ph N i = m) ∧ m ≤ N ∧ Hid (RowP wr p1 n L) ∧ Below W.heap.size W wr) (fun _ y _ => n - (intOf y).toNat)
  case atStart => exact ⟨0, N, Nat.zero_le _, rfl, rfl, P0, Nat.le_refl _, R1, hB⟩
  case round =>
    clear R1 hB P0
    obtain ⟨i, m, hi, rfl, rfl, HM, hm, R1, hB⟩ := hrel
    by_cases hlt : i < n
    · obtain ⟨p, c, g1, g2, g3, g4, g5, g6, g7⟩ := PS.out i hlt
      rw [HM.out] at g4
      obtain ⟨b1, o1, rfl, hb1, hc1, hd1⟩ := R1.out.cell i hlt
      rw [g1] at hc1
      generalize (L.getD i (0, 0)).2 = ex at *
      have dd : decide ((i : Int) < (n : Int)) = true := decide_eq_true (by omega)
      obtain ⟨y, hy⟩ : ∃ y, c * (p - 1) = y := ⟨_, rfl⟩
      rw [hy] at g6 g7
      have d1 : ((m : Int)).tdiv (p : Int) = ((c : Nat) : Int) := by rw [← g4]; rfl
      have d1' : ((m : Int)) / (p : Int) = ((c : Nat) : Int) := d1
      have hz1 : ((p : Int) == 0) = false := by simp; omega
      have hz2 : ¬ ((p : Int) = 0) := by omega
      have hz3 : ¬ (p = 0) := by omega
      have wd1 : IntKind.i64.wrap ((c : Nat) : Int) = ((c : Nat) : Int) := IntWalk.i64_in _ (by omega)
      have wd2 : IntKind.i64.wrap ((p : Int) - 1) = (p : Int) - 1 := IntWalk.i64_in _ (by omega)
      have wd3 : IntKind.i64.wrap ((c : Int) * ((p : Int) - 1)) = (y : Int) := by
        rw [show ((c : Int) * ((p : Int) - 1)) = ((c * (p - 1) : Nat) : Int) by rw [Int.natCast_mul]; congr 1; omega, hy]
        exact IntWalk.i64_in _ (by omega)
      clear g1 g4 hy
      have c0 : (wr.alloc (.cells #[.int .i64 (p : Int), .int .i64 (ex : Int)] 31)).cell? ⟨wr.heap.size, 0, none⟩ = some (.int .i64 (p : Int)) := by
        rw [cell_of_row _ _ 0 _ _ _ (heap_alloc_new wr (.cells #[.int .i64 (p : Int), .int .i64 (ex : Int)] 31))]; rfl
      have hB2 := hB.alloc hB.size (.cells #[.int .i64 (p : Int), .int .i64 (ex : Int)] 31)
      have R2 := Lib.hid (R1.out.below ((Below.refl _ _).alloc (Nat.le_refl _) (.cells #[.int .i64 (p : Int), .int .i64 (ex : Int)] 31)))
      have G6 := Lib.hid g6
      clear R1 hB g6
      go_wp2_with fail
      obtain ⟨BX, hBX⟩ : ∃ BX, wr.heap.size = BX := ⟨_, rfl⟩
      rw [hBX] at c0 ⊢
      generalize wr.alloc (.cells #[.int .i64 (p : Int), .int .i64 (ex : Int)] 31) = w3 at *
      go_quiet (fail)
      go_wp2_with fail
      go_roundw
      case rel => exact ⟨i + 1, y, by omega, by go_num, rfl, G6, g7, Lib.hid (R2.out.below (below_drewN (Below.refl _ _) _)), below_drewN hB2 _⟩
      case measure => (first | (simp [intOf]; done) | (simp [intOf]; omega) | (simp only [intOf]; omega))
    · obtain rfl : i = n := by omega
      have dd : decide ((i : Int) < (i : Int)) = false := decide_eq_false (by omega)
      have E : Hid (m = z) := Lib.hid (by rw [← HM.out]; exact PE.out)
      have E2 := E.out
      subst E2
      go_wp2_with fail
      go_ret2
      exact ⟨rfl, hB⟩
theorem fact_phino (n : Int) (W : World) (h : ¬ (1 ≤ n ∧ n ≤ 16777216)) :
    Calls Try.prog 22 #[.int .i64 n] W fun e w' => e = .returned (.tuple #[.int .i64 0, .int .i64 3]) ∧ W = w' := by
  have FF := Lib.hid (fun w => fact_factorsno n w h)
  go_enter Try.func22, Try.ntmps22
  go_wp2_with fail
  refine (FF.out _).mono ?_
  rintro e w1 ⟨rfl, rfl⟩
  go_wp2_with fail
  go_ret2
  exact ⟨rfl, rfl⟩
end Go.Proofs.Ytmeaakchnellfaa
