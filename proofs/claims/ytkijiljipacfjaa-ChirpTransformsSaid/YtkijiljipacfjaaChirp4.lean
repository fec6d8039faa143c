/- Reference 12: Fore, Aft. -/
import Derived.Test.YtkijiljipacfjaaChirp3
namespace Go.Proofs.Ytkijiljipacfjaa
open Go.ChangeShapes Go.WideShapes Go.ChangeAt Go.RowKit
set_option linter.unusedVariables false
open rootTells
theorem forel_at' (r : Int) (xs : List Int) (n k : Nat) (h : k < n) : (forel r xs n).getD k 0 = fm (xs.getD (n - 1 - k) 0 * r ^ trin n (n - 1 - k)) := by rw [forel_at _ _ _ _ h, fm_mul_r]
theorem aftl_at' (r : Int) (xs : List Int) (n k : Nat) (h : k < n) : (aftl r xs n).getD k 0 = fm (xs.getD (n - 1 + k) 0 * r ^ trin n k) := by rw [aftl_at _ _ _ _ h, fm_mul_r]
set_option maxRecDepth 100000 in
theorem r12_fore (p : Option Addr) (n c : Nat) (dir : Int) (xs : List Int) (W : World) (hr : Row W p n xs) (hh : hasb n = true) (hd : dir = 0 ∨ dir = 1) :
    Calls Try.prog 39 #[.slice p n c, .int .i64 dir] W (Gives W n (forel (rdir n (1 - dir)) xs n)) := by
  obtain ⟨a, b, cc⟩ := hasb_dvd hh
  have T := Lib.hid (fun i w (hi : i ≤ 67108864) => r12_turn n i dir w hh hd hi)
  have YL := Lib.hid (forel_len (rdir n (1 - dir)) xs n)
  have YA := Lib.hid (fun k hk => forel_at' (rdir n (1 - dir)) xs n k hk)
  have YW := Lib.hid (forel_wf (rdir n (1 - dir)) xs n)
  have HX := Lib.hid hr
  have hn : n ≤ 16777216 := by omega
  clear hh hd cc hr
  generalize rdir n (1 - dir) = r at *
  generalize forel r xs n = ys at *
  go_enter Try.func39, Try.ntmps39
  go_wp2_with fail
  go_loopw [5, 7] (fun v i wr => ∃ k : Nat, k ≤ n ∧ i = .int .i64 k ∧ Hid (Owns wr W.heap.size 35 .u64 v (upto ys k)) ∧ Below W.heap.size W wr) (fun _ i _ => n - (intOf i).toNat)
  case atStart => exact ⟨0, Nat.zero_le _, rfl, Lib.hid (Owns.nil _ _ _ _), Below.refl _ _⟩
  case round =>
    obtain ⟨k, hk, rfl, HO, hB⟩ := hrel
    by_cases hlt : k < n
    · have HS := Lib.hid (upto_snoc ys k _ (by rw [YL.out]; exact hlt) (YA.out k hlt))
      have HK := Lib.hid (upto_len ys k (by rw [YL.out]; exact hk))
      have hd : decide ((k : Int) < (n : Int)) = true := decide_eq_true (by omega)
      have hj : n - 1 - k < n := by omega
      obtain ⟨b, off, rfl, hb, hc0, x0, x1⟩ := HX.out.cell hj
      have hc : wr.cell? ⟨b, off + (n - 1 - k), none⟩ = some (.int .u64 (xs.getD (n - 1 - k) 0)) := (hB.cell (p := ⟨b, off + (n - 1 - k), none⟩) hb).trans hc0
      have hw2 : IntKind.i64.wrap ((n : Int) - 1) = (n : Int) - 1 := IntWalk.i64_in _ (by omega)
      have hw3 : IntKind.i64.wrap ((n : Int) - 1 - (k : Int)) = ((n - 1 - k : Nat) : Int) := by rw [IntWalk.i64_in _ (by omega)]; omega
      have hm0 : (0 : Int) ≤ ((n - 1 - k : Nat) : Int) := by omega
      have hm1 : ((n - 1 - k : Nat) : Int) < (n : Int) := by omega
      have T1 := Lib.hid (fun w => T.out (n - 1 - k) w (by omega))
      clear hc0
      generalize xs.getD (n - 1 - k) 0 = x at *
      generalize r ^ trin n (n - 1 - k) = y at *
      generalize n - 1 - k = j at *
      go_wp2_with (first | (go_at_call 60; (with_reducible refine (r2_red _ _ x0 x1).mono ?_); rintro e w' ⟨rfl, rfl⟩))
      refine (T1.out _).mono ?_
      rintro e w1 ⟨rfl, rfl⟩
      go_wp2_with (first | (go_at_call 59; (with_reducible refine (r2_mulf _ _ _).mono ?_); rintro e w' ⟨rfl, rfl⟩) | (at_builtin; refine append_one Try.underlying22 info_u64 rfl _ _ rfl rfl HO.out rfl hB.size (by rw [HK.out]; omega) ?_; intro v' w' hO hb'))
      have HO2 := Lib.hid hO
      clear hO
      go_wp2_with fail
      go_roundw
      case rel => exact ⟨k + 1, by omega, by go_num, by rw [← HS.out]; exact HO2, hB.trans hb'⟩
      case measure => (first | (simp [intOf]; done) | (simp [intOf]; omega) | (simp only [intOf]; omega))
    · obtain rfl : k = n := by omega
      have hd : decide ((k : Int) < (k : Int)) = false := decide_eq_false (by omega)
      go_wp2_with fail
      go_ret
      exact gives_own rfl (by rw [← upto_full ys k YL.out]; exact HO.out) hB YW.out YL.out (by omega)
set_option maxRecDepth 100000 in
theorem r12_aft (p : Option Addr) (N n c : Nat) (dir : Int) (xs : List Int) (W : World) (hr : Row W p N xs) (hh : hasb n = true) (hd : dir = 0 ∨ dir = 1) (hN : 2 * n - 1 ≤ N) :
    Calls Try.prog 40 #[.slice p N c, .int .i64 n, .int .i64 dir] W (Gives W n (aftl (rdir n (1 - dir)) xs n)) := by
  obtain ⟨a, b, cc⟩ := hasb_dvd hh
  have T := Lib.hid (fun i w (hi : i ≤ 67108864) => r12_turn n i dir w hh hd hi)
  have YL := Lib.hid (aftl_len (rdir n (1 - dir)) xs n)
  have YA := Lib.hid (fun k hk => aftl_at' (rdir n (1 - dir)) xs n k hk)
  have YW := Lib.hid (aftl_wf (rdir n (1 - dir)) xs n)
  have HX := Lib.hid hr
  have hNs := hr.small
  have hn : n ≤ 16777216 := by omega
  clear hh hd cc hr
  generalize rdir n (1 - dir) = r at *
  generalize aftl r xs n = ys at *
  go_enter Try.func40, Try.ntmps40
  go_wp2_with fail
  go_loopw [7, 8] (fun v i wr => ∃ k : Nat, k ≤ n ∧ i = .int .i64 k ∧ Hid (Owns wr W.heap.size 35 .u64 v (upto ys k)) ∧ Below W.heap.size W wr) (fun _ i _ => n - (intOf i).toNat)
  case atStart => exact ⟨0, Nat.zero_le _, rfl, Lib.hid (Owns.nil _ _ _ _), Below.refl _ _⟩
  case round =>
    obtain ⟨k, hk, rfl, HO, hB⟩ := hrel
    by_cases hlt : k < n
    · have HS := Lib.hid (upto_snoc ys k _ (by rw [YL.out]; exact hlt) (YA.out k hlt))
      have HK := Lib.hid (upto_len ys k (by rw [YL.out]; exact hk))
      have hd : decide ((k : Int) < (n : Int)) = true := decide_eq_true (by omega)
      have hj : n - 1 + k < N := by omega
      obtain ⟨b, off, rfl, hb, hc0, x0, x1⟩ := HX.out.cell hj
      have hc : wr.cell? ⟨b, off + (n - 1 + k), none⟩ = some (.int .u64 (xs.getD (n - 1 + k) 0)) := (hB.cell (p := ⟨b, off + (n - 1 + k), none⟩) hb).trans hc0
      have hw2 : IntKind.i64.wrap ((n : Int) - 1) = (n : Int) - 1 := IntWalk.i64_in _ (by omega)
      have hw3 : IntKind.i64.wrap ((n : Int) - 1 + (k : Int)) = ((n - 1 + k : Nat) : Int) := by rw [IntWalk.i64_in _ (by omega)]; omega
      have hm0 : (0 : Int) ≤ ((n - 1 + k : Nat) : Int) := by omega
      have hm1 : ((n - 1 + k : Nat) : Int) < (N : Int) := by omega
      have T1 := Lib.hid (fun w => T.out k w (by omega))
      clear hc0
      generalize xs.getD (n - 1 + k) 0 = x at *
      generalize r ^ trin n k = y at *
      generalize n - 1 + k = j at *
      go_wp2_with (first | (go_at_call 60; (with_reducible refine (r2_red _ _ x0 x1).mono ?_); rintro e w' ⟨rfl, rfl⟩))
      refine (T1.out _).mono ?_
      rintro e w1 ⟨rfl, rfl⟩
      go_wp2_with (first | (go_at_call 59; (with_reducible refine (r2_mulf _ _ _).mono ?_); rintro e w' ⟨rfl, rfl⟩) | (at_builtin; refine append_one Try.underlying22 info_u64 rfl _ _ rfl rfl HO.out rfl hB.size (by rw [HK.out]; omega) ?_; intro v' w' hO hb'))
      have HO2 := Lib.hid hO
      clear hO
      go_wp2_with fail
      go_roundw
      case rel => exact ⟨k + 1, by omega, by go_num, by rw [← HS.out]; exact HO2, hB.trans hb'⟩
      case measure => (first | (simp [intOf]; done) | (simp [intOf]; omega) | (simp only [intOf]; omega))
    · obtain rfl : k = n := by omega
      have hd : decide ((k : Int) < (k : Int)) = false := decide_eq_false (by omega)
      go_wp2_with fail
      go_ret
      exact gives_own rfl (by rw [← upto_full ys k YL.out]; exact HO.out) hB YW.out YL.out (by omega)
/-- Nothing, and an error. -/
theorem ckc_dir (n dir : Int) (h0 : -9223372036854775808 ≤ dir) (h1 : dir ≤ 9223372036854775807) : ckc n (IntKind.i64.wrap (1 - dir)) = ckc n dir := by
  have : (IntKind.i64.wrap (1 - dir) = 0 ∨ IntKind.i64.wrap (1 - dir) = 1) ↔ (dir = 0 ∨ dir = 1) := by
    rw [IntKind.wrap_i64]; omega
  unfold ckc
  simp only [this]
theorem chirp_foreno (p : Option Addr) (n c : Nat) (dir z : Int) (W : World) (hs : n ≤ 9223372036854775807) (d0 : -9223372036854775808 ≤ dir) (d1 : dir ≤ 9223372036854775807) (hz : ckc n dir = z) (hz0 : z ≠ 0) :
    Calls Try.prog 37 #[.slice p n c, .int .i64 dir] W fun e w' => e = .returned (.tuple #[.slice none 0 0, .int .i64 z]) ∧ W = w' := by
  rw [← ckc_dir n dir d0 d1] at hz
  have BA := Lib.hid (fun w => chirp_baseno n (IntKind.i64.wrap (1 - dir)) z w (by omega) (by omega) hz hz0)
  have g : (z != 0) = true := by simpa using hz0
  clear hz hz0
  obtain ⟨d, hd⟩ : ∃ d, IntKind.i64.wrap (1 - dir) = d := ⟨_, rfl⟩
  rw [hd] at BA
  go_enter Try.func37, Try.ntmps37
  go_wp2_with fail
  refine (BA.out _).mono ?_
  rintro e w1 ⟨rfl, rfl⟩
  go_wp2_with fail
  go_ret2
  exact ⟨rfl, rfl⟩
theorem chirp_aftno (p : Option Addr) (N c : Nat) (n dir z : Int) (W : World) (h0 : -9223372036854775808 ≤ n) (h1 : n ≤ 9223372036854775807) (d0 : -9223372036854775808 ≤ dir) (d1 : dir ≤ 9223372036854775807) (hz : ckc n dir = z) (hz0 : z ≠ 0) :
    Calls Try.prog 38 #[.slice p N c, .int .i64 n, .int .i64 dir] W fun e w' => e = .returned (.tuple #[.slice none 0 0, .int .i64 z]) ∧ W = w' := by
  rw [← ckc_dir n dir d0 d1] at hz
  have BA := Lib.hid (fun w => chirp_baseno n (IntKind.i64.wrap (1 - dir)) z w h0 h1 hz hz0)
  have g : (z != 0) = true := by simpa using hz0
  clear hz hz0
  obtain ⟨d, hd⟩ : ∃ d, IntKind.i64.wrap (1 - dir) = d := ⟨_, rfl⟩
  rw [hd] at BA
  go_enter Try.func38, Try.ntmps38
  go_wp2_with fail
  refine (BA.out _).mono ?_
  rintro e w1 ⟨rfl, rfl⟩
  go_wp2_with fail
  go_ret2
  exact ⟨rfl, rfl⟩
theorem chirp_aftlen (p : Option Addr) (N c : Nat) (n dir : Int) (W : World) (hs : N ≤ 9223372036854775807) (hh : hasb n = true) (hd : dir = 0 ∨ dir = 1) (h : (N : Int) < 2 * n - 1) :
    Calls Try.prog 38 #[.slice p N c, .int .i64 n, .int .i64 dir] W fun e w' => e = .returned (.tuple #[.slice none 0 0, .int .i64 5]) ∧ Below W.heap.size W w' := by
  obtain ⟨a, b, cc⟩ := hasb_dvd hh
  have hw0 : IntKind.i64.wrap (1 - dir) = 1 - dir := IntWalk.i64_in _ (by rcases hd with rfl | rfl <;> omega)
  have hw8 : IntKind.i64.wrap (2 * n) = 2 * n := IntWalk.i64_in _ (by omega)
  have hw9 : IntKind.i64.wrap (2 * n - 1) = 2 * n - 1 := IntWalk.i64_in _ (by omega)
  have e1 : decide ((N : Int) < 2 * n - 1) = true := decide_eq_true h
  have BA := Lib.hid (fun w => chirp_base n (1 - dir) w (by omega) (by omega) hh (by omega))
  clear hh hd cc h
  generalize rdir n (1 - dir) = r at *
  go_enter Try.func38, Try.ntmps38
  go_wp2_with fail
  refine (BA.out _).mono ?_
  rintro e w1 ⟨rfl, b1⟩
  go_wp2_with fail
  go_ret2
  exact ⟨rfl, b1⟩
end Go.Proofs.Ytkijiljipacfjaa
