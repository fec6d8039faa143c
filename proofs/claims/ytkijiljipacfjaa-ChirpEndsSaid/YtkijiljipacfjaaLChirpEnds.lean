/- ChirpEnds: for every row of words, size and direction: what is made of the row ahead of the product, and of a product behind it, or why nothing is. -/
import Derived.Test.YtkijiljipacfjaaChirp4
namespace Go.Proofs.Ytkijiljipacfjaa
open Go.ChangeShapes Go.WideShapes Go.ChangeAt Go.RowKit
set_option linter.unusedVariables false
namespace chirpEnds
theorem far (W : World) (a0 : Option Addr) (N c0 : Nat) (n d : Int) (h : 120 < N ∨ (N ≤ 120 ∧ 60 < n)) :
    Calls Try.prog 9 #[.slice a0 N c0, .int .i64 n, .int .i64 d] W fun e W' => e = .returned (.bool true) ∧ Below W.heap.size W W' := by
  have hB : Below W.heap.size W W := Below.refl _ _
  have hor : (decide (120 < (N : Int)) = true) ∨ (decide (120 < (N : Int)) = false ∧ decide (60 < n) = true) := by
    rcases h with h | ⟨h, h'⟩
    · exact .inl (decide_eq_true (by omega))
    · exact .inr ⟨decide_eq_false (by omega), decide_eq_true h'⟩
  clear h
  rcases hor with g1 | ⟨g1, g2⟩
  all_goals
    go_enter Try.func9, Try.ntmps9
    go_wp2_with fail
    refine (live12 _).mono ?_
    rintro e w2 ⟨rfl, rfl⟩
    go_wp2_with fail
    go_ret
    exact ⟨rfl, hB⟩
set_option maxRecDepth 100000 in
theorem main (W : World) (a0 : Option Addr) (N c0 : Nat) (n d : Int) (xs : List Int) (hx : Row W a0 N xs) (hN : N ≤ 120) (hn : n ≤ 60) (n0 : -9223372036854775808 ≤ n) (d0 : -9223372036854775808 ≤ d) (d1 : d ≤ 9223372036854775807) :
    Calls Try.prog 9 #[.slice a0 N c0, .int .i64 n, .int .i64 d] W fun e W' => e = .returned (.bool true) ∧ Below W.heap.size W W' := by
  have hB : Below W.heap.size W W := Below.refl _ _
  have g1 : decide (120 < (N : Int)) = false := decide_eq_false (by omega)
  have g2 : decide (60 < n) = false := decide_eq_false (by omega)
  have C1 := Lib.hid (fun w => r12_check (N : Int) d w (by omega) (by omega))
  have C2 := Lib.hid (fun w => r12_check n d w (by omega) (by omega))
  have HX := Lib.hid hx
  by_cases hf : ckc N d = 0
  · obtain ⟨f1, f2⟩ := ckc_ok hf
    rw [hf] at C1
    have FO := Lib.hid (fun w h => chirp_fore a0 N c0 d xs w h f1 f2)
    have FR := Lib.hid (fun w h => r12_fore a0 N c0 d xs w h f1 f2)
    by_cases ha : ckc n d = 0
    · obtain ⟨a1, a2⟩ := ckc_ok ha
      obtain ⟨_, _, _⟩ := hasb_dvd a1
      rw [ha] at C2
      obtain ⟨n, rfl⟩ : ∃ k : Nat, n = k := ⟨n.toNat, by omega⟩
      have hw1 : IntKind.i64.wrap (2 * (n : Int)) = 2 * (n : Int) := IntWalk.i64_in _ (by omega)
      have hw2 : IntKind.i64.wrap (2 * (n : Int) - 1) = 2 * (n : Int) - 1 := IntWalk.i64_in _ (by omega)
      by_cases hl : N < 2 * n - 1
      · have AF := Lib.hid (fun w => chirp_aftlen a0 N c0 n d w (by omega) a1 a2 (by omega))
        have g3 : decide ((N : Int) < 2 * (n : Int) - 1) = true := decide_eq_true (by omega)
        clear f1 f2 a1 a2 hf ha hx
        generalize forel (rdir N (1 - d)) xs N = fs at *
        go_enter Try.func9, Try.ntmps9
        go_wp2_with fail
        refine (FO.out _ HX.out).mono ?_
        rintro e w1 ⟨p1, k1, rfl, h, b1⟩
        have R1 := Lib.hid h; clear h; have HX := Lib.hid (HX.out.below b1); have hB := hB.trans (b1.mono hB.size); clear b1
        go_wp2_with fail
        refine (AF.out _).mono ?_
        rintro e w1 ⟨rfl, b1⟩
        have HX := Lib.hid (HX.out.below b1); have R1 := Lib.hid (R1.out.below b1); have hB := hB.trans (b1.mono hB.size); clear b1
        go_wp2_with fail
        refine (C1.out _).mono ?_
        rintro e w2 ⟨rfl, rfl⟩
        go_wp2_with fail
        refine (FR.out _ HX.out).mono ?_
        rintro e w1 ⟨p2, k2, rfl, h, b1⟩
        have R2 := Lib.hid h; clear h; have R1 := Lib.hid (R1.out.below b1); have hB := hB.trans (b1.mono hB.size); clear b1
        go_wp2_with fail
        refine (c_same R1.out R2.out).mono ?_
        rintro e w1 ⟨rfl, b1⟩
        have hB := hB.trans (b1.mono hB.size); clear b1
        go_wp2_with fail
        refine (C2.out _).mono ?_
        rintro e w2 ⟨rfl, rfl⟩
        go_wp2_with fail
        refine (live12 _).mono ?_
        rintro e w2 ⟨rfl, rfl⟩
        go_wp2_with fail
        go_ret
        exact ⟨rfl, hB⟩
      · have AF := Lib.hid (fun w h => chirp_aft a0 N n c0 d xs w h a1 a2 (by omega))
        have AR := Lib.hid (fun w h => r12_aft a0 N n c0 d xs w h a1 a2 (by omega))
        have g3 : decide ((N : Int) < 2 * (n : Int) - 1) = false := decide_eq_false (by omega)
        clear f1 f2 a1 a2 hf ha hx
        generalize forel (rdir N (1 - d)) xs N = fs at *
        generalize aftl (rdir n (1 - d)) xs n = af at *
        go_enter Try.func9, Try.ntmps9
        go_wp2_with fail
        refine (FO.out _ HX.out).mono ?_
        rintro e w1 ⟨p1, k1, rfl, h, b1⟩
        have R1 := Lib.hid h; clear h; have HX := Lib.hid (HX.out.below b1); have hB := hB.trans (b1.mono hB.size); clear b1
        go_wp2_with fail
        refine (AF.out _ HX.out).mono ?_
        rintro e w1 ⟨p3, k3, rfl, h, b1⟩
        have R3 := Lib.hid h; clear h; have HX := Lib.hid (HX.out.below b1); have R1 := Lib.hid (R1.out.below b1); have hB := hB.trans (b1.mono hB.size); clear b1
        go_wp2_with fail
        refine (C1.out _).mono ?_
        rintro e w2 ⟨rfl, rfl⟩
        go_wp2_with fail
        refine (FR.out _ HX.out).mono ?_
        rintro e w1 ⟨p2, k2, rfl, h, b1⟩
        have R2 := Lib.hid h; clear h; have HX := Lib.hid (HX.out.below b1); have R1 := Lib.hid (R1.out.below b1); have R3 := Lib.hid (R3.out.below b1); have hB := hB.trans (b1.mono hB.size); clear b1
        go_wp2_with fail
        refine (c_same R1.out R2.out).mono ?_
        rintro e w1 ⟨rfl, b1⟩
        have HX := Lib.hid (HX.out.below b1); have R3 := Lib.hid (R3.out.below b1); have hB := hB.trans (b1.mono hB.size); clear b1
        go_wp2_with fail
        refine (C2.out _).mono ?_
        rintro e w2 ⟨rfl, rfl⟩
        go_wp2_with fail
        refine (AR.out _ HX.out).mono ?_
        rintro e w1 ⟨p4, k4, rfl, h, b1⟩
        have R4 := Lib.hid h; clear h; have R3 := Lib.hid (R3.out.below b1); have hB := hB.trans (b1.mono hB.size); clear b1
        go_wp2_with fail
        refine (c_same R3.out R4.out).mono ?_
        rintro e w1 ⟨rfl, b1⟩
        have hB := hB.trans (b1.mono hB.size); clear b1
        go_wp2_with fail
        refine (live12 _).mono ?_
        rintro e w2 ⟨rfl, rfl⟩
        go_wp2_with fail
        go_ret
        exact ⟨rfl, hB⟩
    · have AF := Lib.hid (fun w => chirp_aftno a0 N c0 n d (ckc n d) w (by omega) (by omega) d0 d1 rfl ha)
      have g3 : (ckc n d != 0) = true := by simpa using ha
      have g4 : (ckc n d == ckc n d) = true := by simp
      clear f1 f2 hf ha hx
      generalize ckc n d = z at *
      generalize forel (rdir N (1 - d)) xs N = fs at *
      go_enter Try.func9, Try.ntmps9
      go_wp2_with fail
      refine (FO.out _ HX.out).mono ?_
      rintro e w1 ⟨p1, k1, rfl, h, b1⟩
      have R1 := Lib.hid h; clear h; have HX := Lib.hid (HX.out.below b1); have hB := hB.trans (b1.mono hB.size); clear b1
      go_wp2_with fail
      refine (AF.out _).mono ?_
      rintro e w1 ⟨rfl, rfl⟩
      go_wp2_with fail
      refine (C1.out _).mono ?_
      rintro e w2 ⟨rfl, rfl⟩
      go_wp2_with fail
      refine (FR.out _ HX.out).mono ?_
      rintro e w1 ⟨p2, k2, rfl, h, b1⟩
      have R2 := Lib.hid h; clear h; have R1 := Lib.hid (R1.out.below b1); have hB := hB.trans (b1.mono hB.size); clear b1
      go_wp2_with fail
      refine (c_same R1.out R2.out).mono ?_
      rintro e w1 ⟨rfl, b1⟩
      have hB := hB.trans (b1.mono hB.size); clear b1
      go_wp2_with fail
      refine (C2.out _).mono ?_
      rintro e w2 ⟨rfl, rfl⟩
      go_wp2_with fail
      refine (live12 _).mono ?_
      rintro e w2 ⟨rfl, rfl⟩
      go_wp2_with fail
      go_ret
      exact ⟨rfl, hB⟩
  · have FO := Lib.hid (fun w => chirp_foreno a0 N c0 d (ckc N d) w (by omega) d0 d1 rfl hf)
    have k1 : (ckc N d != 0) = true := by simpa using hf
    have k2 : (ckc N d != ckc N d) = false := by simp
    have k3 : (ckc N d == 0) = false := by simpa using hf
    clear hf
    generalize ckc N d = y at *
    by_cases ha : ckc n d = 0
    · obtain ⟨a1, a2⟩ := ckc_ok ha
      obtain ⟨_, _, _⟩ := hasb_dvd a1
      rw [ha] at C2
      obtain ⟨n, rfl⟩ : ∃ k : Nat, n = k := ⟨n.toNat, by omega⟩
      have hw1 : IntKind.i64.wrap (2 * (n : Int)) = 2 * (n : Int) := IntWalk.i64_in _ (by omega)
      have hw2 : IntKind.i64.wrap (2 * (n : Int) - 1) = 2 * (n : Int) - 1 := IntWalk.i64_in _ (by omega)
      by_cases hl : N < 2 * n - 1
      · have AF := Lib.hid (fun w => chirp_aftlen a0 N c0 n d w (by omega) a1 a2 (by omega))
        have g3 : decide ((N : Int) < 2 * (n : Int) - 1) = true := decide_eq_true (by omega)
        clear a1 a2 ha hx
        go_enter Try.func9, Try.ntmps9
        go_wp2_with fail
        refine (FO.out _).mono ?_
        rintro e w1 ⟨rfl, rfl⟩
        go_wp2_with fail
        refine (AF.out _).mono ?_
        rintro e w1 ⟨rfl, b1⟩
        have hB := hB.trans (b1.mono hB.size); clear b1
        go_wp2_with fail
        refine (C1.out _).mono ?_
        rintro e w2 ⟨rfl, rfl⟩
        go_wp2_with fail
        refine (C2.out _).mono ?_
        rintro e w2 ⟨rfl, rfl⟩
        go_wp2_with fail
        refine (live12 _).mono ?_
        rintro e w2 ⟨rfl, rfl⟩
        go_wp2_with fail
        go_ret
        exact ⟨rfl, hB⟩
      · have AF := Lib.hid (fun w h => chirp_aft a0 N n c0 d xs w h a1 a2 (by omega))
        have AR := Lib.hid (fun w h => r12_aft a0 N n c0 d xs w h a1 a2 (by omega))
        have g3 : decide ((N : Int) < 2 * (n : Int) - 1) = false := decide_eq_false (by omega)
        clear a1 a2 ha hx
        generalize aftl (rdir n (1 - d)) xs n = af at *
        go_enter Try.func9, Try.ntmps9
        go_wp2_with fail
        refine (FO.out _).mono ?_
        rintro e w1 ⟨rfl, rfl⟩
        go_wp2_with fail
        refine (AF.out _ HX.out).mono ?_
        rintro e w1 ⟨p3, k3', rfl, h, b1⟩
        have R3 := Lib.hid h; clear h; have HX := Lib.hid (HX.out.below b1); have hB := hB.trans (b1.mono hB.size); clear b1
        go_wp2_with fail
        refine (C1.out _).mono ?_
        rintro e w2 ⟨rfl, rfl⟩
        go_wp2_with fail
        refine (C2.out _).mono ?_
        rintro e w2 ⟨rfl, rfl⟩
        go_wp2_with fail
        refine (AR.out _ HX.out).mono ?_
        rintro e w1 ⟨p4, k4, rfl, h, b1⟩
        have R4 := Lib.hid h; clear h; have R3 := Lib.hid (R3.out.below b1); have hB := hB.trans (b1.mono hB.size); clear b1
        go_wp2_with fail
        refine (c_same R3.out R4.out).mono ?_
        rintro e w1 ⟨rfl, b1⟩
        have hB := hB.trans (b1.mono hB.size); clear b1
        go_wp2_with fail
        refine (live12 _).mono ?_
        rintro e w2 ⟨rfl, rfl⟩
        go_wp2_with fail
        go_ret
        exact ⟨rfl, hB⟩
    · have AF := Lib.hid (fun w => chirp_aftno a0 N c0 n d (ckc n d) w (by omega) (by omega) d0 d1 rfl ha)
      have g3 : (ckc n d != 0) = true := by simpa using ha
      have g4 : (ckc n d == ckc n d) = true := by simp
      clear ha hx
      generalize ckc n d = z at *
      go_enter Try.func9, Try.ntmps9
      go_wp2_with fail
      refine (FO.out _).mono ?_
      rintro e w1 ⟨rfl, rfl⟩
      go_wp2_with fail
      refine (AF.out _).mono ?_
      rintro e w1 ⟨rfl, rfl⟩
      go_wp2_with fail
      refine (C1.out _).mono ?_
      rintro e w2 ⟨rfl, rfl⟩
      go_wp2_with fail
      refine (C2.out _).mono ?_
      rintro e w2 ⟨rfl, rfl⟩
      go_wp2_with fail
      refine (live12 _).mono ?_
      rintro e w2 ⟨rfl, rfl⟩
      go_wp2_with fail
      go_ret
      exact ⟨rfl, hB⟩
theorem walk (W : World) (a0 : Option Addr) (n0 c0 : Nat) (w0 : IsRow .u64 W a0 n0 c0) (a1 : Int) (w1 : -9223372036854775808 ≤ a1 ∧ a1 ≤ 9223372036854775807) (a2 : Int) (w2 : -9223372036854775808 ≤ a2 ∧ a2 ≤ 9223372036854775807) :
    Calls Try.prog 9 #[.slice a0 n0 c0, .int .i64 a1, .int .i64 a2] W fun e W' => e = .returned (.bool true) ∧ Below W.heap.size W W' := by
  by_cases h : 120 < n0 ∨ (n0 ≤ 120 ∧ 60 < a1)
  · exact far W a0 n0 c0 a1 a2 h
  · obtain ⟨xs, hx⟩ := Row.of_isRow w0 (by omega)
    exact main W a0 n0 c0 a1 a2 xs hx (by omega) (by omega) w1.1 w2.1 w2.2
end chirpEnds
end Go.Proofs.Ytkijiljipacfjaa
