/- ChirpRows: for every size, direction and place: the triangular number, and the powers by such numbers, or why there are none. -/
import Derived.Test.YtkijiljipacfjaaChirp4
namespace Go.Proofs.Ytkijiljipacfjaa
open Go.ChangeShapes Go.WideShapes Go.ChangeAt Go.RowKit
set_option linter.unusedVariables false
namespace chirpRows
theorem trino (n i z : Int) (w : World) (h0 : -9223372036854775808 ≤ n) (h1 : n ≤ 9223372036854775807) (hz : (hasb n = false ∧ z = 4) ∨ (hasb n = true ∧ (i < 0 ∨ 67108864 < i) ∧ z = 3)) :
    Calls Try.prog 28 #[.int .i64 n, .int .i64 i] w fun e w' => e = .returned (.tuple #[.int .i64 0, .int .i64 z]) ∧ w = w' := by
  have H := fun w => root_has n w h0 h1
  rcases hz with ⟨hh, rfl⟩ | ⟨hh, hi, rfl⟩
  · rw [hh] at H
    have H := Lib.hid H
    clear hh
    go_enter Try.func28, Try.ntmps28
    go_wp2_with fail
    refine (H.out _).mono ?_
    rintro e w1 ⟨rfl, rfl⟩
    go_wp2_with fail
    go_ret2
    exact ⟨rfl, rfl⟩
  · rw [hh] at H
    have H := Lib.hid H
    clear hh
    by_cases h : i < 0
    · have e1 : decide (i < 0) = true := decide_eq_true h
      go_enter Try.func28, Try.ntmps28
      go_wp2_with fail
      refine (H.out _).mono ?_
      rintro e w1 ⟨rfl, rfl⟩
      go_wp2_with fail
      go_ret2
      exact ⟨rfl, rfl⟩
    · have e1 : decide (i < 0) = false := decide_eq_false h
      have e2 : decide (67108864 < i) = true := decide_eq_true (by omega)
      go_enter Try.func28, Try.ntmps28
      go_wp2_with fail
      refine (H.out _).mono ?_
      rintro e w1 ⟨rfl, rfl⟩
      go_wp2_with fail
      go_ret2
      exact ⟨rfl, rfl⟩
theorem nosize (W : World) (n d i : Int) (h0 : -9223372036854775808 ≤ n) (h1 : n ≤ 9223372036854775807) (hh : hasb n = false) :
    Calls Try.prog 7 #[.int .i64 n, .int .i64 d, .int .i64 i] W fun e W' => e = .returned (.bool true) ∧ Below W.heap.size W W' := by
  have T := Lib.hid (fun w => trino n i 4 w h0 h1 (.inl ⟨hh, rfl⟩))
  have R := Lib.hid (fun w => c_crowno n d i 4 w h0 h1 (.inl ⟨ckc_no hh, by omega⟩))
  have H := fun w => r4_has n w h0 h1
  rw [hh] at H
  have H := Lib.hid H
  have hB : Below W.heap.size W W := Below.refl _ _
  clear hh
  go_enter Try.func7, Try.ntmps7
  go_wp2_with fail
  refine (T.out _).mono ?_
  rintro e w1 ⟨rfl, rfl⟩
  go_wp2_with fail
  refine (H.out _).mono ?_
  rintro e w1 ⟨rfl, rfl⟩
  go_wp2_with fail
  refine (R.out _).mono ?_
  rintro e w1 ⟨rfl, b1⟩
  have hB := hB.trans (b1.mono hB.size); clear b1
  go_wp2_with fail
  refine (live12 _).mono ?_
  rintro e w2 ⟨rfl, rfl⟩
  go_wp2_with fail
  go_ret
  exact ⟨rfl, hB⟩
theorem noplace (W : World) (n d i : Int) (h0 : -9223372036854775808 ≤ n) (h1 : n ≤ 9223372036854775807) (hh : hasb n = true) (hi : i < 0 ∨ 67108864 < i) :
    Calls Try.prog 7 #[.int .i64 n, .int .i64 d, .int .i64 i] W fun e W' => e = .returned (.bool true) ∧ Below W.heap.size W W' := by
  have T := Lib.hid (fun w => trino n i 3 w h0 h1 (.inr ⟨hh, hi, rfl⟩))
  have H := fun w => r4_has n w h0 h1
  rw [hh] at H
  have H := Lib.hid H
  have hB : Below W.heap.size W W := Below.refl _ _
  have C := fun w => r12_check n d w h0 h1
  have hor : (decide (i < 0) = true) ∨ (decide (i < 0) = false ∧ decide (67108864 < i) = true) := by
    rcases hi with h | h
    · exact .inl (decide_eq_true h)
    · exact .inr ⟨decide_eq_false (by omega), decide_eq_true h⟩
  by_cases hd : d = 0 ∨ d = 1
  · have R := Lib.hid (fun w => c_crowno n d i 3 w h0 h1 (.inr ⟨ckc_yes hh hd, by omega, rfl⟩))
    clear hh hi hd C
    rcases hor with e1 | ⟨e1, e2⟩
    all_goals
      go_enter Try.func7, Try.ntmps7
      go_wp2_with fail
      refine (T.out _).mono ?_
      rintro e w1 ⟨rfl, rfl⟩
      go_wp2_with fail
      refine (H.out _).mono ?_
      rintro e w1 ⟨rfl, rfl⟩
      go_wp2_with fail
      refine (R.out _).mono ?_
      rintro e w1 ⟨rfl, b1⟩
      have hB := hB.trans (b1.mono hB.size); clear b1
      go_wp2_with fail
      refine (live12 _).mono ?_
      rintro e w2 ⟨rfl, rfl⟩
      go_wp2_with fail
      go_ret
      exact ⟨rfl, hB⟩
  · have R := Lib.hid (fun w => c_crowno n d i 2 w h0 h1 (.inl ⟨ckc_arg hh hd, by omega⟩))
    rw [ckc_arg hh hd] at C
    have C := Lib.hid C
    clear hh hi hd
    rcases hor with e1 | ⟨e1, e2⟩
    all_goals
      go_enter Try.func7, Try.ntmps7
      go_wp2_with fail
      refine (T.out _).mono ?_
      rintro e w1 ⟨rfl, rfl⟩
      go_wp2_with fail
      refine (H.out _).mono ?_
      rintro e w1 ⟨rfl, rfl⟩
      go_wp2_with fail
      refine (R.out _).mono ?_
      rintro e w1 ⟨rfl, b1⟩
      have hB := hB.trans (b1.mono hB.size); clear b1
      go_wp2_with fail
      refine (C.out _).mono ?_
      rintro e w2 ⟨rfl, rfl⟩
      go_wp2_with fail
      refine (live12 _).mono ?_
      rintro e w2 ⟨rfl, rfl⟩
      go_wp2_with fail
      go_ret
      exact ⟨rfl, hB⟩
theorem great (W : World) (n i : Nat) (d : Int) (hh : hasb n = true) (hi : i ≤ 67108864) (hb : 3000 < i ∨ (i ≤ 3000 ∧ 3000 < n)) :
    Calls Try.prog 7 #[.int .i64 n, .int .i64 d, .int .i64 i] W fun e W' => e = .returned (.bool true) ∧ Below W.heap.size W W' := by
  obtain ⟨a, b, c⟩ := hasb_dvd hh
  have T := Lib.hid (fun w => chirp_tri n i w hh hi)
  have H := fun w => r4_has n w (by omega) (by omega)
  rw [hh] at H
  have H := Lib.hid H
  have hB : Below W.heap.size W W := Below.refl _ _
  have ht := trin_lt (n := n) i (by omega)
  have e1 : decide ((i : Int) < 0) = false := decide_eq_false (by omega)
  have e2 : decide (67108864 < (i : Int)) = false := decide_eq_false (by omega)
  have e3 : decide (67108864 < i) = false := decide_eq_false (by omega)
  have hor : (decide (3000 < (i : Int)) = true) ∨ (decide (3000 < (i : Int)) = false ∧ decide (3000 < (n : Int)) = true) := by
    rcases hb with h | ⟨h, h'⟩
    · exact .inl (decide_eq_true (by omega))
    · exact .inr ⟨decide_eq_false (by omega), decide_eq_true (by omega)⟩
  clear hh c hb
  generalize trin n i = t at *
  have f1 : decide ((0 : Int) ≤ (t : Int)) = true := decide_eq_true (by omega)
  have f2 : decide ((t : Int) < (n : Int)) = true := decide_eq_true (by omega)
  rcases hor with g1 | ⟨g1, g2⟩
  all_goals
    go_enter Try.func7, Try.ntmps7
    go_wp2_with fail
    refine (T.out _).mono ?_
    rintro e w1 ⟨rfl, rfl⟩
    go_wp2_with fail
    refine (H.out _).mono ?_
    rintro e w1 ⟨rfl, rfl⟩
    go_wp2_with fail
    refine (live12 _).mono ?_
    rintro e w2 ⟨rfl, rfl⟩
    go_wp2_with fail
    go_ret
    exact ⟨rfl, hB⟩
set_option maxRecDepth 100000 in
theorem main (W : World) (n i : Nat) (d : Int) (hh : hasb n = true) (hi : i ≤ 3000) (hn : n ≤ 3000) :
    Calls Try.prog 7 #[.int .i64 n, .int .i64 d, .int .i64 i] W fun e W' => e = .returned (.bool true) ∧ Below W.heap.size W W' := by
  obtain ⟨a, b, c⟩ := hasb_dvd hh
  have T := Lib.hid (fun w => chirp_tri n i w hh (by omega))
  have U := Lib.hid (fun w => r12_tri n i w (by omega) (by omega) (by omega))
  have H := fun w => r4_has n w (by omega) (by omega)
  rw [hh] at H
  have H := Lib.hid H
  have hB : Below W.heap.size W W := Below.refl _ _
  have e1 : decide ((i : Int) < 0) = false := decide_eq_false (by omega)
  have e2 : decide (67108864 < (i : Int)) = false := decide_eq_false (by omega)
  have e3 : decide (67108864 < i) = false := decide_eq_false (by omega)
  have e4 : decide (3000 < (i : Int)) = false := decide_eq_false (by omega)
  have e5 : decide (3000 < (n : Int)) = false := decide_eq_false (by omega)
  have e6 : decide (3000 < i) = false := decide_eq_false (by omega)
  have e7 : decide (3000 < n) = false := decide_eq_false (by omega)
  have hm1 : ((i : Int)).tmod 100 = ((i % 100 : Nat) : Int) := rfl
  have hm2 : ((i : Int)) % 100 = ((i % 100 : Nat) : Int) := rfl
  have hq : i % 100 ≤ 5000 := by omega
  have C := fun w => r12_check n d w (by omega) (by omega)
  by_cases hd : d = 0 ∨ d = 1
  · have R := Lib.hid (fun w => c_crow n (i % 100) d w hh hd (by omega))
    have Q := Lib.hid (fun w => r12_row n (i % 100) d w hh hd hq)
    rw [ckc_yes hh hd] at C
    have C := Lib.hid C
    clear hh hd c
    generalize rowc (rdir n d) n (i % 100) = ys at *
    generalize i % 100 = m at *
    have g0 : ((((trin n i : Nat) : Int)) != (((trin n i : Nat) : Int))) = false := by simp
    generalize trin n i = t at *
    go_enter Try.func7, Try.ntmps7
    go_wp2_with fail
    refine (T.out _).mono ?_
    rintro e w1 ⟨rfl, rfl⟩
    go_wp2_with fail
    refine (H.out _).mono ?_
    rintro e w1 ⟨rfl, rfl⟩
    go_wp2_with fail
    refine (R.out _).mono ?_
    rintro e w1 ⟨p1, k1, rfl, h, b1⟩
    have R1 := Lib.hid h; clear h; have hB := hB.trans (b1.mono hB.size); clear b1
    go_wp2_with fail
    refine (U.out _).mono ?_
    rintro e w2 ⟨rfl, rfl⟩
    go_wp2_with fail
    refine (C.out _).mono ?_
    rintro e w2 ⟨rfl, rfl⟩
    go_wp2_with fail
    refine (Q.out _).mono ?_
    rintro e w2 ⟨p2, k2, rfl, h, b1⟩
    have R2 := Lib.hid h; clear h; have R1 := Lib.hid (R1.out.below b1); have hB := hB.trans (b1.mono hB.size); clear b1
    go_wp2_with fail
    refine (c_same R1.out R2.out).mono ?_
    rintro e w3 ⟨rfl, b1⟩
    have hB := hB.trans (b1.mono hB.size); clear b1
    go_wp2_with fail
    refine (live12 _).mono ?_
    rintro e w4 ⟨rfl, rfl⟩
    go_wp2_with fail
    go_ret
    exact ⟨rfl, hB⟩
  · have R := Lib.hid (fun w => c_crowno n d ((i % 100 : Nat) : Int) 2 w (by omega) (by omega) (.inl ⟨ckc_arg hh hd, by omega⟩))
    rw [ckc_arg hh hd] at C
    have C := Lib.hid C
    clear hh hd c
    generalize i % 100 = m at *
    have g0 : ((((trin n i : Nat) : Int)) != (((trin n i : Nat) : Int))) = false := by simp
    generalize trin n i = t at *
    go_enter Try.func7, Try.ntmps7
    go_wp2_with fail
    refine (T.out _).mono ?_
    rintro e w1 ⟨rfl, rfl⟩
    go_wp2_with fail
    refine (H.out _).mono ?_
    rintro e w1 ⟨rfl, rfl⟩
    go_wp2_with fail
    refine (R.out _).mono ?_
    rintro e w1 ⟨rfl, b1⟩
    have hB := hB.trans (b1.mono hB.size); clear b1
    go_wp2_with fail
    refine (U.out _).mono ?_
    rintro e w2 ⟨rfl, rfl⟩
    go_wp2_with fail
    refine (C.out _).mono ?_
    rintro e w2 ⟨rfl, rfl⟩
    go_wp2_with fail
    refine (live12 _).mono ?_
    rintro e w4 ⟨rfl, rfl⟩
    go_wp2_with fail
    go_ret
    exact ⟨rfl, hB⟩
theorem walk (W : World) (a0 : Int) (w0 : -9223372036854775808 ≤ a0 ∧ a0 ≤ 9223372036854775807) (a1 : Int) (w1 : -9223372036854775808 ≤ a1 ∧ a1 ≤ 9223372036854775807) (a2 : Int) (w2 : -9223372036854775808 ≤ a2 ∧ a2 ≤ 9223372036854775807) :
    Calls Try.prog 7 #[.int .i64 a0, .int .i64 a1, .int .i64 a2] W fun e W' => e = .returned (.bool true) ∧ Below W.heap.size W W' := by
  cases hh : hasb a0 with
  | false => exact nosize W a0 a1 a2 w0.1 w0.2 hh
  | true =>
    by_cases hi : a2 < 0 ∨ 67108864 < a2
    · exact noplace W a0 a1 a2 w0.1 w0.2 hh hi
    · obtain ⟨a, _, _⟩ := hasb_dvd hh
      obtain ⟨n, rfl⟩ : ∃ n : Nat, a0 = n := ⟨a0.toNat, by omega⟩
      obtain ⟨i, rfl⟩ : ∃ i : Nat, a2 = i := ⟨a2.toNat, by omega⟩
      by_cases hb : 3000 < i ∨ (i ≤ 3000 ∧ 3000 < n)
      · exact great W n i a1 hh (by omega) hb
      · exact main W n i a1 hh (by omega) (by omega)
end chirpRows
end Go.Proofs.Ytkijiljipacfjaa
