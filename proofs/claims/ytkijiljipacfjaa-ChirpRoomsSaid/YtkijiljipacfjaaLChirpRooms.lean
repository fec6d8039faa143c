/- ChirpRooms: for every size, room and direction: how much room the size needs, what is multiplied by in the room, or why it can't be. -/
import Derived.Test.YtkijiljipacfjaaChirp5
import Derived.Test.YtkijiljipacfjaaZeros
namespace Go.Proofs.Ytkijiljipacfjaa
open Go.ChangeShapes Go.WideShapes Go.ChangeAt Go.RowKit
set_option linter.unusedVariables false
namespace chirpRooms
theorem nosize (W : World) (n m d : Int) (h0 : -9223372036854775808 ≤ n) (h1 : n ≤ 9223372036854775807) (hh : hasb n = false) :
    Calls Try.prog 8 #[.int .i64 n, .int .i64 m, .int .i64 d] W fun e W' => e = .returned (.bool true) ∧ Below W.heap.size W W' := by
  have T := Lib.hid (fun w => chirp_leastno n 4 w h0 h1 (.inl ⟨hh, rfl⟩))
  have R := Lib.hid (fun w => chirp_kernelno n m d 4 w h0 h1 (ckc_no hh) (by omega))
  have H := fun w => r4_has n w h0 h1
  rw [hh] at H
  have H := Lib.hid H
  have hB : Below W.heap.size W W := Below.refl _ _
  clear hh
  go_enter Try.func8, Try.ntmps8
  go_wp2_with fail
  refine (T.out _).mono ?_
  rintro e w1 ⟨rfl, rfl⟩
  go_wp2_with fail
  refine (H.out _).mono ?_
  rintro e w1 ⟨rfl, rfl⟩
  go_wp2_with fail
  refine (R.out _).mono ?_
  rintro e w1 ⟨rfl, rfl⟩
  go_wp2_with fail
  refine (live12 _).mono ?_
  rintro e w2 ⟨rfl, rfl⟩
  go_wp2_with fail
  go_ret
  exact ⟨rfl, hB⟩
theorem great (W : World) (n m d : Int) (hh : hasb n = true) (hn : 8388608 < n) :
    Calls Try.prog 8 #[.int .i64 n, .int .i64 m, .int .i64 d] W fun e W' => e = .returned (.bool true) ∧ Below W.heap.size W W' := by
  obtain ⟨a, b, c⟩ := hasb_dvd hh
  have T := Lib.hid (fun w => chirp_leastno n 3 w (by omega) (by omega) (.inr ⟨hh, hn, rfl⟩))
  have H := fun w => r4_has n w (by omega) (by omega)
  rw [hh] at H
  have H := Lib.hid H
  have hB : Below W.heap.size W W := Below.refl _ _
  have g1 : decide (8388608 < n) = true := decide_eq_true hn
  clear hh c
  go_enter Try.func8, Try.ntmps8
  go_wp2_with fail
  refine (T.out _).mono ?_
  rintro e w1 ⟨rfl, rfl⟩
  go_wp2_with fail
  refine (H.out _).mono ?_
  rintro e w1 ⟨rfl, rfl⟩
  go_wp2_with fail
  refine (live12 _).mono ?_
  rintro e w2 ⟨rfl, rfl⟩
  go_wp2_with fail
  go_ret
  exact ⟨rfl, hB⟩
set_option maxRecDepth 100000 in
theorem main (W : World) (n : Nat) (m d : Int) (hh : hasb n = true) (hn : n ≤ 8388608) (m0 : -9223372036854775808 ≤ m) (m1 : m ≤ 9223372036854775807) :
    Calls Try.prog 8 #[.int .i64 n, .int .i64 m, .int .i64 d] W fun e W' => e = .returned (.bool true) ∧ Below W.heap.size W W' := by
  obtain ⟨a, b, c⟩ := hasb_dvd hh
  have T := Lib.hid (fun w => chirp_least n w hh hn)
  have hw1 : IntKind.i64.wrap (2 * (n : Int)) = 2 * (n : Int) := IntWalk.i64_in _ (by omega)
  have hw2 : IntKind.i64.wrap (2 * (n : Int) - 1) = ((2 * n - 1 : Nat) : Int) := by rw [IntWalk.i64_in _ (by omega)]; omega
  have A := Lib.hid (fun w => r3_above (2 * n - 1) w (by omega) (by omega))
  have H := fun w => r4_has (n : Int) w (by omega) (by omega)
  rw [hh] at H
  have H := Lib.hid H
  have hB : Below W.heap.size W W := Below.refl _ _
  have g1 : decide (8388608 < (n : Int)) = false := decide_eq_false (by omega)
  have g1' : decide (8388608 < n) = false := decide_eq_false (by omega)
  have U := Lib.hid (fun a b (h1 : IsAbv (2 * n - 1) a) (h2 : IsAbv (2 * n - 1) b) => isAbv_uniq h1 h2)
  have hs : ∀ k : Nat, (((k : Int)) != ((k : Int))) = false := fun k => by simp
  by_cases hbig : 150 < n ∨ (n ≤ 150 ∧ 2000 < m)
  · have hor : (decide (150 < (n : Int)) = true) ∨ (decide (150 < (n : Int)) = false ∧ decide (2000 < m) = true) := by
      rcases hbig with h | ⟨h, h'⟩
      · exact .inl (decide_eq_true (by omega))
      · exact .inr ⟨decide_eq_false (by omega), decide_eq_true h'⟩
    clear hh c hbig
    rcases hor with g2 | ⟨g2, g3⟩
    all_goals
      go_enter Try.func8, Try.ntmps8
      go_wp2_with fail
      refine (T.out _).mono ?_
      rintro e w1 ⟨k, rfl, hk, rfl⟩
      have HK := Lib.hid hk
      clear hk
      go_wp2_with fail
      refine (H.out _).mono ?_
      rintro e w1 ⟨rfl, rfl⟩
      go_wp2_with fail
      refine (A.out _).mono ?_
      rintro e w1 ⟨k2, rfl, hk2, rfl⟩
      obtain rfl := U.out _ _ HK.out hk2
      clear hk2 HK
      have hs1 := hs k
      go_wp2_with fail
      refine (live12 _).mono ?_
      rintro e w2 ⟨rfl, rfl⟩
      go_wp2_with fail
      go_ret
      exact ⟨rfl, hB⟩
  · have g2 : decide (150 < (n : Int)) = false := decide_eq_false (by omega)
    have g3 : decide (2000 < m) = false := decide_eq_false (by omega)
    have g2' : decide (150 < n) = false := decide_eq_false (by omega)
    have C := fun w => r12_check n d w (by omega) (by omega)
    have hn2 : n ≤ 150 := by omega
    clear hbig
    by_cases hd : d = 0 ∨ d = 1
    · rw [ckc_yes hh hd] at C
      have C := Lib.hid C
      by_cases hlen : m < 2 * n - 1 ∨ hasb m = false
      · have R := Lib.hid (fun w => chirp_kernellen n m d w hh hd m0 m1 hlen)
        have HM := fun w => r4_has m w m0 m1
        have hor : (decide (m < ((2 * n - 1 : Nat) : Int)) = true) ∨ (decide (m < ((2 * n - 1 : Nat) : Int)) = false ∧ hasb m = false) := by
          by_cases e : m < ((2 * n - 1 : Nat) : Int)
          · exact .inl (decide_eq_true e)
          · refine .inr ⟨decide_eq_false e, ?_⟩
            rcases hlen with h | h
            · omega
            · exact h
        clear hh hd c hlen
        generalize 2 * n - 1 = q at *
        rcases hor with g4 | ⟨g4, g5⟩
        · clear HM
          go_enter Try.func8, Try.ntmps8
          go_wp2_with fail
          refine (T.out _).mono ?_
          rintro e w1 ⟨k, rfl, hk, rfl⟩
          have HK := Lib.hid hk
          clear hk
          go_wp2_with fail
          refine (H.out _).mono ?_
          rintro e w1 ⟨rfl, rfl⟩
          go_wp2_with fail
          refine (A.out _).mono ?_
          rintro e w1 ⟨k2, rfl, hk2, rfl⟩
          obtain rfl := U.out _ _ HK.out hk2
          clear hk2 HK
          have hs1 := hs k
          go_wp2_with fail
          refine (R.out _).mono ?_
          rintro e w1 ⟨rfl, b1⟩
          have hB := hB.trans (b1.mono hB.size); clear b1
          go_wp2_with fail
          refine (C.out _).mono ?_
          rintro e w2 ⟨rfl, rfl⟩
          go_wp2_with fail
          refine (live12 _).mono ?_
          rintro e w2 ⟨rfl, rfl⟩
          go_wp2_with fail
          go_ret
          exact ⟨rfl, hB⟩
        · rw [g5] at HM
          have HM := Lib.hid HM
          go_enter Try.func8, Try.ntmps8
          go_wp2_with fail
          refine (T.out _).mono ?_
          rintro e w1 ⟨k, rfl, hk, rfl⟩
          have HK := Lib.hid hk
          clear hk
          go_wp2_with fail
          refine (H.out _).mono ?_
          rintro e w1 ⟨rfl, rfl⟩
          go_wp2_with fail
          refine (A.out _).mono ?_
          rintro e w1 ⟨k2, rfl, hk2, rfl⟩
          obtain rfl := U.out _ _ HK.out hk2
          clear hk2 HK
          have hs1 := hs k
          go_wp2_with fail
          refine (R.out _).mono ?_
          rintro e w1 ⟨rfl, b1⟩
          have hB := hB.trans (b1.mono hB.size); clear b1
          go_wp2_with fail
          refine (C.out _).mono ?_
          rintro e w2 ⟨rfl, rfl⟩
          go_wp2_with fail
          refine (HM.out _).mono ?_
          rintro e w2 ⟨rfl, rfl⟩
          go_wp2_with fail
          refine (live12 _).mono ?_
          rintro e w2 ⟨rfl, rfl⟩
          go_wp2_with fail
          go_ret
          exact ⟨rfl, hB⟩
      · have hm1 : ¬ m < 2 * n - 1 := fun h => hlen (.inl h)
        have hm2 : hasb m = true := by
          cases e : hasb m with
          | true => rfl
          | false => exact absurd (.inr e) hlen
        obtain ⟨M, rfl⟩ : ∃ M : Nat, m = M := ⟨m.toNat, by omega⟩
        have hM : M ≤ 2000 := by have := of_decide_eq_false g3; omega
        have R := Lib.hid (fun w => chirp_kernel n M d w hh hd (by omega) hm2)
        have HM := fun w => r4_has (M : Int) w m0 m1
        rw [hm2] at HM
        have HM := Lib.hid HM
        have Q := Lib.hid (fun w => r12_rowo n (2 * n - 1) d w hh hd (by omega))
        have RLL := Lib.hid (rowc_len (rdir n d) n (2 * n - 1))
        have ZL := Lib.hid (show (rowc (rdir n d) n (2 * n - 1)).length + (M - (2 * n - 1)) ≤ 17592186044415 by rw [RLL.out]; omega)
        have PL := Lib.hid (show (rowc (rdir n d) n (2 * n - 1) ++ List.replicate (M - (2 * n - 1)) (0 : Int)).length = M by rw [List.length_append, RLL.out, List.length_replicate]; omega)
        have hw5 : IntKind.i64.wrap ((M : Int) - 2 * (n : Int)) = (M : Int) - 2 * (n : Int) := IntWalk.i64_in _ (by omega)
        have hw6 : IntKind.i64.wrap ((M : Int) - 2 * (n : Int) + 1) = ((M - (2 * n - 1) : Nat) : Int) := by rw [IntWalk.i64_in _ (by omega)]; omega
        have g4 : decide ((M : Int) < ((2 * n - 1 : Nat) : Int)) = false := decide_eq_false (by omega)
        have g4' : decide (M < 2 * n - 1) = false := decide_eq_false (by omega)
        have g3' : decide (2000 < M) = false := decide_eq_false (by omega)
        clear hh hd c hlen hm1 hm2
        generalize rowc (rdir n d) n (2 * n - 1) = ys at *
        generalize M - (2 * n - 1) = z at *
        generalize 2 * n - 1 = q at *
        go_enter Try.func8, Try.ntmps8
        go_wp2_with fail
        refine (T.out _).mono ?_
        rintro e w1 ⟨k, rfl, hk, rfl⟩
        have HK := Lib.hid hk
        clear hk
        go_wp2_with fail
        refine (H.out _).mono ?_
        rintro e w1 ⟨rfl, rfl⟩
        go_wp2_with fail
        refine (A.out _).mono ?_
        rintro e w1 ⟨k2, rfl, hk2, rfl⟩
        obtain rfl := U.out _ _ HK.out hk2
        clear hk2 HK
        have hs1 := hs k
        go_wp2_with fail
        refine (R.out _).mono ?_
        rintro e w1 ⟨p1, d1, rfl, h, b1⟩
        have R1 := Lib.hid h; clear h; have hB := hB.trans (b1.mono hB.size); clear b1
        go_wp2_with fail
        refine (C.out _).mono ?_
        rintro e w2 ⟨rfl, rfl⟩
        go_wp2_with fail
        refine (HM.out _).mono ?_
        rintro e w2 ⟨rfl, rfl⟩
        go_wp2_with fail
        refine (Q.out _).mono ?_
        rintro e w2 ⟨v, rfl, hO, b2⟩
        obtain ⟨v', w3, hrun, hO2, b3⟩ := append_zeros_run (m := z) 22 hO b2.size ZL.out
        have R3 := Lib.hid (R1.out.below (b2.trans b3))
        have hB2 := hB.trans ((b2.trans b3).mono hB.size)
        have HO := Lib.hid hO2
        clear hO hO2 b2 b3 R1 hB
        obtain ⟨pa, pc, rfl, hrd, hc1, _⟩ := HO.out.shape
        have R4 := Lib.hid (show Row w3 pa M (ys ++ List.replicate z 0) from ⟨PL.out, hrd, R3.out.wf, by omega⟩)
        rw [PL.out] at hrun
        clear HO hrd
        go_wp2_with (at_builtin; refine append_run_guarded _ (by first | rfl | simp [Region.wanted, yielded, go_sem]) _ _ 22 3 rfl _ _ rfl rfl _ _ hrun ?_)
        refine (c_same R3.out R4.out).mono ?_
        rintro e w4 ⟨rfl, b1⟩
        have hB3 := hB2.trans (b1.mono hB2.size)
        clear b1
        go_wp2_with fail
        refine (live12 _).mono ?_
        rintro e w5 ⟨rfl, rfl⟩
        go_wp2_with fail
        go_ret
        exact ⟨rfl, hB3⟩
    · have R := Lib.hid (fun w => chirp_kernelno n m d 2 w (by omega) (by omega) (ckc_arg hh hd) (by omega))
      rw [ckc_arg hh hd] at C
      have C := Lib.hid C
      clear hh hd c
      go_enter Try.func8, Try.ntmps8
      go_wp2_with fail
      refine (T.out _).mono ?_
      rintro e w1 ⟨k, rfl, hk, rfl⟩
      have HK := Lib.hid hk
      clear hk
      go_wp2_with fail
      refine (H.out _).mono ?_
      rintro e w1 ⟨rfl, rfl⟩
      go_wp2_with fail
      refine (A.out _).mono ?_
      rintro e w1 ⟨k2, rfl, hk2, rfl⟩
      obtain rfl := U.out _ _ HK.out hk2
      clear hk2 HK
      have hs1 := hs k
      go_wp2_with fail
      refine (R.out _).mono ?_
      rintro e w1 ⟨rfl, rfl⟩
      go_wp2_with fail
      refine (C.out _).mono ?_
      rintro e w2 ⟨rfl, rfl⟩
      go_wp2_with fail
      refine (live12 _).mono ?_
      rintro e w2 ⟨rfl, rfl⟩
      go_wp2_with fail
      go_ret
      exact ⟨rfl, hB⟩
theorem walk (W : World) (a0 : Int) (w0 : -9223372036854775808 ≤ a0 ∧ a0 ≤ 9223372036854775807) (a1 : Int) (w1 : -9223372036854775808 ≤ a1 ∧ a1 ≤ 9223372036854775807) (a2 : Int) (w2 : -9223372036854775808 ≤ a2 ∧ a2 ≤ 9223372036854775807) :
    Calls Try.prog 8 #[.int .i64 a0, .int .i64 a1, .int .i64 a2] W fun e W' => e = .returned (.bool true) ∧ Below W.heap.size W W' := by
  cases hh : hasb a0 with
  | false => exact nosize W a0 a1 a2 w0.1 w0.2 hh
  | true =>
    by_cases hn : 8388608 < a0
    · exact great W a0 a1 a2 hh hn
    · obtain ⟨a, _, _⟩ := hasb_dvd hh
      obtain ⟨n, rfl⟩ : ∃ n : Nat, a0 = n := ⟨a0.toNat, by omega⟩
      exact main W n a1 a2 hh (by omega) w1.1 w1.2
end chirpRooms
end Go.Proofs.Ytkijiljipacfjaa
