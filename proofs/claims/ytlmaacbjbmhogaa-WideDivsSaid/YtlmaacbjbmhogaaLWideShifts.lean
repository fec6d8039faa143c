/- WideShifts: any number by any places to either side, and how many bits it has. -/
import Derived.Test.YtlmaacbjbmhogaaWide9
import Derived.Test.YtlmaacbjbmhogaaLive1
namespace Go.Proofs.Ytlmaacbjbmhogaa
open Go.ChangeShapes Go.WideShapes Go.ChangeAt Go.RowKit
set_option linter.unusedVariables false
theorem box2u (W : World) (a b : Int) (T : TypeId) : ∃ w0 : World, w0 = W.alloc (.cells #[.int .u64 a, .int .u64 b] T) ∧ w0.cell? ⟨W.heap.size, 0, none⟩ = some (.int .u64 a) ∧ w0.cell? ⟨W.heap.size, 1, none⟩ = some (.int .u64 b) ∧ Below W.heap.size W w0 ∧ w0.heap.size = W.heap.size + 1 := by
  have hn := heap_alloc_new W (.cells #[.int .u64 a, .int .u64 b] T)
  refine ⟨_, rfl, ?_, ?_, (Below.refl _ _).alloc (Nat.le_refl _) _, by simp⟩ <;> (rw [cell_of_row _ _ _ _ _ _ hn]; rfl)
theorem digits_D (h l : Int) (w : World) (hh : 0 ≤ h ∧ h ≤ 18446744073709551615) (hl : 0 ≤ l ∧ l ≤ 18446744073709551615) :
    Calls Try.prog 6 #[.agg #[.int .u64 h, .int .u64 l]] w fun e w' => e = .returned (.agg (D (nm h l))) ∧ Below w.heap.size w w' := by
  have RO := Lib.hid (fun w => r1_of h l w hh.1 hh.2 hl.1 hl.2)
  rw [show (h * 18446744073709551616 + l).toNat = nm h l from rfl] at RO
  generalize nm h l = n at *
  have hb1 := (Below.refl w.heap.size w).alloc (Nat.le_refl _) (.cells #[.int .u64 h, .int .u64 l] 25)
  have Z0 := Box.new (w.alloc (.cells #[.int .u64 h, .int .u64 l] 25))
  have s1 : (w.alloc (.cells #[.int .u64 h, .int .u64 l] 25)).heap.size = w.heap.size + 1 := by simp
  rw [s1] at Z0
  have hB := hb1.alloc (by rw [s1]; omega) (.cells #[.int .i64 0, .int .i64 0, .int .i64 0, .int .i64 0, .int .i64 0, .int .i64 0, .int .i64 0, .int .i64 0] 27)
  clear s1 hb1
  go_enter Try.func6, Try.ntmps6
  go_wp2_with fail
  generalize (w.alloc (.cells #[.int .u64 h, .int .u64 l] 25)).alloc (.cells #[.int .i64 0, .int .i64 0, .int .i64 0, .int .i64 0, .int .i64 0, .int .i64 0, .int .i64 0, .int .i64 0] 27) = w0 at *
  refine (RO.out _).mono ?_
  rintro e w1 ⟨rfl, b1⟩
  have Z1 := Z0.kept b1
  have hB1 := hB.trans (b1.mono hB.size)
  have s2 := Z1.st n
  have Z2 := Z1.set n
  have hB2 := below_setRow hB1 (show w.heap.size ≤ w.heap.size + 1 by omega) (D n)
  clear Z0 hB b1
  go_wp2_with fail
  exact bodyPost_ret (results_cell_row (p := 2) (ty := 27) rfl _ _ _ 27 (D n) (0, 0) _ rfl Z2 Try.underlying27 rfl (by kernel_rfl)) rfl ⟨rfl, hB2⟩
theorem eql_D2 (n : Nat) (w : World) : (binOp .eql 27 (.agg (D n)) (.agg (D n))).run Try.prog w = .ok (.bool true) w := by
  have E := eql_D_same (m := n) (n := n) rfl w
  go_simp
namespace wideShifts
set_option maxRecDepth 100000 in
set_option maxHeartbeats 8000000 in
theorem main (h l N : Nat) (n : Int) (W : World) (hh : h < 18446744073709551616) (hl : l < 18446744073709551616)
    (CL : ∀ w, Calls Try.prog 20 #[.agg #[.int .u64 h, .int .u64 l], .int .i64 n] w (WL w N))
    (CR : ∀ w, Calls Try.prog 21 #[.agg (D (h * 18446744073709551616 + l)), .int .i64 n] w fun e w' => e = .returned (.agg (D N)) ∧ Below w.heap.size w w') :
    Calls Try.prog 5 #[.agg #[.int .u64 h, .int .u64 l], .int .i64 n] W fun e w' => e = .returned (.bool true) ∧ Below W.heap.size W w' := by
  have LV := Lib.hid (fun w => live1 w)
  have CL := Lib.hid CL
  have CR := Lib.hid CR
  have EQ := eql_D2 N
  have DX := Lib.hid (fun w => digits_D (h : Int) (l : Int) w ⟨by omega, by omega⟩ ⟨by omega, by omega⟩)
  rw [nm_nat] at DX
  have DL := Lib.hid (fun hi lo w h1 h2 (h3 : nm hi lo = N % 65536 ^ 8) => (show Calls Try.prog 6 #[.agg #[.int .u64 hi, .int .u64 lo]] w fun e w' => e = .returned (.agg (D N)) ∧ Below w.heap.size w w' from by
    have := digits_D hi lo w h1 h2
    rw [h3, D_mod] at this
    exact this))
  have WN := Lib.hid (fun w => wide_len (h : Int) (l : Int) w (by omega) (by omega) (by omega) (by omega))
  have RN := Lib.hid (fun w => r1_len (h * 18446744073709551616 + l) w)
  have e1 : (if (h : Int) = 0 then (Lib.bitLen (l : Int).toNat : Int) else 64 + (Lib.bitLen (h : Int).toNat : Int)) = ((lenTo (h * 18446744073709551616 + l) 128 : Nat) : Int) := by
    rw [len_two h l _ m64 hh hl rfl]
    simp only [Int.toNat_natCast]
    by_cases h0 : h = 0
    · rw [if_pos h0, if_pos (by omega)]
    · rw [if_neg h0, if_neg (by omega)]; omega
  rw [e1] at WN
  clear e1
  generalize ((lenTo (h * 18446744073709551616 + l) 128 : Nat) : Int) = z at *
  generalize h * 18446744073709551616 + l = A at *
  have hb1 := (Below.refl W.heap.size W).alloc (Nat.le_refl _) (.cells #[.int .u64 (h : Int), .int .u64 (l : Int)] 23)
  obtain ⟨w0, hw0, c0, c1, b2, s2⟩ := box2u (W.alloc (.cells #[.int .u64 (h : Int), .int .u64 (l : Int)] 23)) (h : Int) (l : Int) 25
  have s1 : (W.alloc (.cells #[.int .u64 (h : Int), .int .u64 (l : Int)] 23)).heap.size = W.heap.size + 1 := by simp
  rw [s1] at c0 c1 s2
  have hB := hb1.trans (b2.mono (by rw [s1]; omega))
  have lX : W.heap.size + 1 < w0.heap.size := by omega
  have MK := Lib.hid (fun w' (hb : Below w0.heap.size w0 w') => (show w'.cell? ⟨W.heap.size + 1, 0, none⟩ = some (.int .u64 (h : Int)) ∧ w'.cell? ⟨W.heap.size + 1, 1, none⟩ = some (.int .u64 (l : Int)) ∧ Below w0.heap.size w0 w' from ⟨(hb.cell (p := ⟨W.heap.size + 1, 0, none⟩) lX).trans c0, (hb.cell (p := ⟨W.heap.size + 1, 1, none⟩) lX).trans c1, hb⟩))
  have KP := Lib.hid (fun w1 w' (hS : w1.cell? ⟨W.heap.size + 1, 0, none⟩ = some (.int .u64 (h : Int)) ∧ w1.cell? ⟨W.heap.size + 1, 1, none⟩ = some (.int .u64 (l : Int)) ∧ Below w0.heap.size w0 w1) (hb : Below w1.heap.size w1 w') => MK.out w' (hS.2.2.trans (hb.mono hS.2.2.size)))
  clear hb1 b2 s1 s2 c0 c1
  go_enter Try.func5, Try.ntmps5
  go_wp2_with fail
  rw [← hw0]
  clear hw0
  go_region_held3 (fun w' => w'.cell? ⟨W.heap.size + 1, 0, none⟩ = some (.int .u64 (h : Int)) ∧ w'.cell? ⟨W.heap.size + 1, 1, none⟩ = some (.int .u64 (l : Int)) ∧ Below w0.heap.size w0 w') (first | exact MK.out _ ((Below.refl _ _).drew) | assumption | (refine KP.out _ _ ?_ hb; first | assumption | exact MK.out _ ((Below.refl _ _).drew))) (first | (go_at_call 20; (with_reducible refine (CL.out _).mono ?_); rintro e w' ⟨hi, lo, rfl, hhi, hlo, hnm, hb⟩) | (go_at_call 6; (first | with_reducible refine (DX.out _).mono ?_ | with_reducible refine (DL.out _ _ _ hhi hlo hnm).mono ?_); rintro e w' ⟨rfl, hb⟩) | (go_at_call 21; (with_reducible refine (CR.out _).mono ?_); rintro e w' ⟨rfl, hb⟩) | (go_at_call 22; (with_reducible refine (WN.out _).mono ?_); rintro e w' ⟨rfl, hb⟩) | (go_at_call 23; (with_reducible refine (RN.out _).mono ?_); rintro e w' ⟨rfl, hb⟩) | (go_at_call 16; (with_reducible refine (LV.out _).mono ?_); rintro e w' ⟨rfl, hb⟩))
  all_goals (rename_i hSS; obtain ⟨_, _, hBB⟩ := hSS; go_wp2_with fail; go_ret; exact ⟨rfl, hB.trans (hBB.mono hB.size)⟩)
theorem walk (W : World) (a0_0 : Int) (w0_0 : 0 ≤ a0_0 ∧ a0_0 ≤ 18446744073709551615) (a0_1 : Int) (w0_1 : 0 ≤ a0_1 ∧ a0_1 ≤ 18446744073709551615) (a1 : Int) (w1 : -9223372036854775808 ≤ a1 ∧ a1 ≤ 9223372036854775807) :
    Calls Try.prog 5 #[.agg #[.int .u64 a0_0, .int .u64 a0_1], .int .i64 a1] W fun e W' => e = .returned (.bool true) ∧ Below W.heap.size W W' := by
  obtain ⟨h, rfl⟩ := Int.eq_ofNat_of_zero_le w0_0.1
  obtain ⟨l, rfl⟩ := Int.eq_ofNat_of_zero_le w0_1.1
  have hh : h < 18446744073709551616 := by omega
  have hl : l < 18446744073709551616 := by omega
  have hA : h * 18446744073709551616 + l < 65536 ^ 8 := by rw [p8]; omega
  by_cases c1 : 128 ≤ a1
  · have e8 : (65536 : Nat) ^ 8 = 2 ^ 128 := by decide
    refine main h l ((h * 18446744073709551616 + l) * 2 ^ 128) a1 W hh hl (fun w => wide_left_a h l _ a1 w (by rw [e8, Nat.mul_mod_left]) (.inl c1)) (fun w => r1_left_pos _ 128 a1 w ?_)
    by_cases e : a1 = 128
    · exact .inl ⟨e, by omega⟩
    · exact .inr ⟨by omega, rfl⟩
  by_cases c2 : a1 ≤ -128
  · have e8 : (65536 : Nat) ^ 8 = 2 ^ 128 := by decide
    refine main h l ((h * 18446744073709551616 + l) / 2 ^ 128) a1 W hh hl (fun w => wide_left_a h l _ a1 w (by rw [Nat.div_eq_of_lt (by rw [← e8]; exact hA)]) (.inr c2)) (fun w => r1_left_neg _ 128 a1 w hA ?_)
    by_cases e : a1 = -128
    · exact .inl ⟨e, by omega, by omega⟩
    · exact .inr ⟨by omega, rfl⟩
  by_cases c3 : 64 ≤ a1
  · obtain ⟨k, hk⟩ := Int.eq_ofNat_of_zero_le (show 0 ≤ a1 - 64 by omega)
    exact main h l _ a1 W hh hl (fun w => wide_left_c h l k a1 w hh hl (by omega) (by omega)) (fun w => r1_left_pos _ (k + 64) a1 w (.inl ⟨by omega, by omega⟩))
  by_cases c4 : 0 ≤ a1
  · obtain ⟨k, hk⟩ := Int.eq_ofNat_of_zero_le c4
    exact main h l _ a1 W hh hl (fun w => wide_left_d h l k a1 w hh hl hk (by omega)) (fun w => r1_left_pos _ k a1 w (.inl ⟨hk, by omega⟩))
  by_cases c5 : -64 < a1
  · obtain ⟨k, hk⟩ := Int.eq_ofNat_of_zero_le (show 0 ≤ -a1 by omega)
    exact main h l _ a1 W hh hl (fun w => wide_left_e h l k a1 w hh hl (by omega) (by omega) (by omega)) (fun w => r1_left_neg _ k a1 w hA (.inl ⟨by omega, by omega, by omega⟩))
  · obtain ⟨k, hk⟩ := Int.eq_ofNat_of_zero_le (show 0 ≤ -a1 - 64 by omega)
    exact main h l _ a1 W hh hl (fun w => wide_left_f h l k a1 w hh hl (by omega) (by omega)) (fun w => r1_left_neg _ (k + 64) a1 w hA (.inl ⟨by omega, by omega, by omega⟩))
end wideShifts
end Go.Proofs.Ytlmaacbjbmhogaa
