/- DftUnits: the transform of a 1 at a place. -/
import Derived.Test.YteimfmenbeicfaaLive6
import Derived.Test.YteimfmenbeicfaaLRootTells
namespace Go.Proofs.Yteimfmenbeicfaa
open Go.ChangeShapes Go.WideShapes Go.ChangeAt Go.RowKit
set_option linter.unusedVariables false
namespace dftUnits
theorem c_rpow (a : Int) (n : Nat) (w : World) (hn : n ≤ 300) : Calls Try.prog 28 #[.int .u64 (fm a), .int .i64 n] w (Gives w n (powl (fm a) n)) :=
  (r4_powers (fm a) n w (fm_lo a) (fm_hi a) (by omega)).mono fun e w' ⟨v, he, hq, hb⟩ => gives_own he hq hb (powl_wf _ n) (powl_len _ n) (by omega)

set_option maxRecDepth 100000 in
theorem main (W : World) (n k : Nat) (hn : n ≤ 130) (hk : k < n) (hh : hasb n = true) :
    Calls Try.prog 14 #[.int .i64 n, .int .i64 k] W fun e W' => e = .returned (.bool true) ∧ Below W.heap.size W W' := by
  have g1 : decide (130 < (n : Int)) = false := decide_eq_false (by omega)
  have g2 : decide ((k : Int) < 0) = false := decide_eq_false (by omega)
  have g3 : decide ((n : Int) ≤ (k : Int)) = false := decide_eq_false (by omega)
  have H := fun w => r4_has n w (by omega) (by omega)
  rw [hh] at H
  have H := Lib.hid H
  have hmk := make_u64 n (by omega)
  have hu := unit_set n k hk
  have hF := Filling.start W 22 (unitl n k) n
  obtain ⟨u, hu2⟩ : ∃ v, (W.alloc (.cells (Array.replicate n (.int .u64 0)) 22)).cell? ⟨W.heap.size, k, none⟩ = some v := by
    obtain ⟨v, hv⟩ := fill_at (unitl n k) 0 n k (by omega) hk (unitl_len n k)
    exact ⟨v, by rw [cell_of_row _ W.heap.size k _ _ _ hF]; exact hv⟩
  have hfr := hF.free k
  clear hF
  have hR : RowAt (W.alloc (.cells (((unitl n k).map (Value.int .u64)).toArray) 22)) W.heap.size 22 (unitl n k) := by unfold RowAt; rw [heap_alloc_new]
  have D := Lib.hid (dft_dft _ n n (unitl n k) _ (Row.of_at hR (unitl_wf n k) (unitl_len n k) (by omega)) (by omega) hh)
  rw [horl_unit (rt n) n k hk] at D
  have b1 : Below W.heap.size W (W.alloc (.cells (((unitl n k).map (Value.int .u64)).toArray) 22)) := (Below.refl _ _).alloc (Nat.le_refl _) _
  have RR := Lib.hid (fun w => rootTells.r4_root n w hh)
  have PP := Lib.hid (fun w => r2_pow (rt n) k w (rt_lo n) (rt_hi n) (by omega))
  have QQ := Lib.hid (fun w => c_rpow (rt n ^ k) n w (by omega))
  clear hh hR
  generalize rt n = r at *
  generalize fm (r ^ k) = v at *
  go_enter Try.func14, Try.ntmps14
  go_wp2_with fail
  refine (H.out _).mono ?_
  rintro e w1 ⟨rfl, rfl⟩
  go_wp2_with fail
  generalize W.alloc (.cells (((unitl n k).map (Value.int .u64)).toArray) 22) = W1 at *
  refine D.out.mono ?_
  rintro e w2 ⟨p, c, rfl, hq, b2⟩
  have HQ := Lib.hid hq
  have hB : Below W.heap.size W w2 := b1.trans (b2.mono b1.size)
  clear hq b1 b2 D
  go_wp2_with fail
  refine (RR.out _).mono ?_
  rintro e w3 ⟨rfl, rfl⟩
  go_wp2_with fail
  refine (PP.out _).mono ?_
  rintro e w3 ⟨rfl, rfl⟩
  go_wp2_with fail
  refine (QQ.out _).mono ?_
  rintro e w3 ⟨q, d, rfl, hq, b1⟩
  have R3 := Lib.hid hq; clear hq; have HQ := Lib.hid (HQ.out.below b1); have hB := hB.trans (b1.mono hB.size); clear b1
  go_wp2_with fail
  refine (c_same HQ.out R3.out).mono ?_
  rintro e w4 ⟨rfl, b1⟩
  clear R3; have HQ := Lib.hid (HQ.out.below b1); have hB := hB.trans (b1.mono hB.size); clear b1
  go_wp2_with fail
  refine (live6 _).mono ?_
  rintro e w5 ⟨rfl, b1⟩
  have HQ := Lib.hid (HQ.out.below b1); have hB := hB.trans (b1.mono hB.size); clear b1
  go_wp2_with fail
  go_ret
  exact ⟨rfl, hB⟩

set_option maxRecDepth 100000 in
theorem odd (W : World) (n k : Int) (w0 : -9223372036854775808 ≤ n ∧ n ≤ 9223372036854775807) (h : 130 < n ∨ hasb n = false ∨ k < 0 ∨ n ≤ k) :
    Calls Try.prog 14 #[.int .i64 n, .int .i64 k] W fun e W' => e = .returned (.bool true) ∧ Below W.heap.size W W' := by
  obtain ⟨n0, n1⟩ := w0
  by_cases h1 : 130 < n
  · have g1 : decide (130 < n) = true := decide_eq_true h1
    go_enter Try.func14, Try.ntmps14
    go_wp2_with fail
    refine (live6 _).mono ?_
    rintro e w5 ⟨rfl, b1⟩
    go_wp2_with fail
    go_ret
    exact ⟨rfl, b1⟩
  have g1 : decide (130 < n) = false := decide_eq_false h1
  have H := r4_has n W n0 n1
  by_cases h2 : hasb n = false
  · rw [h2] at H
    have H := Lib.hid H
    clear h2 h
    go_enter Try.func14, Try.ntmps14
    go_wp2_with fail
    refine H.out.mono ?_
    rintro e w1 ⟨rfl, rfl⟩
    go_wp2_with fail
    refine (live6 _).mono ?_
    rintro e w5 ⟨rfl, b1⟩
    go_wp2_with fail
    go_ret
    exact ⟨rfl, b1⟩
  rw [show hasb n = true by simpa using h2] at H
  have H := Lib.hid H
  by_cases h3 : k < 0
  · have g3 : decide (k < 0) = true := decide_eq_true h3
    clear h2 h
    go_enter Try.func14, Try.ntmps14
    go_wp2_with fail
    refine H.out.mono ?_
    rintro e w1 ⟨rfl, rfl⟩
    go_wp2_with fail
    refine (live6 _).mono ?_
    rintro e w5 ⟨rfl, b1⟩
    go_wp2_with fail
    go_ret
    exact ⟨rfl, b1⟩
  have g3 : decide (k < 0) = false := decide_eq_false h3
  have g5 : n ≤ k := by
    rcases h with h | h | h | h
    · omega
    · exact absurd h h2
    · omega
    · exact h
  have g4 : decide (n ≤ k) = true := decide_eq_true g5
  clear h2 h
  go_enter Try.func14, Try.ntmps14
  go_wp2_with fail
  refine H.out.mono ?_
  rintro e w1 ⟨rfl, rfl⟩
  go_wp2_with fail
  refine (live6 _).mono ?_
  rintro e w5 ⟨rfl, b1⟩
  go_wp2_with fail
  go_ret
  exact ⟨rfl, b1⟩

theorem walk (W : World) (n : Int) (w0 : -9223372036854775808 ≤ n ∧ n ≤ 9223372036854775807) (k : Int) (w1 : -9223372036854775808 ≤ k ∧ k ≤ 9223372036854775807) :
    Calls Try.prog 14 #[.int .i64 n, .int .i64 k] W fun e W' => e = .returned (.bool true) ∧ Below W.heap.size W W' := by
  by_cases h : 130 < n ∨ hasb n = false ∨ k < 0 ∨ n ≤ k
  · exact odd W n k w0 h
  · have hh : hasb n = true := by
      cases e : hasb n with
      | false => exact absurd (.inr (.inl e)) h
      | true => rfl
    have hx : ¬ 130 < n ∧ ¬ k < 0 ∧ ¬ n ≤ k := ⟨fun e => h (.inl e), fun e => h (.inr (.inr (.inl e))), fun e => h (.inr (.inr (.inr e)))⟩
    obtain ⟨m, rfl⟩ : ∃ m : Nat, n = m := ⟨n.toNat, by omega⟩
    obtain ⟨j, rfl⟩ : ∃ j : Nat, k = j := ⟨k.toNat, by omega⟩
    exact main W m j (by omega) (by omega) hh
end dftUnits
end Go.Proofs.Yteimfmenbeicfaa
