/- ConvBig: for every number n and every word a: of a row of 4096 numbers there are products, of a longer one there are none. -/
import Derived.Test.YtkijiljipacfjaaLive7
namespace Go.Proofs.Ytkijiljipacfjaa
open Go.ChangeShapes Go.WideShapes Go.ChangeAt Go.RowKit
set_option linter.unusedVariables false
namespace convBig
theorem rowat1 (w : World) (x : Int) : RowAt (w.alloc (.cells #[.int .u64 x] 35)) w.heap.size 35 [x] := by
  unfold RowAt; rw [heap_alloc_new]; rfl
set_option maxRecDepth 100000 in
set_option maxHeartbeats 2000000 in
theorem main (W : World) (n r N : Nat) (a : Int) (hn : n ≤ 65535) (a0 : 0 ≤ a) (a1 : a ≤ 18446744073709551615) (h : n % 3 = r) (hN : r + 4096 = N) (b : Bool) (hb : decide (4096 < N) = b) :
    Calls Try.prog 6 #[.int .u16 n, .int .u64 a] W fun e W' => e = .returned (.bool true) ∧ Below W.heap.size W W' := by
  have hr : r ≤ 2 := by omega
  have hmod : ((n : Int)).tmod 3 = (r : Int) := by rw [← h]; rfl
  have hmod2 : (n : Int) % 3 = (r : Int) := hmod
  have hw0 : IntKind.i64.wrap (n : Int) = (n : Int) := IntWalk.i64_in _ (by omega)
  have hw1 : IntKind.i64.wrap ((r : Int) + 4096) = (N : Int) := by rw [IntWalk.i64_in _ (by omega)]; omega
  have hmk := make_u64 N (by omega)
  have R1 := Lib.hid (show RowAt (W.alloc (.cells ((Array.replicate N (.int .u64 0)).setIfInBounds 0 (.int .u64 a)) 35)) W.heap.size 35 ((List.replicate N (0 : Int)).set 0 a) by
    unfold RowAt
    rw [heap_alloc_new, List.map_set, List.map_replicate, ← List.setIfInBounds_toArray, List.toArray_replicate])
  have hB1 := (Below.refl W.heap.size W).alloc (Nat.le_refl _) (.cells ((Array.replicate N (.int .u64 0)).setIfInBounds 0 (.int .u64 a)) 35)
  have hz : (W.alloc (.cells ((Array.replicate N (.int .u64 0)).setIfInBounds 0 (.int .u64 a)) 35)).heap.size = W.heap.size + 1 := by simp
  have R0 := RowAt.made W 35 N
  have cl := R0.cell (k := 0) (by simp; omega)
  have fl := R0.free 0
  clear R0
  have LW := Lib.hid (show ∀ z ∈ (List.replicate N (0 : Int)).set 0 a, (Lit.int .u64 z).wf = true from by
    intro z hz
    rcases List.mem_or_eq_of_mem_set hz with h | h
    · rw [List.eq_of_mem_replicate h]; decide
    · rw [h]; exact WalkArith.wf_u64 ⟨a0, a1⟩)
  have LL := Lib.hid (show ((List.replicate N (0 : Int)).set 0 a).length = N by simp)
  generalize (List.replicate N (0 : Int)).set 0 a = xs at *
  have hi0 : (0 : Int) < (N : Int) := by omega
  have hd : decide (4096 < (N : Int)) = b := by rw [← hb]; congr 1; apply propext; omega
  have A1 := Lib.hid (fun w => rowat1 w 1)
  clear h hb
  cases b with
  | false =>
    have n1 : N = 4096 := by have := of_decide_eq_false hd; omega
    have L1 := Lib.hid (fun p q c d w h1 h2 => conv_linear p q N 1 c d xs [1] w h1 h2 (by omega) (by omega))
    have L2 := Lib.hid (fun p q c d w h1 h2 => conv_linear p q 1 N c d [1] xs w h1 h2 (by omega) (by omega))
    clear n1
    go_enter Try.func6, Try.ntmps6
    go_wp2_with fail
    have HX := Lib.hid (Row.of_at R1.out LW.out LL.out (by omega))
    clear cl fl
    have hB2 := hB1
    generalize W.alloc (.cells ((Array.replicate N (.int .u64 0)).setIfInBounds 0 (.int .u64 a)) 35) = W2 at *
    rw [← hz]
    have r1 := Lib.hid (Row.of_at (A1.out W2) (by decide) (n := 1) rfl (by omega))
    have HX2 := Lib.hid (HX.out.alloc (.cells #[.int .u64 1] 35))
    have hB3 := hB2.alloc hB2.size (.cells #[.int .u64 1] 35)
    clear hB1 hB2 R1 hz HX
    generalize W2.alloc (.cells #[.int .u64 1] 35) = W3 at *
    refine (L1.out _ _ _ _ _ HX2.out r1.out).mono ?_
    rintro e w1 ⟨p1, d1, rfl, _, b1⟩
    have HX3 := Lib.hid (HX2.out.below b1)
    have hB4 := hB3.trans (b1.mono hB3.size)
    clear b1 hB3 HX2 r1
    go_wp2_with fail
    have r1 := Lib.hid (Row.of_at (A1.out w1) (by decide) (n := 1) rfl (by omega))
    have HX2 := Lib.hid (HX3.out.alloc (.cells #[.int .u64 1] 35))
    have hB3 := hB4.alloc hB4.size (.cells #[.int .u64 1] 35)
    clear hB4 HX3
    generalize w1.alloc (.cells #[.int .u64 1] 35) = W4 at *
    refine (L2.out _ _ _ _ _ r1.out HX2.out).mono ?_
    rintro e w2 ⟨p2, d2, rfl, _, b1⟩
    have hB4 := hB3.trans (b1.mono hB3.size)
    clear b1 hB3 HX2 r1
    go_wp2_with fail
    refine (live7 _).mono ?_
    rintro e w3 ⟨rfl, b1⟩
    have hB5 := hB4.trans (b1.mono hB4.size)
    go_wp2_with fail
    go_ret
    exact ⟨rfl, hB5⟩
  | true =>
    have n1 : 4096 < N := by have := of_decide_eq_true hd; omega
    have L1 := Lib.hid (fun p q c d w => conv_linearbig p q N 1 c d w (.inl n1))
    have L2 := Lib.hid (fun p q c d w => conv_linearbig p q 1 N c d w (.inr n1))
    go_enter Try.func6, Try.ntmps6
    go_wp2_with fail
    clear cl fl
    have hB2 := hB1
    generalize W.alloc (.cells ((Array.replicate N (.int .u64 0)).setIfInBounds 0 (.int .u64 a)) 35) = W2 at *
    rw [← hz]
    have hB3 := hB2.alloc hB2.size (.cells #[.int .u64 1] 35)
    clear hB1 hB2 R1 hz
    generalize W2.alloc (.cells #[.int .u64 1] 35) = W3 at *
    refine (L1.out _ _ _ _ _).mono ?_
    rintro e w1 ⟨rfl, rfl⟩
    go_wp2_with fail
    have hB4 := hB3.alloc hB3.size (.cells #[.int .u64 1] 35)
    clear hB3
    generalize W3.alloc (.cells #[.int .u64 1] 35) = W4 at *
    refine (L2.out _ _ _ _ _).mono ?_
    rintro e w1 ⟨rfl, rfl⟩
    go_wp2_with fail
    refine (live7 _).mono ?_
    rintro e w3 ⟨rfl, b1⟩
    have hB5 := hB4.trans (b1.mono hB4.size)
    go_wp2_with fail
    go_ret
    exact ⟨rfl, hB5⟩
theorem walk (W : World) (a0 : Int) (w0 : 0 ≤ a0 ∧ a0 ≤ 65535) (a1 : Int) (w1 : 0 ≤ a1 ∧ a1 ≤ 18446744073709551615) :
    Calls Try.prog 6 #[.int .u16 a0, .int .u64 a1] W fun e W' => e = .returned (.bool true) ∧ Below W.heap.size W W' := by
  obtain ⟨n, rfl⟩ : ∃ n : Nat, a0 = n := ⟨a0.toNat, by omega⟩
  exact main W n (n % 3) (n % 3 + 4096) a1 (by omega) w1.1 w1.2 rfl rfl _ rfl
end convBig
end Go.Proofs.Ytkijiljipacfjaa
