/- The page's example of layer 7; conv.Pad. -/
import Derived.Test.YtkijiljipacfjaaConvn
import Derived.Test.YtkijiljipacfjaaCopy
import Derived.Test.YtkijiljipacfjaaLive6
namespace Go.Proofs.Ytkijiljipacfjaa
open Go.ChangeShapes Go.WideShapes Go.ChangeAt Go.RowKit
set_option linter.unusedVariables false
theorem cyc1234 : cycl [1, 2] [3, 4] = [11, 10] := by decide +kernel
theorem lin1234 : linl [1, 2] [3, 4] = [3, 10, 8] := by decide +kernel
theorem live7 (w : World) : Calls Try.prog 15 #[] w fun e w' => e = .returned (.bool true) ∧ Below w.heap.size w w' := by
  have CY := Lib.hid (fun p q w h1 h2 => conv_cyclic p q 2 2 2 [1, 2] [3, 4] w h1 h2 (by omega))
  have LI := Lib.hid (fun p q w h1 h2 => conv_linear p q 2 2 2 2 [1, 2] [3, 4] w h1 h2 (by omega) (by omega))
  rw [cyc1234] at CY
  rw [lin1234] at LI
  have hB : Below w.heap.size w w := Below.refl _ _
  have A1 := Lib.hid (fun w => rowat2 w 1 2)
  have A2 := Lib.hid (fun w => rowat2 w 3 4)
  have A3 := Lib.hid (fun w => rowat2 w 11 10)
  have A4 := Lib.hid (fun w => rowat3 w 3 10 8)
  go_enter Try.func15, Try.ntmps15
  go_wp2_with fail
  have r1 := Lib.hid (Row.alloc (Row.of_at (A1.out w) (by decide) (n := 2) rfl (by omega)) (.cells #[.int .u64 3, .int .u64 4] 35))
  have r2 := Lib.hid (Row.of_at (A2.out (w.alloc (.cells #[.int .u64 1, .int .u64 2] 35))) (by decide) (n := 2) rfl (by omega))
  have b1 : Below w.heap.size w ((w.alloc (.cells #[.int .u64 1, .int .u64 2] 35)).alloc (.cells #[.int .u64 3, .int .u64 4] 35)) := ((Below.refl _ _).alloc (Nat.le_refl _) _).alloc (by simp) _
  simp only [World.size_alloc] at r2
  generalize (w.alloc (.cells #[.int .u64 1, .int .u64 2] 35)).alloc (.cells #[.int .u64 3, .int .u64 4] 35) = W1 at *
  refine (CY.out _ _ _ r1.out r2.out).mono ?_
  rintro e w1 ⟨p1, k1, rfl, h1, bb⟩
  have HC := Lib.hid h1
  have b2 := b1.trans (bb.mono b1.size)
  clear h1 bb b1 r1 r2 hB
  go_wp2_with fail
  have r1 := Lib.hid (Row.alloc (Row.of_at (A1.out w1) (by decide) (n := 2) rfl (by omega)) (.cells #[.int .u64 3, .int .u64 4] 35))
  have r2 := Lib.hid (Row.of_at (A2.out (w1.alloc (.cells #[.int .u64 1, .int .u64 2] 35))) (by decide) (n := 2) rfl (by omega))
  have HC2 := Lib.hid ((HC.out.alloc (.cells #[.int .u64 1, .int .u64 2] 35)).alloc (.cells #[.int .u64 3, .int .u64 4] 35))
  have b3 : Below w.heap.size w ((w1.alloc (.cells #[.int .u64 1, .int .u64 2] 35)).alloc (.cells #[.int .u64 3, .int .u64 4] 35)) := (b2.alloc b2.size _).alloc (by have := b2.size; simp; omega) _
  simp only [World.size_alloc] at r2
  clear HC b2
  generalize (w1.alloc (.cells #[.int .u64 1, .int .u64 2] 35)).alloc (.cells #[.int .u64 3, .int .u64 4] 35) = W2 at *
  refine (LI.out _ _ _ r1.out r2.out).mono ?_
  rintro e w3 ⟨p2, k2, rfl, h1, bb⟩
  have HL := Lib.hid h1
  have HC3 := Lib.hid (HC2.out.below bb)
  have b4 := b3.trans (bb.mono b3.size)
  clear h1 bb b3 r1 r2 HC2
  go_wp2_with fail
  have r1 := Lib.hid (Row.of_at (A3.out w3) (by decide) (n := 2) rfl (by omega))
  have HC4 := Lib.hid (HC3.out.alloc (.cells #[.int .u64 11, .int .u64 10] 35))
  have HL4 := Lib.hid (HL.out.alloc (.cells #[.int .u64 11, .int .u64 10] 35))
  have b5 := b4.alloc b4.size (.cells #[.int .u64 11, .int .u64 10] 35)
  clear HC3 HL b4
  generalize w3.alloc (.cells #[.int .u64 11, .int .u64 10] 35) = W3 at *
  refine (c_same HC4.out r1.out).mono ?_
  rintro e w4 ⟨rfl, bb⟩
  have HL5 := Lib.hid (HL4.out.below bb)
  have b6 := b5.trans (bb.mono b5.size)
  clear bb b5 r1 HC4 HL4
  go_wp2_with fail
  have r1 := Lib.hid (Row.of_at (A4.out w4) (by decide) (n := 3) rfl (by omega))
  have HL6 := Lib.hid (HL5.out.alloc (.cells #[.int .u64 3, .int .u64 10, .int .u64 8] 35))
  have b7 := b6.alloc b6.size (.cells #[.int .u64 3, .int .u64 10, .int .u64 8] 35)
  clear HL5 b6
  generalize w4.alloc (.cells #[.int .u64 3, .int .u64 10, .int .u64 8] 35) = W4 at *
  refine (c_same HL6.out r1.out).mono ?_
  rintro e w5 ⟨rfl, bb⟩
  go_wp2_with fail
  go_ret
  exact ⟨rfl, b7.trans (bb.mono b7.size)⟩
set_option maxRecDepth 100000 in
theorem conv_pad (p : Option Addr) (n c m : Nat) (xs : List Int) (W : World) (hr : Row W p n xs) (hn : n ≤ m) (h2 : m ≤ 16777216) :
    Calls Try.prog 22 #[.slice p n c, .int .i64 m] W (GivesOk W m (redl xs ++ List.replicate (m - n) 0)) := by
  have hmk := make_u64 m (by omega)
  have RD := Lib.hid (fun w h => c_red (w := w) (p := p) (n := n) (c := c) (xs := xs) h)
  have HX := Lib.hid hr
  have e1 : decide ((m : Int) < 0) = false := decide_eq_false (by omega)
  have e2 : decide (16777216 < (m : Int)) = false := decide_eq_false (by omega)
  have e3 : decide ((m : Int) < (n : Int)) = false := decide_eq_false (by omega)
  have hB : Below W.heap.size W W := Below.refl _ _
  have R0 := Lib.hid (RowAt.made W 35 m)
  have HX1 := Lib.hid (hr.alloc (.cells (Array.replicate m (.int .u64 0)) 35))
  have hB1 := hB.alloc (Nat.le_refl _) (.cells (Array.replicate m (.int .u64 0)) 35)
  clear hr
  go_enter Try.func22, Try.ntmps22
  go_wp2_with fail
  generalize W.alloc (.cells (Array.replicate m (.int .u64 0)) 35) = W1 at *
  refine (RD.out _ HX1.out).mono ?_
  rintro e w2 ⟨q, k, rfl, hq, b1⟩
  obtain ⟨w3, hrun, hrow, hbut⟩ := run_copy_u64 3 (R0.out.below b1) (show (List.replicate m (0 : Int)).length = m by simp) hq hn (dc := m) (sc := k)
  have HR := Lib.hid hrow
  have hB2 := hB1.trans (b1.mono hB1.size)
  have hB3 := hB2.trans (hbut.below (Nat.le_refl _) hB2.size)
  have HW := Lib.hid (show (redl xs).length = n by rw [redl_len, HX.out.len])
  clear hrow hbut hq b1 R0
  go_wp2_with (at_builtin; refine Lib.wpList_copy_run _ rfl _ _ 22 22 rfl _ _ rfl rfl hrun ?_)
  go_ret2
  refine ⟨_, _, rfl, Row.of_at (by rw [show List.replicate (m - n) (0 : Int) = (List.replicate m 0).drop n by rw [List.drop_replicate]]; exact HR.out) ?_ (by rw [List.length_append, HW.out, List.length_replicate]; omega) (by omega), hB3⟩
  intro z hz
  rcases List.mem_append.1 hz with h | h
  · exact redl_wf xs z h
  · rw [List.eq_of_mem_replicate h]; decide
theorem conv_padno (p : Option Addr) (n c : Nat) (m : Int) (W : World) (h : m < 0 ∨ 16777216 < m) :
    Calls Try.prog 22 #[.slice p n c, .int .i64 m] W fun e w' => e = .returned (.tuple #[.slice none 0 0, .int .i64 2]) ∧ W = w' := by
  by_cases h1 : m < 0
  · have e1 : decide (m < 0) = true := decide_eq_true h1
    go_enter Try.func22, Try.ntmps22
    go_wp2_with fail
    go_ret2
    exact ⟨rfl, rfl⟩
  · have e1 : decide (m < 0) = false := decide_eq_false h1
    have e2 : decide (16777216 < m) = true := decide_eq_true (by omega)
    go_enter Try.func22, Try.ntmps22
    go_wp2_with fail
    go_ret2
    exact ⟨rfl, rfl⟩
theorem conv_padlen (p : Option Addr) (n c : Nat) (m : Int) (W : World) (h0 : 0 ≤ m) (h1 : m ≤ 16777216) (h : m < n) :
    Calls Try.prog 22 #[.slice p n c, .int .i64 m] W fun e w' => e = .returned (.tuple #[.slice none 0 0, .int .i64 5]) ∧ W = w' := by
  have e1 : decide (m < 0) = false := decide_eq_false (by omega)
  have e2 : decide (16777216 < m) = false := decide_eq_false (by omega)
  have e3 : decide (m < (n : Int)) = true := decide_eq_true h
  go_enter Try.func22, Try.ntmps22
  go_wp2_with fail
  go_ret2
  exact ⟨rfl, rfl⟩
end Go.Proofs.Ytkijiljipacfjaa
