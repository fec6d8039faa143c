/- The page's example of layer 15. -/
import Derived.Test.YticljddfdeocbaaNsame
namespace Go.Proofs.Yticljddfdeocbaa
open Go.ChangeShapes Go.WideShapes Go.ChangeAt Go.RowKit
set_option linter.unusedVariables false
theorem chk15 : ckd 1 (chkd 6 5 (.cons 3 4 .nil .nil)) = 0 := by decide +kernel
theorem tabs15 : tabsL 6 5 (.cons 3 4 .nil .nil) 1 = [⟨3, 5, 0, 1⟩, ⟨1, 4, 0, 0⟩] := by decide +kernel
theorem room15 : (if rightb 3 5 0 1 then roomi 3 5 0 else 0) = 4 := by decide +kernel
set_option maxRecDepth 100000 in
theorem live15 (w : World) : Calls Try.prog 46 #[] w fun e w' => e = .returned (.bool true) ∧ Below w.heap.size w w' := by
  obtain ⟨w0, hw0, a0, a1, a2, hB0, hs0⟩ := box3 w 3 4 (.slice none 0 0) 24
  have K0 := Kids.of1 (lim := w0.heap.size) (c := 1) (by omega) a0 a1 a2 (Kids.nought w0 w0.heap.size) (by omega) (by omega)
  obtain ⟨w1, hw1, b0, b1, b2, hB1, hs1⟩ := box3 w0 6 5 (.slice (some ⟨w.heap.size, 0, none⟩) 1 1) 24
  have K1 := K0.below (Nat.le_refl _) hB1
  have hBB := hB0.trans (hB1.mono hB0.size)
  have NT := Lib.hid (need_tables (.cons 3 4 .nil .nil) (.slice (some ⟨w.heap.size, 0, none⟩) 1 1) 6 5 1 w0.heap.size w1 (by decide) K1 (by omega) (by omega) ⟨by omega, by omega, trivial, trivial⟩)
  rw [chk15, tabs15] at NT
  have RM := Lib.hid (fun w => need_room 3 5 0 1 w (by omega) (by omega))
  rw [room15] at RM
  have RS := Lib.hid (fun p q c d limp limq w h1 h2 h3 h4 => r15_same [⟨3, 5, 0, 1⟩, ⟨1, 4, 0, 0⟩] [⟨3, 5, 0, 1⟩, ⟨1, 4, 0, 0⟩] p q c d limp limq w h1 h2 h3 h4 (by decide))
  rw [decide_eq_true rfl] at RS
  rw [hw0] at hw1
  rw [hs0] at b0 b1 b2
  clear K0 K1 a0 a1 a2 hB0 hB1 hw0
  go_enter Try.func46, Try.ntmps46
  go_wp2_with fail
  rw [← hw1]
  clear hw1
  refine NT.out.mono ?_
  rintro e w2 ⟨a, c, rfl, hr, hc1, hc2, b2'⟩
  have hr0 := hr
  obtain ⟨b, o, e, hb, g0, g1, g2, g3⟩ := hr.get (i := 0) (by decide)
  subst e
  have HR := Lib.hid hr
  have hn := heap_alloc_new w2 (.cells #[.int .i64 3, .int .i64 5, .int .i64 0, .int .i64 1, .int .i64 1, .int .i64 4, .int .i64 0, .int .i64 0] 54)
  have HN := Lib.hid (NRow.of2 hn)
  have hb3 := (Below.refl w2.heap.size w2).alloc (Nat.le_refl _) (.cells #[.int .i64 3, .int .i64 5, .int .i64 0, .int .i64 1, .int .i64 1, .int .i64 4, .int .i64 0, .int .i64 0] 54)
  obtain ⟨w3, hw3⟩ : ∃ w3, w3 = w2.alloc (.cells #[.int .i64 3, .int .i64 5, .int .i64 0, .int .i64 1, .int .i64 1, .int .i64 4, .int .i64 0, .int .i64 0] 54) := ⟨_, rfl⟩
  rw [← hw3] at hb3 HN
  have S := Lib.hid (RS.out (some ⟨b, o, none⟩) (some ⟨w2.heap.size, 0, none⟩) c 2 w2.heap.size w3.heap.size w3 (HR.out.carry hb3) HN.out hb3.size (Nat.le_refl _))
  have k0 := (hb3.cell (p := ⟨b, _, none⟩) hb).trans g0
  have k1 := (hb3.cell (p := ⟨b, _, none⟩) hb).trans g1
  have k2 := (hb3.cell (p := ⟨b, _, none⟩) hb).trans g2
  have k3 := (hb3.cell (p := ⟨b, _, none⟩) hb).trans g3
  have hb3l : b < w3.heap.size := by have := hb3.size; omega
  have HB3 := Lib.hid (hBB.trans ((b2'.trans (hb3.mono b2'.size)).mono hBB.size))
  simp only [List.length_cons, List.length_nil, Nat.zero_add, Nat.reduceAdd, List.getElem_cons_zero, Nat.zero_mul, Nat.add_zero] at S k0 k1 k2 k3 hc1 ⊢
  clear hr hr0 hn hb3 b2' g0 g1 g2 g3 NT b0 b1 b2 hBB
  go_wp2_with fail
  rw [← hw3]
  clear hw3
  refine S.out.mono ?_
  rintro e w4 ⟨rfl, b4⟩
  have m0 := (b4.cell (p := ⟨b, _, none⟩) hb3l).trans k0
  have m1 := (b4.cell (p := ⟨b, _, none⟩) hb3l).trans k1
  have m2 := (b4.cell (p := ⟨b, _, none⟩) hb3l).trans k2
  have m3 := (b4.cell (p := ⟨b, _, none⟩) hb3l).trans k3
  have HB4 := Lib.hid (HB3.out.trans (b4.mono HB3.out.size))
  clear b4 k0 k1 k2 k3
  go_wp2_with fail
  refine (RM.out _).mono ?_
  rintro e w5 ⟨rfl, b5⟩
  go_wp2_with fail
  go_ret
  exact ⟨rfl, HB4.out.trans (b5.mono HB4.out.size)⟩
end Go.Proofs.Yticljddfdeocbaa
