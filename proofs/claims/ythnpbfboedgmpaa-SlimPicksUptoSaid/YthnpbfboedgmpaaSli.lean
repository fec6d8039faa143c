/- SlimPicks: like, none, the page's example. -/
import Derived.Test.YthnpbfboedgmpaaSlh
namespace Go.Proofs.Ythnpbfboedgmpaa
open Go.ChangeShapes Go.WideShapes Go.ChangeAt Go.RowKit
set_option linter.unusedVariables false
set_option linter.unusedSimpArgs false
def zPick (st rm : Int) (cp tp : Option Addr) (cn ck tn tk : Nat) : Value := .agg #[.int .i64 st, .int .i64 rm, .slice cp cn ck, .slice none 0 0, .slice tp tn tk]
set_option maxRecDepth 100000 in
set_option maxHeartbeats 8000000 in
theorem l46_like (st rm : Int) (cp pp tp : Option Addr) (cn ck pn pk tn tk : Nat) (W : World) :
    Calls Try.prog 8 #[.agg #[.int .i64 st, .int .i64 rm, .slice cp cn ck, .slice pp pn pk, .slice tp tn tk]] W fun e w' => e = .returned (.agg #[.int .i64 st, .int .i64 rm, .slice cp cn ck, .slice none 0 0, .slice tp tn tk]) ∧ Below W.heap.size W w' := by
  obtain ⟨w0, hw0, r0, hB0, hs0⟩ := boxG W #[.int .i64 st, .int .i64 rm, .slice cp cn ck, .slice pp pn pk, .slice tp tn tk] 25
  obtain ⟨w1, hw1, r1, hB1, hs1⟩ := boxG w0 #[.int .i64 0, .int .i64 0, .slice none 0 0, .slice none 0 0, .slice none 0 0] 30
  have HB := Lib.hid (hB0.trans (hB1.mono hB0.size))
  rw [hs0] at r1
  obtain ⟨x0, x1, x2, x3, x4⟩ := sc_cells5 ((hB1.block W.heap.size (by omega)).trans r0)
  obtain ⟨m0, m1, m2, m3, m4⟩ := sc_cells5 r1
  obtain ⟨f0, f1, f2, f3, f4⟩ := frz5 r1
  have HR := Lib.hid r1
  clear r0 r1 hB0 hB1
  go_enter Try.func8, Try.ntmps8
  go_wp2_with fail
  refine bodyPost_ret (results_cell_row (p := 2) (ty := 30) rfl _ _ _ 30 #[.int .i64 st, .int .i64 rm, .slice cp cn ck, .slice none 0 0, .slice tp tn tk] (0, 0) _ rfl (s5_row HR.out) Try.underlying30 rfl (by kernel_rfl)) rfl ?_
  exact ⟨rfl, s5_below HB.out (Nat.le_succ _)⟩
theorem rowCC0 (w : World) : RowCC w (.slice none 0 0) [] := ⟨none, 0, rfl, .inl rfl⟩
set_option maxRecDepth 100000 in
set_option maxHeartbeats 8000000 in
theorem l46_none (W : World) : Calls Try.prog 12 #[zeroP] W fun e w' => e = .returned (.bool true) ∧ Below W.heap.size W w' := by
  obtain ⟨w0, hw0, r0, hB0, hs0⟩ := boxG W #[.int .i64 0, .int .i64 0, .slice none 0 0, .slice none 0 0, .slice none 0 0] 25
  have LK := Lib.hid (fun (w : World) => l46_like 0 0 none none none 0 0 0 0 0 0 w)
  have CL := Lib.hid (fun (w : World) => r46_clients 0 0 none none none none none none 0 0 0 0 0 0 0 0 [] [] w (rowCC0 w) (rowCC0 w) (by decide) (by simp) (rowI_nil w) (rowI_nil w) (by decide))
  have HF := Lib.hid (fun (w : World) (h : Below w0.heap.size w0 w) => sc_cells5 ((h.block W.heap.size (by omega)).trans r0))
  have HB := Lib.hid hB0
  obtain ⟨x0, x1, x2, x3, x4⟩ := sc_cells5 r0
  clear r0 hB0
  unfold zeroP
  simp only [List.length_nil] at CL
  go_enter Try.func12, Try.ntmps12
  go_wp2_with fail
  clear hw0 hs0 x0 x1 x2 x3 x4
  refine (LK.out _).mono ?_
  rintro e w1 ⟨rfl, hb⟩
  have HB0 := Lib.hid hb
  have HB1 := Lib.hid (HB.out.trans (hb.mono HB.out.size))
  clear hb
  go_wp2_with fail
  refine (CL.out _).mono ?_
  rintro e w2 ⟨rfl, hb⟩
  have HB2 := Lib.hid (HB1.out.trans (hb.mono HB1.out.size))
  obtain ⟨x0, x1, x2, x3, x4⟩ := HF.out w2 (HB0.out.trans (hb.mono HB0.out.size))
  clear hb
  go_wp2_with fail
  go_ret
  exact ⟨rfl, HB2.out⟩
set_option maxRecDepth 100000 in
set_option maxHeartbeats 8000000 in
theorem slim_first0 (f : Value) (W : World) : Calls Try.prog 27 #[.int .i64 0, f] W fun e w' => e = .returned (.tuple #[.int .i64 0, .bool false]) ∧ Below W.heap.size W w' := by
  go_enter Try.func27, Try.ntmps27
  go_wp2_with fail
  go_loopw [6, 8] (fun _ j wr => j = .int .i64 0 ∧ wr = W) (fun _ _ _ => 0)
  case atStart => exact ⟨rfl, rfl⟩
  case round =>
    obtain ⟨rfl, rfl⟩ := hrel
    go_wp2_with fail
    go_ret2
    exact ⟨rfl, Below.refl _ _⟩
set_option maxRecDepth 100000 in
set_option maxHeartbeats 8000000 in
theorem slim_diff0 (W : World) : Calls Try.prog 14 #[.slice none 0 0, .slice none 0 0] W fun e w' => e = .returned (.int .i64 (-1)) ∧ Below W.heap.size W w' := by
  have DF : ∀ w : World, Calls Try.prog 21 #[.slice none 0 0, .slice none 0 0, .func (.func 22) #[] #[]] w fun e w' => e = .returned (.int .i64 (-1)) ∧ Below w.heap.size w w' := by
    intro W
    have FI := Lib.hid (fun (f : Value) (w : World) => slim_first0 f w)
    obtain ⟨w0, hw0, r0, hB0, hs0⟩ := boxG W #[.slice none 0 0] 62
    obtain ⟨w1, hw1, r1, hB1, hs1⟩ := boxG w0 #[.slice none 0 0] 62
    obtain ⟨w2, hw2, r2, hB2, hs2⟩ := boxG w1 #[.func (.func 22) #[] #[]] 54
    have HB := Lib.hid ((hB0.trans (hB1.mono hB0.size)).trans (hB2.mono (Nat.le_trans hB0.size hB1.size)))
    rw [hs0] at r1
    have c0 : w2.cell? ⟨W.heap.size, 0, none⟩ = some (.slice none 0 0) := by rw [cell_of_row _ _ _ _ _ _ ((hB2.block _ (by omega)).trans ((hB1.block W.heap.size (by omega)).trans r0))]; rfl
    have c1 : w2.cell? ⟨W.heap.size + 1, 0, none⟩ = some (.slice none 0 0) := by rw [cell_of_row _ _ _ _ _ _ ((hB2.block (W.heap.size + 1) (by omega)).trans r1)]; rfl
    clear r0 r1 r2 hB0 hB1 hB2
    go_enter Try.func21, Try.ntmps21
    go_wp2_with fail
    refine (FI.out _ _).mono ?_
    rintro e w3 ⟨rfl, hb⟩
    have HB3 := Lib.hid (HB.out.trans (hb.mono HB.out.size))
    clear hb
    go_wp2_with fail
    go_ret
    exact ⟨rfl, HB3.out⟩
  have DF := Lib.hid DF
  go_enter Try.func14, Try.ntmps14
  go_wp2_with fail
  refine (DF.out _).mono ?_
  rintro e w1 ⟨rfl, hb⟩
  have HB := Lib.hid hb
  clear hb
  go_wp2_with fail
  go_ret
  exact ⟨rfl, HB.out⟩
end Go.Proofs.Ythnpbfboedgmpaa
