/- Reference 37's One, of calls alone; what stands beneath. By program (genslg.py). -/
import Derived.Test.YthnpbfboedgmpaaSlk
import Derived.Deep.Cut
namespace Go.Proofs.Ythnpbfboedgmpaa
open Go.ChangeShapes Go.WideShapes Go.ChangeAt Go.RowKit
set_option linter.unusedVariables false
set_option linter.unusedSimpArgs false
theorem cells3L {w : World} {b : Nat} {T : TypeId} {x0 x1 x2 : Value} (h : w.heap[b]? = some (.cells #[x0, x1, x2] T (0, 0))) : w.cell? ⟨b, 0, none⟩ = some x0 ∧ w.cell? ⟨b, 1, none⟩ = some x1 ∧ w.cell? ⟨b, 2, none⟩ = some x2 := by
  refine ⟨?_, ?_, ?_⟩ <;> (rw [cell_of_row _ _ _ _ _ _ h]; rfl)
theorem cells8L {w : World} {b : Nat} {T : TypeId} {x0 x1 x2 x3 x4 x5 x6 x7 : Value} (h : w.heap[b]? = some (.cells #[x0, x1, x2, x3, x4, x5, x6, x7] T (0, 0))) : w.cell? ⟨b, 0, none⟩ = some x0 ∧ w.cell? ⟨b, 1, none⟩ = some x1 ∧ w.cell? ⟨b, 2, none⟩ = some x2 ∧ w.cell? ⟨b, 3, none⟩ = some x3 ∧ w.cell? ⟨b, 4, none⟩ = some x4 ∧ w.cell? ⟨b, 5, none⟩ = some x5 ∧ w.cell? ⟨b, 6, none⟩ = some x6 ∧ w.cell? ⟨b, 7, none⟩ = some x7 := by
  refine ⟨?_, ?_, ?_, ?_, ?_, ?_, ?_, ?_⟩ <;> (rw [cell_of_row _ _ _ _ _ _ h]; rfl)
theorem cells19L {w : World} {b : Nat} {T : TypeId} {x0 x1 x2 x3 x4 x5 x6 x7 x8 x9 x10 x11 x12 x13 x14 x15 x16 x17 x18 : Value} (h : w.heap[b]? = some (.cells #[x0, x1, x2, x3, x4, x5, x6, x7, x8, x9, x10, x11, x12, x13, x14, x15, x16, x17, x18] T (0, 0))) : w.cell? ⟨b, 0, none⟩ = some x0 ∧ w.cell? ⟨b, 1, none⟩ = some x1 ∧ w.cell? ⟨b, 2, none⟩ = some x2 ∧ w.cell? ⟨b, 3, none⟩ = some x3 ∧ w.cell? ⟨b, 4, none⟩ = some x4 ∧ w.cell? ⟨b, 5, none⟩ = some x5 ∧ w.cell? ⟨b, 6, none⟩ = some x6 ∧ w.cell? ⟨b, 7, none⟩ = some x7 ∧ w.cell? ⟨b, 8, none⟩ = some x8 ∧ w.cell? ⟨b, 9, none⟩ = some x9 ∧ w.cell? ⟨b, 10, none⟩ = some x10 ∧ w.cell? ⟨b, 11, none⟩ = some x11 ∧ w.cell? ⟨b, 12, none⟩ = some x12 ∧ w.cell? ⟨b, 13, none⟩ = some x13 ∧ w.cell? ⟨b, 14, none⟩ = some x14 ∧ w.cell? ⟨b, 15, none⟩ = some x15 ∧ w.cell? ⟨b, 16, none⟩ = some x16 ∧ w.cell? ⟨b, 17, none⟩ = some x17 ∧ w.cell? ⟨b, 18, none⟩ = some x18 := by
  refine ⟨?_, ?_, ?_, ?_, ?_, ?_, ?_, ?_, ?_, ?_, ?_, ?_, ?_, ?_, ?_, ?_, ?_, ?_, ?_⟩ <;> (rw [cell_of_row _ _ _ _ _ _ h]; rfl)
set_option maxRecDepth 100000 in
set_option maxHeartbeats 8000000 in
theorem r13_cmp0 (W : World) : Calls Try.prog 34 #[.agg #[.int .i64 0, .int .i64 0, .slice none 0 0], .agg #[.int .i64 0, .int .i64 0, .slice none 0 0]] W fun e w' => e = .returned (.int .i64 0) ∧ Below W.heap.size W w' := by
  obtain ⟨w0, hw0, r0, hB0, hs0⟩ := boxG W #[.int .i64 0, .int .i64 0, .slice none 0 0] 57
  obtain ⟨w1, hw1, r1, hB1, hs1⟩ := boxG w0 #[.int .i64 0, .int .i64 0, .slice none 0 0] 57
  obtain ⟨w2, hw2, r2, hB2, hs2⟩ := boxG w1 #[.int .i64 0, .int .i64 0, .int .i64 0] 3
  obtain ⟨w3, hw3, r3, hB3, hs3⟩ := boxG w2 #[.int .i64 0, .int .i64 0, .int .i64 0] 3
  have e1 : w1.heap.size = W.heap.size + 1 + 1 := by omega
  have e2 : w2.heap.size = W.heap.size + 1 + 1 + 1 := by omega
  rw [hs0] at r1
  rw [e1] at r2
  rw [e2] at r3
  have HB := Lib.hid (show Below W.heap.size W w3 from (hB0.trans (hB1.mono hB0.size)).trans ((hB2.mono (by omega)).trans (hB3.mono (by omega))))
  have HF := Lib.hid (fun (w : World) (h : Below w3.heap.size w3 w) => And.intro ((h.block W.heap.size (by omega)).trans ((hB3.block _ (by omega)).trans ((hB2.block _ (by omega)).trans ((hB1.block _ (by omega)).trans r0)))) (And.intro ((h.block (W.heap.size + 1) (by omega)).trans ((hB3.block _ (by omega)).trans ((hB2.block _ (by omega)).trans r1)))
    (And.intro ((h.block (W.heap.size + 1 + 1) (by omega)).trans ((hB3.block _ (by omega)).trans r2)) ((h.block (W.heap.size + 1 + 1 + 1) (by omega)).trans r3))))
  obtain ⟨a0, a1, a2⟩ := cells3L ((hB3.block _ (by omega)).trans ((hB2.block _ (by omega)).trans ((hB1.block W.heap.size (by omega)).trans r0)))
  obtain ⟨b0, b1, b2⟩ := cells3L ((hB1.block W.heap.size (by omega)).trans r0)
  obtain ⟨c0, c1, c2⟩ := cells3L r1
  obtain ⟨d0, d1, d2⟩ := cells3L ((hB2.block (W.heap.size + 1) (by omega)).trans r1)
  clear r0 r1 r2 r3 hB0 hB1 hB2 hB3 e1 e2
  go_enter Try.func34, Try.ntmps34
  go_wp2_with fail
  clear hw0 hw1 hw2 hw3 hs0 hs1 hs2 hs3 a0 a1 a2 b0 b1 b2 c0 c1 c2 d0 d1 d2
  go_loopw [7] (fun j wr => ∃ q : Nat, j = .int .i64 q ∧ Hid (q ≤ 3) ∧ Hid (Below w3.heap.size w3 wr)) (fun j _ => (3 - intOf j).toNat)
  case atStart => exact ⟨0, rfl, Lib.hid (by omega), Lib.hid (Below.refl _ _)⟩
  case round =>
    obtain ⟨q, rfl, HQ, HBx⟩ := hrel
    obtain ⟨x1, rfl⟩ : ∃ w, w = wr := ⟨_, rfl⟩
    obtain ⟨h0, h1, h2, h3⟩ := HF.out x1.drew HBx.out.drew
    obtain ⟨k0, k1, k2, k3⟩ := HF.out x1 HBx.out
    have HF3 := Lib.hid k0
    by_cases hq : q < 3
    · have hq3 : q = 0 ∨ q = 1 ∨ q = 2 := by omega
      have HQL := Lib.hid hq
      have WK := Lib.hid (show wrap64 ((q : Int) + 1) = ((q + 1 : Nat) : Int) by simp only [wrap64]; omega)
      have hqi : (q : Int) < 3 := by omega
      have hqj : (q : Int) ≤ 3 := by omega
      have m : x1.cell? ⟨W.heap.size + 1 + 1, q, none⟩ = some (.int .i64 0) := by
        rcases hq3 with rfl | rfl | rfl <;> (rw [cell_of_row _ _ _ _ _ _ k2]; rfl)
      have m' : x1.cell? ⟨W.heap.size + 1 + 1 + 1, q, none⟩ = some (.int .i64 0) := by
        rcases hq3 with rfl | rfl | rfl <;> (rw [cell_of_row _ _ _ _ _ _ k3]; rfl)
      clear h0 h1 h2 h3 k0 k1 k2 k3 hq3 hq
      go_wp2_with fail
      go_region
      go_wp2_with fail
      go_region
      go_wp2_with fail
      go_roundw
      case rel => exact ⟨q + 1, by first | rw [WK.out] | simp, Lib.hid HQL.out, Lib.hid (by first | exact HBx.out.drew.drew | exact HBx.out.drew | exact HBx.out)⟩
      case measure => first | (rw [WK.out]; have := HQL.out; simp only [intOf]; omega) | (have := HQL.out; simp only [intOf]; omega)
    · have h9 : q = 3 := by have := HQ.out; omega
      subst h9
      obtain ⟨a0, a1, a2⟩ := cells3L k0
      have HBF := Lib.hid (HB.out.trans (HBx.out.mono HB.out.size))
      clear h0 h1 h2 h3 k0 k1 k2 k3 hq
      go_wp2_with fail
      go_loopw [8] (fun j wr => j = .int .i64 0 ∧ wr = x1) (fun _ _ => 0)
      case atStart => exact ⟨rfl, rfl⟩
      case round =>
        obtain ⟨rfl, rfl⟩ := hrel
        go_wp2_with fail
        go_ret
        exact ⟨rfl, HBF.out⟩
set_option maxRecDepth 100000 in
set_option maxHeartbeats 8000000 in
theorem r13_same0 (W : World) : Calls Try.prog 31 #[.agg #[.int .i64 0, .int .i64 0, .slice none 0 0], .agg #[.int .i64 0, .int .i64 0, .slice none 0 0]] W fun e w' => e = .returned (.bool true) ∧ Below W.heap.size W w' := by
  obtain ⟨w0, hw0, r0, hB0, hs0⟩ := boxG W #[.int .i64 0, .int .i64 0, .slice none 0 0] 57
  obtain ⟨w1, hw1, r1, hB1, hs1⟩ := boxG w0 #[.int .i64 0, .int .i64 0, .slice none 0 0] 57
  have HB := Lib.hid (hB0.trans (hB1.mono hB0.size))
  have CM := Lib.hid (r13_cmp0 w1)
  obtain ⟨a0, a1, a2⟩ := cells3L ((hB1.block W.heap.size (by omega)).trans r0)
  rw [hs0] at r1
  obtain ⟨c0, c1, c2⟩ := cells3L r1
  clear r0 r1 hB0 hB1
  go_enter Try.func31, Try.ntmps31
  go_wp2_with fail
  refine CM.out.mono ?_
  rintro e w2 ⟨rfl, hb⟩
  have HB2 := Lib.hid (HB.out.trans (hb.mono HB.out.size))
  clear hb
  go_wp2_with fail
  go_ret
  exact ⟨rfl, HB2.out⟩
theorem row0 (w : World) : Row w none 0 [] := ⟨rfl, .inl rfl, by simp, by decide⟩
set_option maxRecDepth 100000 in
set_option maxHeartbeats 8000000 in
theorem r36_alike0 (W : World) : Calls Try.prog 26 #[.agg #[.int .i64 0, .int .i64 0, .int .i64 0, .slice none 0 0, .int .i64 0, .int .i64 0, .string ⟨#[]⟩, .slice none 0 0], .agg #[.int .i64 0, .int .i64 0, .int .i64 0, .slice none 0 0, .int .i64 0, .int .i64 0, .string ⟨#[]⟩, .slice none 0 0]] W fun e w' => e = .returned (.bool true) ∧ Below W.heap.size W w' := by
  obtain ⟨w0, hw0, r0, hB0, hs0⟩ := boxG W #[.int .i64 0, .int .i64 0, .int .i64 0, .slice none 0 0, .int .i64 0, .int .i64 0, .string ⟨#[]⟩, .slice none 0 0] 59
  obtain ⟨w1, hw1, r1, hB1, hs1⟩ := boxG w0 #[.int .i64 0, .int .i64 0, .int .i64 0, .slice none 0 0, .int .i64 0, .int .i64 0, .string ⟨#[]⟩, .slice none 0 0] 59
  have HB := Lib.hid (hB0.trans (hB1.mono hB0.size))
  have SM := Lib.hid (r13_same0 w1)
  have FS := Lib.hid (fun (w : World) => c_same (c := 0) (d := 0) (row0 w) (row0 w))
  rw [hs0] at r1
  have HF := Lib.hid (fun (w : World) (h : Below w1.heap.size w1 w) => And.intro (cells8L ((h.block W.heap.size (by omega)).trans ((hB1.block W.heap.size (by omega)).trans r0))) (cells8L ((h.block (W.heap.size + 1) (by omega)).trans r1)))
  obtain ⟨⟨a0, a1, a2, a3, a4, a5, a6, a7⟩, c0, c1, c2, c3, c4, c5, c6, c7⟩ := HF.out w1 (Below.refl _ _)
  clear r0 r1 hB0 hB1
  go_enter Try.func26, Try.ntmps26
  go_wp2_with fail
  clear hw0 hw1 hs0 hs1 a0 a1 a2 a3 a4 a5 a6 a7 c0 c1 c2 c3 c4 c5 c6 c7
  refine SM.out.mono ?_
  rintro e w2 ⟨rfl, hb⟩
  have HB2 := Lib.hid (HB.out.trans (hb.mono HB.out.size))
  obtain ⟨⟨a0, a1, a2, a3, a4, a5, a6, a7⟩, c0, c1, c2, c3, c4, c5, c6, c7⟩ := HF.out w2 hb
  clear hb
  go_wp2_with fail
  refine (FS.out _).mono ?_
  rintro e w3 ⟨rfl, hb⟩
  have HB3 := Lib.hid (HB2.out.trans (hb.mono HB2.out.size))
  clear hb
  go_wp2_with fail
  go_ret
  exact ⟨rfl, HB3.out⟩
set_option maxRecDepth 100000 in
set_option maxHeartbeats 16000000 in
theorem r37_one (kd n dir : Int) (s : ByteArray) (who ar : Int) (xs : List Int) (p q : Option Addr) (k j : Nat) (W : World) (hp : Row W p xs.length xs) (hq : Row W q xs.length xs) :
    Calls Try.prog 20 #[.agg #[.int .i64 0, .int .i64 0, .int .i64 kd, .int .i64 n, .int .i64 dir, .string s, .int .i64 who, .int .i64 ar, .slice p xs.length k, .int .i64 0, .int .i64 0, .int .i64 0, .slice none 0 0, .int .i64 0, .int .i64 0, .string ⟨#[]⟩, .slice none 0 0, .int .i64 0, .int .i64 0], .agg #[.int .i64 0, .int .i64 0, .int .i64 kd, .int .i64 n, .int .i64 dir, .string s, .int .i64 who, .int .i64 ar, .slice q xs.length j, .int .i64 0, .int .i64 0, .int .i64 0, .slice none 0 0, .int .i64 0, .int .i64 0, .string ⟨#[]⟩, .slice none 0 0, .int .i64 0, .int .i64 0]] W fun e w' => e = .returned (.bool true) ∧ Below W.heap.size W w' := by
  obtain ⟨w0, hw0, r0, hB0, hs0⟩ := boxG W #[.int .i64 0, .int .i64 0, .int .i64 kd, .int .i64 n, .int .i64 dir, .string s, .int .i64 who, .int .i64 ar, .slice p xs.length k, .int .i64 0, .int .i64 0, .int .i64 0, .slice none 0 0, .int .i64 0, .int .i64 0, .string ⟨#[]⟩, .slice none 0 0, .int .i64 0, .int .i64 0] 61
  obtain ⟨w1, hw1, r1, hB1, hs1⟩ := boxG w0 #[.int .i64 0, .int .i64 0, .int .i64 kd, .int .i64 n, .int .i64 dir, .string s, .int .i64 who, .int .i64 ar, .slice q xs.length j, .int .i64 0, .int .i64 0, .int .i64 0, .slice none 0 0, .int .i64 0, .int .i64 0, .string ⟨#[]⟩, .slice none 0 0, .int .i64 0, .int .i64 0] 61
  have HB := Lib.hid (hB0.trans (hB1.mono hB0.size))
  have FS := Lib.hid (c_same (c := k) (d := j) (hp.below HB.out) (hq.below HB.out))
  have AL := Lib.hid (fun (w : World) => r36_alike0 w)
  rw [hs0] at r1
  have HF := Lib.hid (fun (w : World) (h : Below w1.heap.size w1 w) => And.intro (cells19L ((h.block W.heap.size (by omega)).trans ((hB1.block W.heap.size (by omega)).trans r0))) (cells19L ((h.block (W.heap.size + 1) (by omega)).trans r1)))
  obtain ⟨⟨a0, a1, a2, a3, a4, a5, a6, a7, a8, a9, a10, a11, a12, a13, a14, a15, a16, a17, a18⟩, c0, c1, c2, c3, c4, c5, c6, c7, c8, c9, c10, c11, c12, c13, c14, c15, c16, c17, c18⟩ := HF.out w1 (Below.refl _ _)
  clear r0 r1 hB0 hB1 hp hq
  go_enter Try.func20, Try.ntmps20
  go_wp2_with fail
  clear hw0 hw1 hs0 hs1 a0 a1 a2 a3 a4 a5 a6 a7 a8 a9 a10 a11 a12 a13 a14 a15 a16 a17 a18 c0 c1 c2 c3 c4 c5 c6 c7 c8 c9 c10 c11 c12 c13 c14 c15 c16 c17 c18
  refine FS.out.mono ?_
  rintro e w2 ⟨rfl, hb⟩
  have HB2 := Lib.hid (HB.out.trans (hb.mono HB.out.size))
  obtain ⟨⟨a0, a1, a2, a3, a4, a5, a6, a7, a8, a9, a10, a11, a12, a13, a14, a15, a16, a17, a18⟩, c0, c1, c2, c3, c4, c5, c6, c7, c8, c9, c10, c11, c12, c13, c14, c15, c16, c17, c18⟩ := HF.out w2 hb
  clear hb
  go_wp2_with fail
  refine (AL.out _).mono ?_
  rintro e w3 ⟨rfl, hb⟩
  have HB3 := Lib.hid (HB2.out.trans (hb.mono HB2.out.size))
  clear hb
  go_wp2_with fail
  go_ret
  exact ⟨rfl, HB3.out⟩
end Go.Proofs.Ythnpbfboedgmpaa
