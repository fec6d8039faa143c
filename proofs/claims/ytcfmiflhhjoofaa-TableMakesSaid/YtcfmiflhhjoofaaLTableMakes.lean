/- TableMakes: any table, number by number, or that there is none. -/
import Derived.Test.YtcfmiflhhjoofaaM1
import Derived.Test.YtcfmiflhhjoofaaM49
namespace Go.Proofs.Ytcfmiflhhjoofaa
open Go.ChangeShapes Go.WideShapes Go.ChangeAt Go.RowKit
set_option linter.unusedVariables false
namespace tableMakes
theorem box_keep {w0 w : World} {X : Nat} {k n m d : Int} (hlt : X < w0.heap.size) (c0 : w0.cell? ⟨X, 0, none⟩ = some (.int .i64 k)) (c1 : w0.cell? ⟨X, 1, none⟩ = some (.int .i64 n)) (c2 : w0.cell? ⟨X, 2, none⟩ = some (.int .i64 m)) (c3 : w0.cell? ⟨X, 3, none⟩ = some (.int .i64 d)) (h : Below w0.heap.size w0 w) :
    w.cell? ⟨X, 0, none⟩ = some (.int .i64 k) ∧ w.cell? ⟨X, 1, none⟩ = some (.int .i64 n) ∧ w.cell? ⟨X, 2, none⟩ = some (.int .i64 m) ∧ w.cell? ⟨X, 3, none⟩ = some (.int .i64 d) :=
  ⟨(h.cell (p := ⟨X, 0, none⟩) hlt).trans c0, (h.cell (p := ⟨X, 1, none⟩) hlt).trans c1, (h.cell (p := ⟨X, 2, none⟩) hlt).trans c2, (h.cell (p := ⟨X, 3, none⟩) hlt).trans c3⟩
theorem nor (k n m d : Int) (W : World) (wn : -9223372036854775808 ≤ n ∧ n ≤ 9223372036854775807) (wm : m ≤ 9223372036854775807) (h : rightb k n m d = false) :
    Calls Try.prog 3 #[.agg #[.int .i64 k, .int .i64 n, .int .i64 m, .int .i64 d]] W fun e W' => e = .returned (.bool true) ∧ Below W.heap.size W W' := by
  have RR := fun w => r15_right k n m d w wn wm
  rw [h] at RR
  have RR := Lib.hid RR
  have TM := Lib.hid (fun w => table_makeno k n m d w wn h)
  obtain ⟨w0, hw0, c0, c1, c2, c3, hW, hlt⟩ := box4 W k n m d 23
  go_enter Try.func3, Try.ntmps3
  go_wp2_with fail
  rw [← hw0]
  clear hw0
  refine (RR.out _).mono ?_
  rintro e w1 ⟨rfl, b1⟩
  have hB := b1
  obtain ⟨e0, e1, e2, e3⟩ := box_keep hlt c0 c1 c2 c3 hB
  clear b1
  go_wp2_with fail
  refine (TM.out _).mono ?_
  rintro e w2 ⟨rfl, b1⟩
  have hB := hB.trans (b1.mono hB.size)
  clear e0 e1 e2 e3
  obtain ⟨e0, e1, e2, e3⟩ := box_keep hlt c0 c1 c2 c3 hB
  clear b1
  go_wp2_with fail
  refine (live16 _).mono ?_
  rintro e w3 ⟨rfl, b1⟩
  have hB := hB.trans (b1.mono hB.size)
  clear e0 e1 e2 e3
  obtain ⟨e0, e1, e2, e3⟩ := box_keep hlt c0 c1 c2 c3 hB
  clear b1
  go_wp2_with fail
  go_ret
  exact ⟨rfl, hW.trans (hB.mono hW.size)⟩
theorem big (k n m d : Int) (W : World) (wn : -9223372036854775808 ≤ n ∧ n ≤ 9223372036854775807) (wm : m ≤ 9223372036854775807) (h : rightb k n m d = true) (hs : smallb k n m d = false) :
    Calls Try.prog 3 #[.agg #[.int .i64 k, .int .i64 n, .int .i64 m, .int .i64 d]] W fun e W' => e = .returned (.bool true) ∧ Below W.heap.size W W' := by
  have RR := fun w => r15_right k n m d w wn wm
  rw [h] at RR
  have RR := Lib.hid RR
  have RS := fun w => r16_small k n m d w wn wm
  rw [hs] at RS
  have RS := Lib.hid RS
  obtain ⟨w0, hw0, c0, c1, c2, c3, hW, hlt⟩ := box4 W k n m d 23
  go_enter Try.func3, Try.ntmps3
  go_wp2_with fail
  rw [← hw0]
  clear hw0
  refine (RR.out _).mono ?_
  rintro e w1 ⟨rfl, b1⟩
  have hB := b1
  obtain ⟨e0, e1, e2, e3⟩ := box_keep hlt c0 c1 c2 c3 hB
  clear b1
  go_wp2_with fail
  refine (RS.out _).mono ?_
  rintro e w2 ⟨rfl, b1⟩
  have hB := hB.trans (b1.mono hB.size)
  clear e0 e1 e2 e3
  obtain ⟨e0, e1, e2, e3⟩ := box_keep hlt c0 c1 c2 c3 hB
  clear b1
  go_wp2_with fail
  refine (live16 _).mono ?_
  rintro e w3 ⟨rfl, b1⟩
  have hB := hB.trans (b1.mono hB.size)
  clear e0 e1 e2 e3
  obtain ⟨e0, e1, e2, e3⟩ := box_keep hlt c0 c1 c2 c3 hB
  clear b1
  go_wp2_with fail
  go_ret
  exact ⟨rfl, hW.trans (hB.mono hW.size)⟩
theorem main (k n m d : Int) (W : World) (wn : -9223372036854775808 ≤ n ∧ n ≤ 9223372036854775807) (wm : m ≤ 9223372036854775807) (h : rightb k n m d = true) (hs : smallb k n m d = true) :
    Calls Try.prog 3 #[.agg #[.int .i64 k, .int .i64 n, .int .i64 m, .int .i64 d]] W fun e W' => e = .returned (.bool true) ∧ Below W.heap.size W W' := by
  have RR := fun w => r15_right k n m d w wn wm
  rw [h] at RR
  have RR := Lib.hid RR
  have RS := fun w => r16_small k n m d w wn wm
  rw [hs] at RS
  have RS := Lib.hid RS
  unfold smallb at hs
  rw [if_pos h, Bool.and_eq_true] at hs
  obtain ⟨N, rfl, hh, hd, h1, hm⟩ := nm_of h (of_decide_eq_true hs.2) (of_decide_eq_true hs.1)
  have hN : N ≤ 140 := by have := of_decide_eq_true hs.2; omega
  have TM := Lib.hid (fun w => table_make k m d N w h hh hd hm)
  have RM := Lib.hid (fun w => r16_make k m d N w hh hd hN hm)
  have NZ := Lib.hid (fun R ys (ht : TabOf k N m.toNat d R ys) => ht.nz hm hh hd h1 hN)
  clear hm hs
  obtain ⟨w0, hw0, c0, c1, c2, c3, hW, hlt⟩ := box4 W k N m d 23
  go_enter Try.func3, Try.ntmps3
  go_wp2_with fail
  rw [← hw0]
  clear hw0
  refine (RR.out _).mono ?_
  rintro e w1 ⟨rfl, b1⟩
  have hB := b1
  obtain ⟨e0, e1, e2, e3⟩ := box_keep hlt c0 c1 c2 c3 hB
  clear b1
  go_wp2_with fail
  refine (RS.out _).mono ?_
  rintro e w2 ⟨rfl, b1⟩
  have hB := hB.trans (b1.mono hB.size)
  clear e0 e1 e2 e3
  obtain ⟨e0, e1, e2, e3⟩ := box_keep hlt c0 c1 c2 c3 hB
  clear b1
  go_wp2_with fail
  refine (TM.out _).mono ?_
  rintro e w3 ⟨R, ys, ht, p, c, rfl, hr, b1⟩
  obtain ⟨z1, z2, z3⟩ := NZ.out R ys ht
  have HT := Lib.hid ht
  have HR := Lib.hid hr
  have hB := hB.trans (b1.mono hB.size)
  clear e0 e1 e2 e3
  obtain ⟨e0, e1, e2, e3⟩ := box_keep hlt c0 c1 c2 c3 hB
  clear b1 hr ht
  go_wp2_with fail
  refine (RM.out _).mono ?_
  rintro e w4 ⟨R', ys', ht', p', c', rfl, hr', b1⟩
  obtain ⟨rfl, rfl⟩ := TabOf.uniq HT.out ht'
  have HR := Lib.hid (HR.out.below b1)
  have HR2 := Lib.hid hr'
  have hB := hB.trans (b1.mono hB.size)
  clear e0 e1 e2 e3
  obtain ⟨e0, e1, e2, e3⟩ := box_keep hlt c0 c1 c2 c3 hB
  have TC := Lib.hid (fun w (h : Row w p R ys) => (show Calls Try.prog 12 #[.slice p R c] w (fun e w' => e = .returned (.bool false) ∧ w = w') from by have := table_clean p R c ys w h; rwa [z1] at this))
  clear b1 hr' ht' z1 HT NZ
  go_wp2_with fail
  refine (c_same HR.out HR2.out).mono ?_
  rintro e w5 ⟨rfl, b1⟩
  have HR := Lib.hid (HR.out.below b1)
  have hB := hB.trans (b1.mono hB.size)
  clear e0 e1 e2 e3
  obtain ⟨e0, e1, e2, e3⟩ := box_keep hlt c0 c1 c2 c3 hB
  clear b1
  go_wp2_with fail
  refine (TC.out _ HR.out).mono ?_
  rintro e w6 ⟨rfl, rfl⟩
  go_wp2_with fail
  refine (live16 _).mono ?_
  rintro e w7 ⟨rfl, b1⟩
  have hB := hB.trans (b1.mono hB.size)
  clear e0 e1 e2 e3
  obtain ⟨e0, e1, e2, e3⟩ := box_keep hlt c0 c1 c2 c3 hB
  clear b1
  go_wp2_with fail
  go_ret
  exact ⟨rfl, hW.trans (hB.mono hW.size)⟩
theorem walk (W : World) (a0_0 : Int) (w0_0 : -9223372036854775808 ≤ a0_0 ∧ a0_0 ≤ 9223372036854775807) (a0_1 : Int) (w0_1 : -9223372036854775808 ≤ a0_1 ∧ a0_1 ≤ 9223372036854775807) (a0_2 : Int) (w0_2 : -9223372036854775808 ≤ a0_2 ∧ a0_2 ≤ 9223372036854775807) (a0_3 : Int) (w0_3 : -9223372036854775808 ≤ a0_3 ∧ a0_3 ≤ 9223372036854775807) :
    Calls Try.prog 3 #[.agg #[.int .i64 a0_0, .int .i64 a0_1, .int .i64 a0_2, .int .i64 a0_3]] W fun e W' => e = .returned (.bool true) ∧ Below W.heap.size W W' := by
  cases h : rightb a0_0 a0_1 a0_2 a0_3 with
  | false => exact nor _ _ _ _ W w0_1 w0_2.2 h
  | true =>
    cases hs : smallb a0_0 a0_1 a0_2 a0_3 with
    | false => exact big _ _ _ _ W w0_1 w0_2.2 h hs
    | true => exact main _ _ _ _ W w0_1 w0_2.2 h hs
end tableMakes
end Go.Proofs.Ytcfmiflhhjoofaa
