/- load: of. By program (genlfo.py). -/
import Derived.Test.YtfilbdmenlhoiaaLwt
import Derived.Test.YtfilbdmenlhoiaaLsm
namespace Go.Proofs.Ytfilbdmenlhoiaa
open Go.ChangeShapes Go.WideShapes Go.ChangeAt Go.RowKit
set_option linter.unusedVariables false
set_option linter.unusedSimpArgs false
def oneN (x : Oi) : Ld := if x.t = -1 then ⟨1, 0, 0, 0⟩ else ⟨1, if x.e = 0 then 0 else 1, 1, lastN x⟩
set_option maxRecDepth 100000 in
set_option maxHeartbeats 8000000 in
theorem l_of (cs : Array Value) (x : Oi) (h : OpV cs x.who x.kind x.e x.f x.t) (W : World) :
    Calls Try.prog 19 #[.agg cs] W fun e w' => e = .returned (.agg #[.int .i64 (oneN x).c, .int .i64 (oneN x).e, .int .i64 (oneN x).d, .int .i64 (oneN x).g]) ∧ Below W.heap.size W w' := by
  have HV := Lib.hid h
  have CF := Lib.hid (l_failed cs _ _ _ _ _ h)
  have CE := Lib.hid (l_ended cs _ _ _ _ _ h)
  have CW := Lib.hid (l_wait cs x h)
  obtain ⟨R, hR⟩ : ∃ R, W.heap.size = R := ⟨_, rfl⟩
  obtain ⟨wb, hwb⟩ : ∃ wb, (W.alloc (.cells cs 51)).alloc (.cells #[.int .i64 0, .int .i64 0, .int .i64 0, .int .i64 0] 25) = wb := ⟨_, rfl⟩
  have hbz : wb.heap.size = R + 1 + 1 := by rw [← hwb, ← hR]; simp
  have hb0 : Below R W wb := by rw [← hwb]; exact ((Below.refl _ _).alloc (by omega) _).alloc (by simp; omega) _
  have hb1 : wb.heap[R]? = some (.cells cs 51 (0, 0)) := by
    rw [← hwb, ← hR]
    exact (((Below.refl _ _).alloc (Nat.le_refl _) _ : Below (W.alloc (.cells cs 51)).heap.size (W.alloc (.cells cs 51)) _).block _ (by simp)).trans (heap_alloc_new W _)
  have hb2 : LdB wb (R + 1) ⟨0, 0, 0, 0⟩ := by
    have := heap_alloc_new (W.alloc (.cells cs 51)) (.cells #[.int .i64 0, .int .i64 0, .int .i64 0, .int .i64 0] 25)
    rw [hwb, World.size_alloc, hR] at this
    exact this
  obtain ⟨w1, hw1⟩ : ∃ w1, wb.alloc (.cells #[.int .i64 1, .int .i64 0, .int .i64 0, .int .i64 0] 25) = w1 := ⟨_, rfl⟩
  have hn := heap_alloc_new wb (.cells #[.int .i64 1, .int .i64 0, .int .i64 0, .int .i64 0] 25)
  have hbb : Below wb.heap.size wb w1 := by rw [← hw1]; exact (Below.refl _ _).alloc (Nat.le_refl _) _
  rw [hw1] at hn
  have HS1 := Lib.hid (show LdB w1 wb.heap.size ⟨1, 0, 0, 0⟩ from hn)
  have HO1 := Lib.hid ((hbb.block R (by omega)).trans hb1)
  have HZ1 := Lib.hid (show LdB w1 (R + 1) ⟨0, 0, 0, 0⟩ from (hbb.block (R + 1) (by omega)).trans hb2)
  have HB1 := Lib.hid (show Below R W w1 from hb0.trans (hbb.mono (by omega)))
  have ST := run_storeAt_new (P := Try.prog) wb 25 #[.int .i64 0, .int .i64 0, .int .i64 0, .int .i64 0] #[.int .i64 1, .int .i64 0, .int .i64 0, .int .i64 0] ld_size rfl (by simp [Value.oneCell'])
  rw [hw1] at ST
  have ST := Lib.hid ST
  have HWB := Lib.hid hwb
  have HBZ := Lib.hid hbz
  clear h hwb hbz hb0 hb1 hb2 hw1 hn hbb
  go_enter Try.func19, Try.ntmps19
  go_upto_region 1 with fail
  rw [HWB.out]
  have LD1 := Lib.hid (show w1.rangeAt R 0 cs.toList from fun j v hj => by rw [Nat.zero_add, cell_of_row _ _ _ _ _ _ HO1.out]; simpa using hj)
  obtain ⟨s0, s1, s2, s3, f0, f1, f2, f3⟩ := HS1.out.cells
  simp only at s0 s1 s2 s3
  by_cases ht : x.t = -1
  · have hf : decide (x.t ≠ -1 ∧ x.e ≠ 0) = false := by simp [ht]
    have hd : (x.t != -1) = false := by simp [ht]
    have HX := Lib.hid (show oneN x = ⟨1, 0, 0, 0⟩ by unfold oneN; rw [if_pos ht])
    clear ht
    go_wp2_with (first | refine wpl_op rfl _ rfl _ _ rfl HV.out.n LD1.out ?_ | refine wpl_newl rfl _ _ rfl rfl rfl ST.out ?_)
    refine (CF.out _).mono ?_
    rintro e w2 ⟨rfl, hb⟩
    have HS2 := Lib.hid (show LdB w2 wb.heap.size _ from (hb.block _ (g_lt HS1.out)).trans HS1.out)
    have HZ2 := Lib.hid (show LdB w2 (R + 1) _ from (hb.block _ (g_lt HZ1.out)).trans HZ1.out)
    have HO2 := Lib.hid ((hb.block R (g_lt HO1.out)).trans HO1.out)
    have HB2 := Lib.hid (HB1.out.trans (hb.mono (Nat.le_of_lt (g_lt HO1.out))))
    clear hb s0 s1 s2 s3 f0 f1 f2 f3
    have LD2 := Lib.hid (show w2.rangeAt R 0 cs.toList from fun j v hj => by rw [Nat.zero_add, cell_of_row _ _ _ _ _ _ HO2.out]; simpa using hj)
    obtain ⟨s0, s1, s2, s3, f0, f1, f2, f3⟩ := HS2.out.cells
    simp only at s0 s1 s2 s3
    go_wp2_with (first | refine wpl_op rfl _ rfl _ _ rfl HV.out.n LD2.out ?_ | refine wpl_newl rfl _ _ rfl rfl rfl ST.out ?_)
    refine (CE.out _).mono ?_
    rintro e w3 ⟨rfl, hw3⟩
    have hb : Below w2.heap.size w2 w3 := by rw [hw3]; exact (Below.refl _ _).alloc (Nat.le_refl _) _
    clear hw3
    have HS3 := Lib.hid (show LdB w3 wb.heap.size _ from (hb.block _ (g_lt HS2.out)).trans HS2.out)
    have HZ3 := Lib.hid (show LdB w3 (R + 1) _ from (hb.block _ (g_lt HZ2.out)).trans HZ2.out)
    have HO3 := Lib.hid ((hb.block R (g_lt HO2.out)).trans HO2.out)
    have HB3 := Lib.hid (HB2.out.trans (hb.mono (Nat.le_of_lt (g_lt HO2.out))))
    clear hb s0 s1 s2 s3 f0 f1 f2 f3
    have LD3 := Lib.hid (show w3.rangeAt R 0 cs.toList from fun j v hj => by rw [Nat.zero_add, cell_of_row _ _ _ _ _ _ HO3.out]; simpa using hj)
    obtain ⟨s0, s1, s2, s3, f0, f1, f2, f3⟩ := HS3.out.cells
    simp only at s0 s1 s2 s3
    obtain ⟨r0, r1, r2, r3, g0, g1, g2, g3⟩ := HZ3.out.cells
    have HR2 := Lib.hid (u4_at (x := ⟨1, 0, 0, 0⟩) HZ3.out)
    have HB9 := Lib.hid (HB3.out.trans (u4_below (w := w3) (b := R + 1) (⟨1, 0, 0, 0⟩) (Nat.le_succ R)))
    obtain ⟨w9, hw9⟩ : ∃ w, u4 w3 (R + 1) (⟨1, 0, 0, 0⟩) = w := ⟨_, rfl⟩
    rw [hw9] at HR2 HB9
    unfold u4 at hw9
    simp only at hw9
    have HW9 := Lib.hid hw9
    clear hw9
    go_wp2_with fail
    rw [HW9.out]
    refine bodyPost_ret (res_c1 (p := 2) (ty := 25) rfl _ _ (R + 1) 25 _ (0, 0) _ rfl HR2.out Try.underlying25 rfl ld_size) rfl ?_
    exact ⟨by rw [HX.out], by first | exact HB9.out | (rw [hR]; exact HB9.out)⟩
  · have hd : (x.t != -1) = true := by simp [ht]
    by_cases he : x.e = 0
    · have hf : decide (x.t ≠ -1 ∧ x.e ≠ 0) = false := by simp [he]
      have HX := Lib.hid (show oneN x = ⟨1, 0, 1, lastN x⟩ by unfold oneN; rw [if_neg ht, if_pos he])
      clear ht he
      go_wp2_with (first | refine wpl_op rfl _ rfl _ _ rfl HV.out.n LD1.out ?_ | refine wpl_newl rfl _ _ rfl rfl rfl ST.out ?_)
      refine (CF.out _).mono ?_
      rintro e w2 ⟨rfl, hb⟩
      have HS2 := Lib.hid (show LdB w2 wb.heap.size _ from (hb.block _ (g_lt HS1.out)).trans HS1.out)
      have HZ2 := Lib.hid (show LdB w2 (R + 1) _ from (hb.block _ (g_lt HZ1.out)).trans HZ1.out)
      have HO2 := Lib.hid ((hb.block R (g_lt HO1.out)).trans HO1.out)
      have HB2 := Lib.hid (HB1.out.trans (hb.mono (Nat.le_of_lt (g_lt HO1.out))))
      clear hb s0 s1 s2 s3 f0 f1 f2 f3
      have LD2 := Lib.hid (show w2.rangeAt R 0 cs.toList from fun j v hj => by rw [Nat.zero_add, cell_of_row _ _ _ _ _ _ HO2.out]; simpa using hj)
      obtain ⟨s0, s1, s2, s3, f0, f1, f2, f3⟩ := HS2.out.cells
      simp only at s0 s1 s2 s3
      go_wp2_with (first | refine wpl_op rfl _ rfl _ _ rfl HV.out.n LD2.out ?_ | refine wpl_newl rfl _ _ rfl rfl rfl ST.out ?_)
      refine (CE.out _).mono ?_
      rintro e w3 ⟨rfl, hw3⟩
      have hb : Below w2.heap.size w2 w3 := by rw [hw3]; exact (Below.refl _ _).alloc (Nat.le_refl _) _
      clear hw3
      have HS3 := Lib.hid (show LdB w3 wb.heap.size _ from (hb.block _ (g_lt HS2.out)).trans HS2.out)
      have HZ3 := Lib.hid (show LdB w3 (R + 1) _ from (hb.block _ (g_lt HZ2.out)).trans HZ2.out)
      have HO3 := Lib.hid ((hb.block R (g_lt HO2.out)).trans HO2.out)
      have HB3 := Lib.hid (HB2.out.trans (hb.mono (Nat.le_of_lt (g_lt HO2.out))))
      clear hb s0 s1 s2 s3 f0 f1 f2 f3
      have LD3 := Lib.hid (show w3.rangeAt R 0 cs.toList from fun j v hj => by rw [Nat.zero_add, cell_of_row _ _ _ _ _ _ HO3.out]; simpa using hj)
      obtain ⟨s0, s1, s2, s3, f0, f1, f2, f3⟩ := HS3.out.cells
      simp only at s0 s1 s2 s3
      go_wp2_with (first | refine wpl_op rfl _ rfl _ _ rfl HV.out.n LD3.out ?_ | refine wpl_newl rfl _ _ rfl rfl rfl ST.out ?_)
      refine (CW.out _).mono ?_
      rintro e w4 ⟨rfl, hb⟩
      have HS4 := Lib.hid (show LdB w4 wb.heap.size _ from (hb.block _ (g_lt HS3.out)).trans HS3.out)
      have HZ4 := Lib.hid (show LdB w4 (R + 1) _ from (hb.block _ (g_lt HZ3.out)).trans HZ3.out)
      have HO4 := Lib.hid ((hb.block R (g_lt HO3.out)).trans HO3.out)
      have HB4 := Lib.hid (HB3.out.trans (hb.mono (Nat.le_of_lt (g_lt HO3.out))))
      clear hb s0 s1 s2 s3 f0 f1 f2 f3
      have LD4 := Lib.hid (show w4.rangeAt R 0 cs.toList from fun j v hj => by rw [Nat.zero_add, cell_of_row _ _ _ _ _ _ HO4.out]; simpa using hj)
      obtain ⟨s0, s1, s2, s3, f0, f1, f2, f3⟩ := HS4.out.cells
      simp only at s0 s1 s2 s3
      go_upto_region 6 with fail
      obtain ⟨w5, hw5⟩ : ∃ w, w4.setCell ⟨wb.heap.size, 2, none⟩ (.int .i64 (1)) = w := ⟨_, rfl⟩
      have HS5 := Lib.hid (HS4.out.set2 (1))
      have HZ5 := Lib.hid (HZ4.out.other (g := wb.heap.size) (o := 2) (v := .int .i64 (1)) (by have := HBZ.out; omega))
      have HO5 := Lib.hid ((heap_setCell_other w4 ⟨wb.heap.size, 2, none⟩ R (.int .i64 (1)) (by have := HBZ.out; simp; omega)).trans HO4.out)
      have HB5 := Lib.hid (HB4.out.setCell (p := ⟨wb.heap.size, 2, none⟩) (show R ≤ wb.heap.size by have := HBZ.out; omega) (.int .i64 (1)))
      rw [hw5] at HS5 HZ5 HO5 HB5
      simp only at HS5
      rw [hw5]
      clear hw5 s0 s1 s2 s3 f0 f1 f2 f3
      have LD5 := Lib.hid (show w5.rangeAt R 0 cs.toList from fun j v hj => by rw [Nat.zero_add, cell_of_row _ _ _ _ _ _ HO5.out]; simpa using hj)
      obtain ⟨s0, s1, s2, s3, f0, f1, f2, f3⟩ := HS5.out.cells
      simp only at s0 s1 s2 s3
      obtain ⟨w6, hw6⟩ : ∃ w, w5.setCell ⟨wb.heap.size, 3, none⟩ (.int .i64 (lastN x)) = w := ⟨_, rfl⟩
      have HS6 := Lib.hid (HS5.out.set3 (lastN x))
      have HZ6 := Lib.hid (HZ5.out.other (g := wb.heap.size) (o := 3) (v := .int .i64 (lastN x)) (by have := HBZ.out; omega))
      have HO6 := Lib.hid ((heap_setCell_other w5 ⟨wb.heap.size, 3, none⟩ R (.int .i64 (lastN x)) (by have := HBZ.out; simp; omega)).trans HO5.out)
      have HB6 := Lib.hid (HB5.out.setCell (p := ⟨wb.heap.size, 3, none⟩) (show R ≤ wb.heap.size by have := HBZ.out; omega) (.int .i64 (lastN x)))
      rw [hw6] at HS6 HZ6 HO6 HB6
      simp only at HS6
      rw [hw6]
      clear hw6 s0 s1 s2 s3 f0 f1 f2 f3
      have LD6 := Lib.hid (show w6.rangeAt R 0 cs.toList from fun j v hj => by rw [Nat.zero_add, cell_of_row _ _ _ _ _ _ HO6.out]; simpa using hj)
      obtain ⟨s0, s1, s2, s3, f0, f1, f2, f3⟩ := HS6.out.cells
      simp only at s0 s1 s2 s3
      obtain ⟨r0, r1, r2, r3, g0, g1, g2, g3⟩ := HZ6.out.cells
      have HR2 := Lib.hid (u4_at (x := ⟨1, 0, 1, lastN x⟩) HZ6.out)
      have HB9 := Lib.hid (HB6.out.trans (u4_below (w := w6) (b := R + 1) (⟨1, 0, 1, lastN x⟩) (Nat.le_succ R)))
      obtain ⟨w9, hw9⟩ : ∃ w, u4 w6 (R + 1) (⟨1, 0, 1, lastN x⟩) = w := ⟨_, rfl⟩
      rw [hw9] at HR2 HB9
      unfold u4 at hw9
      simp only at hw9
      have HW9 := Lib.hid hw9
      clear hw9
      go_wp2_with fail
      rw [HW9.out]
      refine bodyPost_ret (res_c1 (p := 2) (ty := 25) rfl _ _ (R + 1) 25 _ (0, 0) _ rfl HR2.out Try.underlying25 rfl ld_size) rfl ?_
      exact ⟨by rw [HX.out], by first | exact HB9.out | (rw [hR]; exact HB9.out)⟩
    · have hf : decide (x.t ≠ -1 ∧ x.e ≠ 0) = true := by simp [ht, he]
      have HX := Lib.hid (show oneN x = ⟨1, 1, 1, lastN x⟩ by unfold oneN; rw [if_neg ht, if_neg he])
      clear ht he
      go_wp2_with (first | refine wpl_op rfl _ rfl _ _ rfl HV.out.n LD1.out ?_ | refine wpl_newl rfl _ _ rfl rfl rfl ST.out ?_)
      refine (CF.out _).mono ?_
      rintro e w2 ⟨rfl, hb⟩
      have HS2 := Lib.hid (show LdB w2 wb.heap.size _ from (hb.block _ (g_lt HS1.out)).trans HS1.out)
      have HZ2 := Lib.hid (show LdB w2 (R + 1) _ from (hb.block _ (g_lt HZ1.out)).trans HZ1.out)
      have HO2 := Lib.hid ((hb.block R (g_lt HO1.out)).trans HO1.out)
      have HB2 := Lib.hid (HB1.out.trans (hb.mono (Nat.le_of_lt (g_lt HO1.out))))
      clear hb s0 s1 s2 s3 f0 f1 f2 f3
      have LD2 := Lib.hid (show w2.rangeAt R 0 cs.toList from fun j v hj => by rw [Nat.zero_add, cell_of_row _ _ _ _ _ _ HO2.out]; simpa using hj)
      obtain ⟨s0, s1, s2, s3, f0, f1, f2, f3⟩ := HS2.out.cells
      simp only at s0 s1 s2 s3
      go_upto_region 4 with fail
      obtain ⟨w3, hw3⟩ : ∃ w, w2.setCell ⟨wb.heap.size, 1, none⟩ (.int .i64 (1)) = w := ⟨_, rfl⟩
      have HS3 := Lib.hid (HS2.out.set1 (1))
      have HZ3 := Lib.hid (HZ2.out.other (g := wb.heap.size) (o := 1) (v := .int .i64 (1)) (by have := HBZ.out; omega))
      have HO3 := Lib.hid ((heap_setCell_other w2 ⟨wb.heap.size, 1, none⟩ R (.int .i64 (1)) (by have := HBZ.out; simp; omega)).trans HO2.out)
      have HB3 := Lib.hid (HB2.out.setCell (p := ⟨wb.heap.size, 1, none⟩) (show R ≤ wb.heap.size by have := HBZ.out; omega) (.int .i64 (1)))
      rw [hw3] at HS3 HZ3 HO3 HB3
      simp only at HS3
      rw [hw3]
      clear hw3 s0 s1 s2 s3 f0 f1 f2 f3
      have LD3 := Lib.hid (show w3.rangeAt R 0 cs.toList from fun j v hj => by rw [Nat.zero_add, cell_of_row _ _ _ _ _ _ HO3.out]; simpa using hj)
      obtain ⟨s0, s1, s2, s3, f0, f1, f2, f3⟩ := HS3.out.cells
      simp only at s0 s1 s2 s3
      go_wp2_with (first | refine wpl_op rfl _ rfl _ _ rfl HV.out.n LD3.out ?_ | refine wpl_newl rfl _ _ rfl rfl rfl ST.out ?_)
      refine (CE.out _).mono ?_
      rintro e w4 ⟨rfl, hw4⟩
      have hb : Below w3.heap.size w3 w4 := by rw [hw4]; exact (Below.refl _ _).alloc (Nat.le_refl _) _
      clear hw4
      have HS4 := Lib.hid (show LdB w4 wb.heap.size _ from (hb.block _ (g_lt HS3.out)).trans HS3.out)
      have HZ4 := Lib.hid (show LdB w4 (R + 1) _ from (hb.block _ (g_lt HZ3.out)).trans HZ3.out)
      have HO4 := Lib.hid ((hb.block R (g_lt HO3.out)).trans HO3.out)
      have HB4 := Lib.hid (HB3.out.trans (hb.mono (Nat.le_of_lt (g_lt HO3.out))))
      clear hb s0 s1 s2 s3 f0 f1 f2 f3
      have LD4 := Lib.hid (show w4.rangeAt R 0 cs.toList from fun j v hj => by rw [Nat.zero_add, cell_of_row _ _ _ _ _ _ HO4.out]; simpa using hj)
      obtain ⟨s0, s1, s2, s3, f0, f1, f2, f3⟩ := HS4.out.cells
      simp only at s0 s1 s2 s3
      go_wp2_with (first | refine wpl_op rfl _ rfl _ _ rfl HV.out.n LD4.out ?_ | refine wpl_newl rfl _ _ rfl rfl rfl ST.out ?_)
      refine (CW.out _).mono ?_
      rintro e w5 ⟨rfl, hb⟩
      have HS5 := Lib.hid (show LdB w5 wb.heap.size _ from (hb.block _ (g_lt HS4.out)).trans HS4.out)
      have HZ5 := Lib.hid (show LdB w5 (R + 1) _ from (hb.block _ (g_lt HZ4.out)).trans HZ4.out)
      have HO5 := Lib.hid ((hb.block R (g_lt HO4.out)).trans HO4.out)
      have HB5 := Lib.hid (HB4.out.trans (hb.mono (Nat.le_of_lt (g_lt HO4.out))))
      clear hb s0 s1 s2 s3 f0 f1 f2 f3
      have LD5 := Lib.hid (show w5.rangeAt R 0 cs.toList from fun j v hj => by rw [Nat.zero_add, cell_of_row _ _ _ _ _ _ HO5.out]; simpa using hj)
      obtain ⟨s0, s1, s2, s3, f0, f1, f2, f3⟩ := HS5.out.cells
      simp only at s0 s1 s2 s3
      go_upto_region 6 with fail
      obtain ⟨w6, hw6⟩ : ∃ w, w5.setCell ⟨wb.heap.size, 2, none⟩ (.int .i64 (1)) = w := ⟨_, rfl⟩
      have HS6 := Lib.hid (HS5.out.set2 (1))
      have HZ6 := Lib.hid (HZ5.out.other (g := wb.heap.size) (o := 2) (v := .int .i64 (1)) (by have := HBZ.out; omega))
      have HO6 := Lib.hid ((heap_setCell_other w5 ⟨wb.heap.size, 2, none⟩ R (.int .i64 (1)) (by have := HBZ.out; simp; omega)).trans HO5.out)
      have HB6 := Lib.hid (HB5.out.setCell (p := ⟨wb.heap.size, 2, none⟩) (show R ≤ wb.heap.size by have := HBZ.out; omega) (.int .i64 (1)))
      rw [hw6] at HS6 HZ6 HO6 HB6
      simp only at HS6
      rw [hw6]
      clear hw6 s0 s1 s2 s3 f0 f1 f2 f3
      have LD6 := Lib.hid (show w6.rangeAt R 0 cs.toList from fun j v hj => by rw [Nat.zero_add, cell_of_row _ _ _ _ _ _ HO6.out]; simpa using hj)
      obtain ⟨s0, s1, s2, s3, f0, f1, f2, f3⟩ := HS6.out.cells
      simp only at s0 s1 s2 s3
      obtain ⟨w7, hw7⟩ : ∃ w, w6.setCell ⟨wb.heap.size, 3, none⟩ (.int .i64 (lastN x)) = w := ⟨_, rfl⟩
      have HS7 := Lib.hid (HS6.out.set3 (lastN x))
      have HZ7 := Lib.hid (HZ6.out.other (g := wb.heap.size) (o := 3) (v := .int .i64 (lastN x)) (by have := HBZ.out; omega))
      have HO7 := Lib.hid ((heap_setCell_other w6 ⟨wb.heap.size, 3, none⟩ R (.int .i64 (lastN x)) (by have := HBZ.out; simp; omega)).trans HO6.out)
      have HB7 := Lib.hid (HB6.out.setCell (p := ⟨wb.heap.size, 3, none⟩) (show R ≤ wb.heap.size by have := HBZ.out; omega) (.int .i64 (lastN x)))
      rw [hw7] at HS7 HZ7 HO7 HB7
      simp only at HS7
      rw [hw7]
      clear hw7 s0 s1 s2 s3 f0 f1 f2 f3
      have LD7 := Lib.hid (show w7.rangeAt R 0 cs.toList from fun j v hj => by rw [Nat.zero_add, cell_of_row _ _ _ _ _ _ HO7.out]; simpa using hj)
      obtain ⟨s0, s1, s2, s3, f0, f1, f2, f3⟩ := HS7.out.cells
      simp only at s0 s1 s2 s3
      obtain ⟨r0, r1, r2, r3, g0, g1, g2, g3⟩ := HZ7.out.cells
      have HR2 := Lib.hid (u4_at (x := ⟨1, 1, 1, lastN x⟩) HZ7.out)
      have HB9 := Lib.hid (HB7.out.trans (u4_below (w := w7) (b := R + 1) (⟨1, 1, 1, lastN x⟩) (Nat.le_succ R)))
      obtain ⟨w9, hw9⟩ : ∃ w, u4 w7 (R + 1) (⟨1, 1, 1, lastN x⟩) = w := ⟨_, rfl⟩
      rw [hw9] at HR2 HB9
      unfold u4 at hw9
      simp only at hw9
      have HW9 := Lib.hid hw9
      clear hw9
      go_wp2_with fail
      rw [HW9.out]
      refine bodyPost_ret (res_c1 (p := 2) (ty := 25) rfl _ _ (R + 1) 25 _ (0, 0) _ rfl HR2.out Try.underlying25 rfl ld_size) rfl ?_
      exact ⟨by rw [HX.out], by first | exact HB9.out | (rw [hR]; exact HB9.out)⟩
end Go.Proofs.Ytfilbdmenlhoiaa
