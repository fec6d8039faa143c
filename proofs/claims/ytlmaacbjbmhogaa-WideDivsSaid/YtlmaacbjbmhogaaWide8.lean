/- Reference 1's Left. -/
import Derived.Test.YtlmaacbjbmhogaaWide7
namespace Go.Proofs.Ytlmaacbjbmhogaa
open Go.ChangeShapes Go.WideShapes Go.ChangeAt Go.RowKit
set_option linter.unusedVariables false
theorem left_start (w : World) (A : Nat) : ∃ w2 : World, w2 = (w.alloc (.cells (D A) 27)).alloc (.cells #[.int .i64 0, .int .i64 0, .int .i64 0, .int .i64 0, .int .i64 0, .int .i64 0, .int .i64 0, .int .i64 0] 27) ∧ Box w2 w.heap.size A ∧ Box w2 (w.heap.size + 1) 0 ∧ Below w.heap.size w w2 ∧ w2.heap.size = w.heap.size + 2 := by
  have s1 : (w.alloc (.cells (D A) 27)).heap.size = w.heap.size + 1 := by simp
  have hA : Box (w.alloc (.cells (D A) 27)) w.heap.size A := heap_alloc_new _ _
  have h1 := Box.new (w.alloc (.cells (D A) 27))
  rw [s1] at h1
  exact ⟨_, rfl, hA.alloc _, h1, ((Below.refl _ _).alloc (Nat.le_refl _) _).alloc (by simp) _, by simp⟩
set_option maxRecDepth 100000 in
set_option maxHeartbeats 8000000 in
theorem r1_left_pos (A M : Nat) (n : Int) (w : World) (hn : n = (M : Int) ∧ M ≤ 128 ∨ 128 < n ∧ M = 128) :
    Calls Try.prog 21 #[.agg (D A), .int .i64 n] w fun e w' => e = .returned (.agg (D (A * 2 ^ M))) ∧ Below w.heap.size w w' := by
  have D0 := Lib.hid (show A * 2 ^ (M - M) = A by rw [Nat.sub_self, Nat.pow_zero, Nat.mul_one])
  obtain ⟨w2, hw2, hA, h4, hBel, hsz⟩ := left_start w A
  have HA := Lib.hid hA
  have H4 := Lib.hid h4
  have HB := Lib.hid hBel
  clear hA h4 hBel
  rcases hn with ⟨rfl, hM⟩ | ⟨hn, rfl⟩
  · have c1 : decide ((128 : Int) < (M : Int)) = false := decide_eq_false (by omega)
    have c2 : decide ((M : Int) < -128) = false := decide_eq_false (by omega)
    go_enter Try.func21, Try.ntmps21
    go_wp2_with fail
    rw [← hw2]
    clear hw2
    go_loopw [1] (fun x wr => ∃ m d : Nat, m ≤ M ∧ x = .int .i64 m ∧ Hid (A * 2 ^ (M - m) = d) ∧ Hid (Box wr w.heap.size d) ∧ Hid (Box wr (w.heap.size + 1) 0) ∧ Hid (Below w.heap.size w wr)) (fun x _ => (intOf x).toNat)
    case atStart => exact ⟨M, A, Nat.le_refl _, rfl, D0, HA, H4, HB⟩
    case round =>
      clear HA H4 HB D0
      obtain ⟨m, d, hm, rfl, HD, HA, H4, HB⟩ := hrel
      have hbs := HB.out.size
      cases m with
      | zero =>
        have d1 : decide ((0 : Int) < ((0 : Nat) : Int)) = false := decide_eq_false (by omega)
        have E := Lib.hid (show d = A * 2 ^ M by rw [← HD.out, Nat.sub_zero])
        clear HD
        generalize wr = wo at *
        go_wp2_with fail
        go_loopw [1] (fun x wr => x = .int .i64 0 ∧ wo = wr) (fun _ _ => 0)
        case atStart => exact ⟨rfl, rfl⟩
        case round =>
          obtain ⟨rfl, rfl⟩ := hrel
          have d2 : decide ((0 : Int) < 0) = false := rfl
          have s9 := H4.out.st d
          have HF := Lib.hid (H4.out.set d)
          have HW := below_setRow HB.out (show w.heap.size ≤ w.heap.size + 1 by omega) (D d)
          go_wp2_with (refine wpList_load_row rfl 27 _ rfl (w.heap.size) rfl 27 (D (d)) (0, 0) _ HA.out Try.underlying27 rfl (by kernel_rfl) ?_)
          refine bodyPost_ret (results_cell_row (p := 4) (ty := 27) rfl _ _ _ 27 (D d) (0, 0) _ rfl HF.out Try.underlying27 rfl (by kernel_rfl)) rfl ⟨by rw [E.out], HW⟩
      | succ i =>
        have d1 : decide ((0 : Int) < ((i + 1 : Nat) : Int)) = true := decide_eq_true (by omega)
        have wi : IntKind.i64.wrap (((i + 1 : Nat) : Int) - 1) = (i : Int) := by rw [show ((i + 1 : Nat) : Int) - 1 = (i : Int) by omega]; exact IntWalk.i64_in _ (by omega)
        have E := Lib.hid (show A * 2 ^ (M - i) = d + d by rw [← HD.out, show M - i = M - (i + 1) + 1 by omega, Nat.pow_succ, ← Nat.mul_assoc, Nat.mul_two])
        clear HD
        go_wp2_with (refine wpList_load_row rfl 27 _ rfl (w.heap.size) rfl 27 (D (d)) (0, 0) _ HA.out Try.underlying27 rfl (by kernel_rfl) ?_)
        refine (r1_add d d _).mono ?_
        rintro e' w3 ⟨rfl, b3⟩
        have HA := Lib.hid (HA.out.kept b3)
        have H4 := Lib.hid (H4.out.kept b3)
        have HB := Lib.hid (HB.out.trans (b3.mono hbs))
        have s1 := HA.out.st (d + d)
        have HA := Lib.hid (HA.out.set (d + d))
        have H4 := Lib.hid (H4.out.other (show w.heap.size + 1 ≠ w.heap.size by omega) (D (d + d)))
        have HB := Lib.hid (below_setRow HB.out (Nat.le_refl _) (D (d + d)))
        clear b3
        go_wp2_with fail
        go_roundw
        case rel => exact ⟨i, d + d, by omega, by go_num, E, HA, H4, HB⟩
        case measure => (first | (simp [intOf]; done) | (simp [intOf]; omega) | (simp only [intOf]; omega))
  · have c1 : decide ((128 : Int) < n) = true := decide_eq_true hn
    go_enter Try.func21, Try.ntmps21
    go_wp2_with fail
    rw [← hw2]
    clear hw2
    go_loopw [1] (fun x wr => ∃ m d : Nat, m ≤ 128 ∧ x = .int .i64 m ∧ Hid (A * 2 ^ (128 - m) = d) ∧ Hid (Box wr w.heap.size d) ∧ Hid (Box wr (w.heap.size + 1) 0) ∧ Hid (Below w.heap.size w wr)) (fun x _ => (intOf x).toNat)
    case atStart => exact ⟨128, A, Nat.le_refl _, rfl, D0, HA, H4, HB⟩
    case round =>
      clear HA H4 HB D0
      obtain ⟨m, d, hm, rfl, HD, HA, H4, HB⟩ := hrel
      have hbs := HB.out.size
      cases m with
      | zero =>
        have d1 : decide ((0 : Int) < ((0 : Nat) : Int)) = false := decide_eq_false (by omega)
        have E := Lib.hid (show d = A * 2 ^ 128 by rw [← HD.out, Nat.sub_zero])
        clear HD
        generalize wr = wo at *
        go_wp2_with fail
        go_loopw [1] (fun x wr => x = .int .i64 0 ∧ wo = wr) (fun _ _ => 0)
        case atStart => exact ⟨rfl, rfl⟩
        case round =>
          obtain ⟨rfl, rfl⟩ := hrel
          have d2 : decide ((0 : Int) < 0) = false := rfl
          have s9 := H4.out.st d
          have HF := Lib.hid (H4.out.set d)
          have HW := below_setRow HB.out (show w.heap.size ≤ w.heap.size + 1 by omega) (D d)
          go_wp2_with (refine wpList_load_row rfl 27 _ rfl (w.heap.size) rfl 27 (D (d)) (0, 0) _ HA.out Try.underlying27 rfl (by kernel_rfl) ?_)
          refine bodyPost_ret (results_cell_row (p := 4) (ty := 27) rfl _ _ _ 27 (D d) (0, 0) _ rfl HF.out Try.underlying27 rfl (by kernel_rfl)) rfl ⟨by rw [E.out], HW⟩
      | succ i =>
        have d1 : decide ((0 : Int) < ((i + 1 : Nat) : Int)) = true := decide_eq_true (by omega)
        have wi : IntKind.i64.wrap (((i + 1 : Nat) : Int) - 1) = (i : Int) := by rw [show ((i + 1 : Nat) : Int) - 1 = (i : Int) by omega]; exact IntWalk.i64_in _ (by omega)
        have E := Lib.hid (show A * 2 ^ (128 - i) = d + d by rw [← HD.out, show 128 - i = 128 - (i + 1) + 1 by omega, Nat.pow_succ, ← Nat.mul_assoc, Nat.mul_two])
        clear HD
        go_wp2_with (refine wpList_load_row rfl 27 _ rfl (w.heap.size) rfl 27 (D (d)) (0, 0) _ HA.out Try.underlying27 rfl (by kernel_rfl) ?_)
        refine (r1_add d d _).mono ?_
        rintro e' w3 ⟨rfl, b3⟩
        have HA := Lib.hid (HA.out.kept b3)
        have H4 := Lib.hid (H4.out.kept b3)
        have HB := Lib.hid (HB.out.trans (b3.mono hbs))
        have s1 := HA.out.st (d + d)
        have HA := Lib.hid (HA.out.set (d + d))
        have H4 := Lib.hid (H4.out.other (show w.heap.size + 1 ≠ w.heap.size by omega) (D (d + d)))
        have HB := Lib.hid (below_setRow HB.out (Nat.le_refl _) (D (d + d)))
        clear b3
        go_wp2_with fail
        go_roundw
        case rel => exact ⟨i, d + d, by omega, by go_num, E, HA, H4, HB⟩
        case measure => (first | (simp [intOf]; done) | (simp [intOf]; omega) | (simp only [intOf]; omega))

set_option maxRecDepth 100000 in
set_option maxHeartbeats 8000000 in
theorem r1_left_neg (A M : Nat) (n : Int) (w : World) (hA8 : A < 65536 ^ 8) (hn : n = -(M : Int) ∧ 0 < M ∧ M ≤ 128 ∨ n < -128 ∧ M = 128) :
    Calls Try.prog 21 #[.agg (D A), .int .i64 n] w fun e w' => e = .returned (.agg (D (A / 2 ^ M))) ∧ Below w.heap.size w w' := by
  have D0 := Lib.hid (show A / 2 ^ (M - M) = A by rw [Nat.sub_self, Nat.pow_zero, Nat.div_one])
  have hA8 := Lib.hid hA8
  obtain ⟨w2, hw2, hA, h4, hBel, hsz⟩ := left_start w A
  have HA := Lib.hid hA
  have H4 := Lib.hid h4
  have HB := Lib.hid hBel
  clear hA h4 hBel
  rcases hn with ⟨rfl, hM0, hM⟩ | ⟨hn, rfl⟩
  · have c1 : decide ((128 : Int) < -(M : Int)) = false := decide_eq_false (by omega)
    have c2 : decide (-(M : Int) < -128) = false := decide_eq_false (by omega)
    go_enter Try.func21, Try.ntmps21
    go_wp2_with fail
    rw [← hw2]
    clear hw2
    go_loopw [1] (fun x wr => x = .int .i64 (-(M : Int)) ∧ w2 = wr) (fun _ _ => 0)
    case atStart => exact ⟨rfl, rfl⟩
    case round =>
      obtain ⟨rfl, rfl⟩ := hrel
      have d1 : decide ((0 : Int) < -(M : Int)) = false := decide_eq_false (by omega)
      go_wp2_with fail
      go_loopw [1] (fun x wr => ∃ m d : Nat, m ≤ M ∧ x = .int .i64 (-(m : Int)) ∧ Hid (A / 2 ^ (M - m) = d) ∧ Hid (Box wr w.heap.size d) ∧ Hid (Box wr (w.heap.size + 1) 0) ∧ Hid (Below w.heap.size w wr)) (fun x _ => (- intOf x).toNat)
      case atStart => exact ⟨M, A, Nat.le_refl _, rfl, D0, HA, H4, HB⟩
      case round =>
        clear HA H4 HB D0
        obtain ⟨m, d, hm, rfl, HD, HA, H4, HB⟩ := hrel
        have hbs := HB.out.size
        cases m with
        | zero =>
          have d2 : decide (-((0 : Nat) : Int) < 0) = false := rfl
          have E := Lib.hid (show d = A / 2 ^ M by rw [← HD.out, Nat.sub_zero])
          clear HD
          have s9 := H4.out.st d
          have HF := Lib.hid (H4.out.set d)
          have HW := below_setRow HB.out (show w.heap.size ≤ w.heap.size + 1 by omega) (D d)
          go_wp2_with (refine wpList_load_row rfl 27 _ rfl (w.heap.size) rfl 27 (D (d)) (0, 0) _ HA.out Try.underlying27 rfl (by kernel_rfl) ?_)
          refine bodyPost_ret (results_cell_row (p := 4) (ty := 27) rfl _ _ _ 27 (D d) (0, 0) _ rfl HF.out Try.underlying27 rfl (by kernel_rfl)) rfl ⟨by rw [E.out], HW⟩
        | succ i =>
          have d2 : decide (-((i + 1 : Nat) : Int) < 0) = true := decide_eq_true (by omega)
          have wi : IntKind.i64.wrap (-((i + 1 : Nat) : Int) + 1) = -(i : Int) := by rw [show -((i + 1 : Nat) : Int) + 1 = -(i : Int) by omega]; exact IntWalk.i64_in _ (by omega)
          have hd8 := Lib.hid (show d < 65536 ^ 8 by rw [← HD.out]; exact Nat.lt_of_le_of_lt (Nat.div_le_self _ _) hA8.out)
          have DV := Lib.hid (fun w => r1_div d 2 w hd8.out (by omega) (by omega))
          have E := Lib.hid (show A / 2 ^ (M - i) = d / 2 by rw [← HD.out, show M - i = M - (i + 1) + 1 by omega, Nat.pow_succ, Nat.div_div_eq_div_mul])
          clear HD hd8
          generalize d / 2 = d' at *
          generalize d % 2 = r' at *
          go_wp2_with (refine wpList_load_row rfl 27 _ rfl (w.heap.size) rfl 27 (D (d)) (0, 0) _ HA.out Try.underlying27 rfl (by kernel_rfl) ?_)
          refine (DV.out _).mono ?_
          rintro e' w3 ⟨rfl, b3⟩
          have HA := Lib.hid (HA.out.kept b3)
          have H4 := Lib.hid (H4.out.kept b3)
          have HB := Lib.hid (HB.out.trans (b3.mono hbs))
          have s1 := HA.out.st d'
          have HA := Lib.hid (HA.out.set d')
          have H4 := Lib.hid (H4.out.other (show w.heap.size + 1 ≠ w.heap.size by omega) (D d'))
          have HB := Lib.hid (below_setRow HB.out (Nat.le_refl _) (D d'))
          clear b3
          go_wp2_with fail
          go_roundw
          case rel => exact ⟨i, d', by omega, by go_num, E, HA, H4, HB⟩
          case measure => (first | (simp [intOf]; done) | (simp [intOf]; omega) | (simp only [intOf]; omega))
  · have c1 : decide ((128 : Int) < n) = false := decide_eq_false (by omega)
    have c2 : decide (n < -128) = true := decide_eq_true hn
    go_enter Try.func21, Try.ntmps21
    go_wp2_with fail
    rw [← hw2]
    clear hw2
    go_loopw [1] (fun x wr => x = .int .i64 (-128) ∧ w2 = wr) (fun _ _ => 0)
    case atStart => exact ⟨rfl, rfl⟩
    case round =>
      obtain ⟨rfl, rfl⟩ := hrel
      have d1 : decide ((0 : Int) < -128) = false := decide_eq_false (by omega)
      go_wp2_with fail
      go_loopw [1] (fun x wr => ∃ m d : Nat, m ≤ 128 ∧ x = .int .i64 (-(m : Int)) ∧ Hid (A / 2 ^ (128 - m) = d) ∧ Hid (Box wr w.heap.size d) ∧ Hid (Box wr (w.heap.size + 1) 0) ∧ Hid (Below w.heap.size w wr)) (fun x _ => (- intOf x).toNat)
      case atStart => exact ⟨128, A, Nat.le_refl _, rfl, D0, HA, H4, HB⟩
      case round =>
        clear HA H4 HB D0
        obtain ⟨m, d, hm, rfl, HD, HA, H4, HB⟩ := hrel
        have hbs := HB.out.size
        cases m with
        | zero =>
          have d2 : decide (-((0 : Nat) : Int) < 0) = false := rfl
          have E := Lib.hid (show d = A / 2 ^ 128 by rw [← HD.out, Nat.sub_zero])
          clear HD
          have s9 := H4.out.st d
          have HF := Lib.hid (H4.out.set d)
          have HW := below_setRow HB.out (show w.heap.size ≤ w.heap.size + 1 by omega) (D d)
          go_wp2_with (refine wpList_load_row rfl 27 _ rfl (w.heap.size) rfl 27 (D (d)) (0, 0) _ HA.out Try.underlying27 rfl (by kernel_rfl) ?_)
          refine bodyPost_ret (results_cell_row (p := 4) (ty := 27) rfl _ _ _ 27 (D d) (0, 0) _ rfl HF.out Try.underlying27 rfl (by kernel_rfl)) rfl ⟨by rw [E.out], HW⟩
        | succ i =>
          have d2 : decide (-((i + 1 : Nat) : Int) < 0) = true := decide_eq_true (by omega)
          have wi : IntKind.i64.wrap (-((i + 1 : Nat) : Int) + 1) = -(i : Int) := by rw [show -((i + 1 : Nat) : Int) + 1 = -(i : Int) by omega]; exact IntWalk.i64_in _ (by omega)
          have hd8 := Lib.hid (show d < 65536 ^ 8 by rw [← HD.out]; exact Nat.lt_of_le_of_lt (Nat.div_le_self _ _) hA8.out)
          have DV := Lib.hid (fun w => r1_div d 2 w hd8.out (by omega) (by omega))
          have E := Lib.hid (show A / 2 ^ (128 - i) = d / 2 by rw [← HD.out, show 128 - i = 128 - (i + 1) + 1 by omega, Nat.pow_succ, Nat.div_div_eq_div_mul])
          clear HD hd8
          generalize d / 2 = d' at *
          generalize d % 2 = r' at *
          go_wp2_with (refine wpList_load_row rfl 27 _ rfl (w.heap.size) rfl 27 (D (d)) (0, 0) _ HA.out Try.underlying27 rfl (by kernel_rfl) ?_)
          refine (DV.out _).mono ?_
          rintro e' w3 ⟨rfl, b3⟩
          have HA := Lib.hid (HA.out.kept b3)
          have H4 := Lib.hid (H4.out.kept b3)
          have HB := Lib.hid (HB.out.trans (b3.mono hbs))
          have s1 := HA.out.st d'
          have HA := Lib.hid (HA.out.set d')
          have H4 := Lib.hid (H4.out.other (show w.heap.size + 1 ≠ w.heap.size by omega) (D d'))
          have HB := Lib.hid (below_setRow HB.out (Nat.le_refl _) (D d'))
          clear b3
          go_wp2_with fail
          go_roundw
          case rel => exact ⟨i, d', by omega, by go_num, E, HA, H4, HB⟩
          case measure => (first | (simp [intOf]; done) | (simp [intOf]; omega) | (simp only [intOf]; omega))

end Go.Proofs.Ytlmaacbjbmhogaa
