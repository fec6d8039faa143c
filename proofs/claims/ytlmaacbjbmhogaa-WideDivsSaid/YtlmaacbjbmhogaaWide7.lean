/- Reference 1's Div. -/
import Derived.Test.YtlmaacbjbmhogaaWide6
namespace Go.Proofs.Ytlmaacbjbmhogaa
open Go.ChangeShapes Go.WideShapes Go.ChangeAt Go.RowKit
set_option linter.unusedVariables false
/-- The blocks of a division: the number, the two results, quotient, rest, divisor, one. -/
structure Dv (w : World) (A P1 P2 Q R B O a q r b : Nat) : Prop where
  hA : Box w A a
  h1 : Box w P1 0
  h2 : Box w P2 0
  hQ : Box w Q q
  hR : Box w R r
  hB : Box w B b
  hO : Box w O 1
theorem Dv.kept {w w' : World} {A P1 P2 Q R B O a q r b : Nat} (h : Dv w A P1 P2 Q R B O a q r b) (hb : Below w.heap.size w w') : Dv w' A P1 P2 Q R B O a q r b :=
  ⟨h.hA.kept hb, h.h1.kept hb, h.h2.kept hb, h.hQ.kept hb, h.hR.kept hb, h.hB.kept hb, h.hO.kept hb⟩
theorem Dv.setQ {w : World} {X Y Z a q r b : Nat} (h : Dv w X (X + 1) (X + 1 + 1) (X + 1 + 1 + 1) (X + 1 + 1 + 1 + 1) Y Z a q r b) (hy : X + 5 ≤ Y) (hz : X + 5 ≤ Z) (n : Nat) : Dv (w.setRow (X + 1 + 1 + 1) (D n)) X (X + 1) (X + 1 + 1) (X + 1 + 1 + 1) (X + 1 + 1 + 1 + 1) Y Z a n r b :=
  ⟨h.hA.other (by omega) _, h.h1.other (by omega) _, h.h2.other (by omega) _, h.hQ.set n, h.hR.other (by omega) _, h.hB.other (by omega) _, h.hO.other (by omega) _⟩
theorem Dv.setR {w : World} {X Y Z a q r b : Nat} (h : Dv w X (X + 1) (X + 1 + 1) (X + 1 + 1 + 1) (X + 1 + 1 + 1 + 1) Y Z a q r b) (hy : X + 5 ≤ Y) (hz : X + 5 ≤ Z) (n : Nat) : Dv (w.setRow (X + 1 + 1 + 1 + 1) (D n)) X (X + 1) (X + 1 + 1) (X + 1 + 1 + 1) (X + 1 + 1 + 1 + 1) Y Z a q n b :=
  ⟨h.hA.other (by omega) _, h.h1.other (by omega) _, h.h2.other (by omega) _, h.hQ.other (by omega) _, h.hR.set n, h.hB.other (by omega) _, h.hO.other (by omega) _⟩
theorem Box.cells {w : World} {g n : Nat} (h : Box w g n) : w.cell? ⟨g, 0, none⟩ = some (.int .i64 (dg n 0)) ∧ w.cell? ⟨g, 1, none⟩ = some (.int .i64 (dg n 1)) ∧ w.cell? ⟨g, 2, none⟩ = some (.int .i64 (dg n 2)) ∧ w.cell? ⟨g, 3, none⟩ = some (.int .i64 (dg n 3)) ∧ w.cell? ⟨g, 4, none⟩ = some (.int .i64 (dg n 4)) ∧ w.cell? ⟨g, 5, none⟩ = some (.int .i64 (dg n 5)) ∧ w.cell? ⟨g, 6, none⟩ = some (.int .i64 (dg n 6)) ∧ w.cell? ⟨g, 7, none⟩ = some (.int .i64 (dg n 7)) :=
  ⟨dcell h 0 (by omega), dcell h 1 (by omega), dcell h 2 (by omega), dcell h 3 (by omega), dcell h 4 (by omega), dcell h 5 (by omega), dcell h 6 (by omega), dcell h 7 (by omega)⟩
theorem results_cell2 {P : Program} {fn : Func} {p p' : Tmp} {ty : TypeId} (h : fn.results = #[.cell p ty, .cell p' ty]) (tmps : Array Value) (w : World) (g g' : Nat) (t : TypeId) (cs cs' : Array Value) (fr : Nat × Nat) (d : TypeDesc)
    (hp : tmps.getD p undef = .pointer (some ⟨g, 0, none⟩)) (hp' : tmps.getD p' undef = .pointer (some ⟨g', 0, none⟩)) (hg : w.heap[g]? = some (.cells cs t fr)) (hg' : w.heap[g']? = some (.cells cs' t fr))
    (hu : P.underlying ty = some d) (hd : (match d with | .struct _ | .array _ _ => true | _ => false) = true) (hi : (P.info? ty).map (·.size) = some cs.size) (hi' : (P.info? ty).map (·.size) = some cs'.size) :
    (results fn tmps).run P w = .ok (.tuple #[.agg cs, .agg cs']) w := by
  have e : tmps[p]?.getD undef = .pointer (some ⟨g, 0, none⟩) := by simpa using hp
  have e' : tmps[p']?.getD undef = .pointer (some ⟨g', 0, none⟩) := by simpa using hp'
  simp [results, h, e, e', asAddr, run_loadVar_row w g t ty cs fr d hg hu hd hi, run_loadVar_row w g' t ty cs' fr d hg' hu hd hi']
theorem div_start (w : World) (a : Nat) : ∃ w5 : World, w5 = ((((w.alloc (.cells (D a) 27)).alloc (.cells #[.int .i64 0, .int .i64 0, .int .i64 0, .int .i64 0, .int .i64 0, .int .i64 0, .int .i64 0, .int .i64 0] 27)).alloc (.cells #[.int .i64 0, .int .i64 0, .int .i64 0, .int .i64 0, .int .i64 0, .int .i64 0, .int .i64 0, .int .i64 0] 27)).alloc (.cells #[.int .i64 0, .int .i64 0, .int .i64 0, .int .i64 0, .int .i64 0, .int .i64 0, .int .i64 0, .int .i64 0] 27)).alloc (.cells #[.int .i64 0, .int .i64 0, .int .i64 0, .int .i64 0, .int .i64 0, .int .i64 0, .int .i64 0, .int .i64 0] 27) ∧ Box w5 w.heap.size a ∧ Box w5 (w.heap.size + 1) 0 ∧ Box w5 (w.heap.size + 1 + 1) 0 ∧ Box w5 (w.heap.size + 1 + 1 + 1) 0 ∧ Box w5 (w.heap.size + 1 + 1 + 1 + 1) 0 ∧ Below w.heap.size w w5 ∧ w5.heap.size = w.heap.size + 5 := by
  have s1 : (w.alloc (.cells (D a) 27)).heap.size = w.heap.size + 1 := by simp
  have s2 : ((w.alloc (.cells (D a) 27)).alloc (.cells #[.int .i64 0, .int .i64 0, .int .i64 0, .int .i64 0, .int .i64 0, .int .i64 0, .int .i64 0, .int .i64 0] 27)).heap.size = w.heap.size + 1 + 1 := by simp
  have s3 : (((w.alloc (.cells (D a) 27)).alloc (.cells #[.int .i64 0, .int .i64 0, .int .i64 0, .int .i64 0, .int .i64 0, .int .i64 0, .int .i64 0, .int .i64 0] 27)).alloc (.cells #[.int .i64 0, .int .i64 0, .int .i64 0, .int .i64 0, .int .i64 0, .int .i64 0, .int .i64 0, .int .i64 0] 27)).heap.size = w.heap.size + 1 + 1 + 1 := by simp
  have s4 : ((((w.alloc (.cells (D a) 27)).alloc (.cells #[.int .i64 0, .int .i64 0, .int .i64 0, .int .i64 0, .int .i64 0, .int .i64 0, .int .i64 0, .int .i64 0] 27)).alloc (.cells #[.int .i64 0, .int .i64 0, .int .i64 0, .int .i64 0, .int .i64 0, .int .i64 0, .int .i64 0, .int .i64 0] 27)).alloc (.cells #[.int .i64 0, .int .i64 0, .int .i64 0, .int .i64 0, .int .i64 0, .int .i64 0, .int .i64 0, .int .i64 0] 27)).heap.size = w.heap.size + 1 + 1 + 1 + 1 := by simp
  have hA : Box (w.alloc (.cells (D a) 27)) w.heap.size a := heap_alloc_new _ _
  have h1 := Box.new (w.alloc (.cells (D a) 27))
  have h2 := Box.new ((w.alloc (.cells (D a) 27)).alloc (.cells #[.int .i64 0, .int .i64 0, .int .i64 0, .int .i64 0, .int .i64 0, .int .i64 0, .int .i64 0, .int .i64 0] 27))
  have h3 := Box.new (((w.alloc (.cells (D a) 27)).alloc (.cells #[.int .i64 0, .int .i64 0, .int .i64 0, .int .i64 0, .int .i64 0, .int .i64 0, .int .i64 0, .int .i64 0] 27)).alloc (.cells #[.int .i64 0, .int .i64 0, .int .i64 0, .int .i64 0, .int .i64 0, .int .i64 0, .int .i64 0, .int .i64 0] 27))
  have h4 := Box.new ((((w.alloc (.cells (D a) 27)).alloc (.cells #[.int .i64 0, .int .i64 0, .int .i64 0, .int .i64 0, .int .i64 0, .int .i64 0, .int .i64 0, .int .i64 0] 27)).alloc (.cells #[.int .i64 0, .int .i64 0, .int .i64 0, .int .i64 0, .int .i64 0, .int .i64 0, .int .i64 0, .int .i64 0] 27)).alloc (.cells #[.int .i64 0, .int .i64 0, .int .i64 0, .int .i64 0, .int .i64 0, .int .i64 0, .int .i64 0, .int .i64 0] 27))
  rw [s1] at h1; rw [s2] at h2; rw [s3] at h3; rw [s4] at h4
  exact ⟨_, rfl, (((hA.alloc _).alloc _).alloc _).alloc _, ((h1.alloc _).alloc _).alloc _, (h2.alloc _).alloc _, h3.alloc _, h4, (((((Below.refl _ _).alloc (Nat.le_refl _) _).alloc (by simp) _).alloc (by simp; omega) _).alloc (by simp; omega) _).alloc (by simp; omega) _, by simp⟩
theorem div_step (a b k : Nat) (hb : 0 < b) : a / 2 ^ k = 2 * (a / 2 ^ (k + 1)) + a / 2 ^ k % 2 := by
  rw [Nat.pow_succ, ← Nat.div_div_eq_div_mul]; omega
theorem div_more {t t' e b q r : Nat} (ht : t' = 2 * t + e) (hq : t / b = q) (hr : t % b = r) (hb : 0 < b) (h : b ≤ 2 * r + e) (he : e < 2) : t' / b = 2 * q + 1 ∧ t' % b = 2 * r + e - b := by
  have h1 := Nat.div_add_mod t b
  rw [hq, hr] at h1
  have h2 : r < b := by rw [← hr]; exact Nat.mod_lt _ hb
  have h5 : b * (2 * q + 1) = 2 * (b * q) + b := by rw [Nat.mul_add, Nat.mul_one, Nat.mul_left_comm]
  have h3 : t' = b * (2 * q + 1) + (2 * r + e - b) := by
    rw [h5]
    generalize b * q = bq at *
    omega
  rw [h3]
  constructor
  · rw [Nat.mul_add_div hb, Nat.div_eq_of_lt (by omega), Nat.add_zero]
  · rw [Nat.mul_add_mod, Nat.mod_eq_of_lt (by omega)]
theorem div_less {t t' e b q r : Nat} (ht : t' = 2 * t + e) (hq : t / b = q) (hr : t % b = r) (hb : 0 < b) (h : 2 * r + e < b) : t' / b = 2 * q ∧ t' % b = 2 * r + e := by
  have h1 := Nat.div_add_mod t b
  rw [hq, hr] at h1
  have h5 : b * (2 * q) = 2 * (b * q) := Nat.mul_left_comm _ _ _
  have h3 : t' = b * (2 * q) + (2 * r + e) := by
    rw [h5]
    generalize b * q = bq at *
    omega
  rw [h3]
  constructor
  · rw [Nat.mul_add_div hb, Nat.div_eq_of_lt h, Nat.add_zero]
  · rw [Nat.mul_add_mod, Nat.mod_eq_of_lt h]
set_option maxRecDepth 100000 in
set_option maxHeartbeats 8000000 in
theorem r1_div (a b : Nat) (w : World) (ha : a < 65536 ^ 8) (hb0 : 0 < b) (hb : b < 18446744073709551616) :
    Calls Try.prog 18 #[.agg (D a), .int .u64 b] w fun e w' => e = .returned (.tuple #[.agg (D (a / b)), .agg (D (a % b))]) ∧ Below w.heap.size w w' := by
  have eb : (0 * 18446744073709551616 + (b : Int)).toNat = b := by omega
  have e1 : (0 * 18446744073709551616 + (1 : Int)).toNat = 1 := by omega
  have CB := Lib.hid (fun w => r1_of 0 b w (by omega) (by omega) (by omega) (by omega))
  have C1 := Lib.hid (fun w => r1_of 0 1 w (by omega) (by omega) (by omega) (by omega))
  rw [eb] at CB
  rw [e1] at C1
  obtain ⟨w5, hw5, hA, h1, h2, hQ, hR, hBel, hsz⟩ := div_start w a
  clear eb e1
  go_enter Try.func18, Try.ntmps18
  go_wp2_with fail
  rw [← hw5]
  clear hw5
  generalize hX : w.heap.size = X at *
  refine (CB.out _).mono ?_
  rintro e w6 ⟨rfl, b6⟩
  have z6 := b6.size
  have hA := hA.kept b6
  have h1 := h1.kept b6
  have h2 := h2.kept b6
  have hQ := hQ.kept b6
  have hR := hR.kept b6
  have hBel := hBel.trans (b6.mono (by omega))
  have Y0 := Box.new w6
  have s8 := Y0.st b
  have bel8 := hBel.alloc (show X ≤ w6.heap.size by omega) (.cells #[.int .i64 0, .int .i64 0, .int .i64 0, .int .i64 0, .int .i64 0, .int .i64 0, .int .i64 0, .int .i64 0] 27)
  have HB := (Y0.set b)
  have hA := (hA.alloc (.cells #[.int .i64 0, .int .i64 0, .int .i64 0, .int .i64 0, .int .i64 0, .int .i64 0, .int .i64 0, .int .i64 0] 27)).other (show X ≠ w6.heap.size by omega) (D b)
  have h1 := (h1.alloc (.cells #[.int .i64 0, .int .i64 0, .int .i64 0, .int .i64 0, .int .i64 0, .int .i64 0, .int .i64 0, .int .i64 0] 27)).other (show X + 1 ≠ w6.heap.size by omega) (D b)
  have h2 := (h2.alloc (.cells #[.int .i64 0, .int .i64 0, .int .i64 0, .int .i64 0, .int .i64 0, .int .i64 0, .int .i64 0, .int .i64 0] 27)).other (show X + 1 + 1 ≠ w6.heap.size by omega) (D b)
  have hQ := (hQ.alloc (.cells #[.int .i64 0, .int .i64 0, .int .i64 0, .int .i64 0, .int .i64 0, .int .i64 0, .int .i64 0, .int .i64 0] 27)).other (show X + 1 + 1 + 1 ≠ w6.heap.size by omega) (D b)
  have hR := (hR.alloc (.cells #[.int .i64 0, .int .i64 0, .int .i64 0, .int .i64 0, .int .i64 0, .int .i64 0, .int .i64 0, .int .i64 0] 27)).other (show X + 1 + 1 + 1 + 1 ≠ w6.heap.size by omega) (D b)
  have hBel := below_setRow bel8 (show X ≤ w6.heap.size by omega) (D b)
  have z7 : ((w6.alloc (.cells #[.int .i64 0, .int .i64 0, .int .i64 0, .int .i64 0, .int .i64 0, .int .i64 0, .int .i64 0, .int .i64 0] 27)).setRow w6.heap.size (D b)).heap.size = w6.heap.size + 1 := by simp
  clear b6 bel8 Y0
  go_wp2_with fail
  clear s8
  generalize hY : w6.heap.size = Y at *
  generalize (w6.alloc (.cells #[.int .i64 0, .int .i64 0, .int .i64 0, .int .i64 0, .int .i64 0, .int .i64 0, .int .i64 0, .int .i64 0] 27)).setRow Y (D b) = w7 at *
  refine (C1.out _).mono ?_
  rintro e w8 ⟨rfl, b8⟩
  have z8 := b8.size
  have hA := hA.kept b8
  have h1 := h1.kept b8
  have h2 := h2.kept b8
  have hQ := hQ.kept b8
  have hR := hR.kept b8
  have HB := HB.kept b8
  have hBel := hBel.trans (b8.mono (by omega))
  have Z0 := Box.new w8
  have s9 := Z0.st 1
  have bel9 := hBel.alloc (show X ≤ w8.heap.size by omega) (.cells #[.int .i64 0, .int .i64 0, .int .i64 0, .int .i64 0, .int .i64 0, .int .i64 0, .int .i64 0, .int .i64 0] 27)
  have HO := (Z0.set 1)
  have hA := (hA.alloc (.cells #[.int .i64 0, .int .i64 0, .int .i64 0, .int .i64 0, .int .i64 0, .int .i64 0, .int .i64 0, .int .i64 0] 27)).other (show X ≠ w8.heap.size by omega) (D 1)
  have h1 := (h1.alloc (.cells #[.int .i64 0, .int .i64 0, .int .i64 0, .int .i64 0, .int .i64 0, .int .i64 0, .int .i64 0, .int .i64 0] 27)).other (show X + 1 ≠ w8.heap.size by omega) (D 1)
  have h2 := (h2.alloc (.cells #[.int .i64 0, .int .i64 0, .int .i64 0, .int .i64 0, .int .i64 0, .int .i64 0, .int .i64 0, .int .i64 0] 27)).other (show X + 1 + 1 ≠ w8.heap.size by omega) (D 1)
  have hQ := (hQ.alloc (.cells #[.int .i64 0, .int .i64 0, .int .i64 0, .int .i64 0, .int .i64 0, .int .i64 0, .int .i64 0, .int .i64 0] 27)).other (show X + 1 + 1 + 1 ≠ w8.heap.size by omega) (D 1)
  have hR := (hR.alloc (.cells #[.int .i64 0, .int .i64 0, .int .i64 0, .int .i64 0, .int .i64 0, .int .i64 0, .int .i64 0, .int .i64 0] 27)).other (show X + 1 + 1 + 1 + 1 ≠ w8.heap.size by omega) (D 1)
  have HB := (HB.alloc (.cells #[.int .i64 0, .int .i64 0, .int .i64 0, .int .i64 0, .int .i64 0, .int .i64 0, .int .i64 0, .int .i64 0] 27)).other (show Y ≠ w8.heap.size by omega) (D 1)
  have hBel := below_setRow bel9 (show X ≤ w8.heap.size by omega) (D 1)
  clear b8 bel9 Z0
  go_wp2_with fail
  clear s9
  generalize hZ : w8.heap.size = Z at *
  generalize (w8.alloc (.cells #[.int .i64 0, .int .i64 0, .int .i64 0, .int .i64 0, .int .i64 0, .int .i64 0, .int .i64 0, .int .i64 0] 27)).setRow Z (D 1) = w9 at *
  have hy : X + 5 ≤ Y := by omega
  have hz : X + 5 ≤ Z := by omega
  have HD := Lib.hid (show Dv w9 X (X + 1) (X + 1 + 1) (X + 1 + 1 + 1) (X + 1 + 1 + 1 + 1) Y Z a 0 0 b from ⟨hA, h1, h2, hQ, hR, HB, HO⟩)
  have HW := Lib.hid hBel
  clear hA h1 h2 hQ hR HB HO hBel CB C1 z6 z7 z8 hsz hY hZ
  have q0 : a / 2 ^ 128 = 0 := Nat.div_eq_of_lt (by rw [show (2 : Nat) ^ 128 = 65536 ^ 8 by decide]; exact ha)
  have Q0 := Lib.hid (show a / 2 ^ 128 / b = 0 by rw [q0, Nat.zero_div])
  have R0 := Lib.hid (show a / 2 ^ 128 % b = 0 by rw [q0, Nat.zero_mod])
  have ST := Lib.hid (fun k => div_step a b k hb0)
  have BH := Lib.hid (show b < 65536 ^ 8 by rw [p8]; omega)
  clear q0
  go_loopw [10] (fun x wr => ∃ j q r : Nat, j ≤ 128 ∧ x = .int .i64 ((j : Int) - 1) ∧ Hid (a / 2 ^ j / b = q) ∧ Hid (a / 2 ^ j % b = r) ∧ Hid (Dv wr X (X + 1) (X + 1 + 1) (X + 1 + 1 + 1) (X + 1 + 1 + 1 + 1) Y Z a q r b) ∧ Hid (Below X w wr)) (fun x _ => (intOf x + 1).toNat)
  case atStart => exact ⟨128, 0, 0, by omega, rfl, Q0, R0, HD, HW⟩
  case round =>
    clear Q0 R0 HD HW
    obtain ⟨j, q, r, hj, rfl, HQ, HR, HD, HW⟩ := hrel
    have hwz := HW.out.size
    cases j with
    | zero =>
      have E1 := Lib.hid (show q = a / b by rw [← HQ.out, Nat.pow_zero, Nat.div_one])
      have E2 := Lib.hid (show r = a % b by rw [← HR.out, Nat.pow_zero, Nat.div_one])
      have ex : (((0 : Nat) : Int) - 1) = -1 := by omega
      rw [ex]
      have d3 : decide ((0 : Int) ≤ -1) = false := decide_eq_false (by omega)
      clear HQ HR ST
      have hD0 := Lib.hid (show Dv wr.drew X (X + 1) (X + 1 + 1) (X + 1 + 1 + 1) (X + 1 + 1 + 1 + 1) Y Z a q r b from HD.out.kept ((Below.refl _ _).drew))
      have hW0 := Lib.hid HW.out.drew
      go_wp2_with fail
      refine wp_region_held_drew (S := fun w' => Box w' (X + 1 + 1 + 1) q ∧ Box w' (X + 1 + 1 + 1 + 1) r) (by kernel_rfl) ⟨hD0.out.hQ, hD0.out.hR⟩ (fun hHeld => ?_)
      refine wpAnyH_take (i := 0) (v := .agg (D q)) rfl (by kernel_rfl) (by kernel_rfl) (by kernel_rfl) (fun _ _ _ h => h) (Or.inl ⟨by kernel_rfl, ?hy0⟩) (by assumption) ?rest0
      case hy0 =>
        intro w' hSw
        obtain ⟨c0, c1, c2, c3, c4, c5, c6, c7⟩ := hSw.1.cells
        clear hSw
        go_simp
        rfl
      (try simp only [Act.put, List.getElem_toArray, List.getElem_cons_zero, List.getElem_cons_succ, List.setIfInBounds_toArray, List.set_cons_zero, List.set_cons_succ])
      refine wpAnyH_take (i := 1) (v := .agg (D r)) rfl (by kernel_rfl) (by kernel_rfl) (by kernel_rfl) (fun _ _ _ h => h) (Or.inl ⟨by kernel_rfl, ?hy1⟩) (by assumption) ?rest1
      case hy1 =>
        intro w' hSw
        obtain ⟨c0, c1, c2, c3, c4, c5, c6, c7⟩ := hSw.2.cells
        clear hSw
        go_simp
        rfl
      (try simp only [Act.put, List.getElem_toArray, List.getElem_cons_zero, List.getElem_cons_succ, List.setIfInBounds_toArray, List.set_cons_zero, List.set_cons_succ])
      have t1 : (storeCells ⟨X + 1, 0, none⟩ (D q).toList).run Try.prog wr.drew = .ok () (wr.drew.setRow (X + 1) (D q)) := hD0.out.h1.st q
      have t2 : (storeCells ⟨X + 1 + 1, 0, none⟩ (D r).toList).run Try.prog (wr.drew.setRow (X + 1) (D q)) = .ok () ((wr.drew.setRow (X + 1) (D q)).setRow (X + 1 + 1) (D r)) := (hD0.out.h2.other (by omega) _).st r
      have u1 := (hD0.out.hQ.other (show X + 1 + 1 + 1 ≠ X + 1 by omega) (D q))
      have u2 := (hD0.out.hR.other (show X + 1 + 1 + 1 + 1 ≠ X + 1 by omega) (D q))
      have U1 := Lib.hid (u1.other (show X + 1 + 1 + 1 ≠ X + 1 + 1 by omega) (D r))
      have U2 := Lib.hid (u2.other (show X + 1 + 1 + 1 + 1 ≠ X + 1 + 1 by omega) (D r))
      have V1 := Lib.hid ((hD0.out.h1.set q).other (show X + 1 ≠ X + 1 + 1 by omega) (D r))
      have V2 := Lib.hid ((hD0.out.h2.other (show X + 1 + 1 ≠ X + 1 by omega) (D q)).set r)
      have W2 := Lib.hid (below_setRow (below_setRow hW0.out (show X ≤ X + 1 by omega) (D q)) (show X ≤ X + 1 + 1 by omega) (D r))
      refine wpAnyH_ready (rs := [2]) (by kernel_rfl) (by simp) ?_
      refine AllReadyH.cons rfl (fun K hK => ?_) AllReadyH.nil
      go_simp
      refine hK.out _ _ ⟨u1, u2⟩ (fun hHeld2 => ?_)
      clear hK K hHeld t1
      (try simp only [Act.put, List.getElem_toArray, List.getElem_cons_zero, List.getElem_cons_succ, List.setIfInBounds_toArray, List.set_cons_zero, List.set_cons_succ])
      refine wpAnyH_ready (rs := [3]) (by kernel_rfl) (by simp) ?_
      refine AllReadyH.cons rfl (fun K hK => ?_) AllReadyH.nil
      go_simp
      refine hK.out _ _ ⟨U1.out, U2.out⟩ (fun hHeld3 => ?_)
      clear hK K hHeld2 t2 u1 u2 hHeld3
      (try simp only [Act.put, List.getElem_toArray, List.getElem_cons_zero, List.getElem_cons_succ, List.setIfInBounds_toArray, List.set_cons_zero, List.set_cons_succ])
      refine wpAnyH_done (by kernel_rfl) ?_ _
      clear HD HW hD0 hW0
      generalize (wr.drew.setRow (X + 1) (D q)).setRow (X + 1 + 1) (D r) = wz at *
      go_wp2_with fail
      refine bodyPost_ret (results_cell2 (p := 4) (p' := 5) (ty := 27) rfl _ _ _ _ 27 (D q) (D r) (0, 0) _ rfl rfl V1.out V2.out Try.underlying27 rfl (by kernel_rfl) (by kernel_rfl)) rfl ⟨by rw [E1.out, E2.out], by rw [hX]; exact W2.out⟩
    | succ i =>
      have ex : (((i + 1 : Nat) : Int) - 1) = (i : Int) := by omega
      rw [ex]
      have d3 : decide ((0 : Int) ≤ (i : Int)) = true := decide_eq_true (by omega)
      have BT := Lib.hid (fun w => r1_bit a i w (by omega))
      have hst := ST.out i
      have hr : r < b := by rw [← HR.out]; exact Nat.mod_lt _ hb0
      have BI := Lib.hid (show bitI a i = ((a / 2 ^ i % 2 : Nat) : Int) from rfl)
      have he : a / 2 ^ i % 2 < 2 := Nat.mod_lt _ (by omega)
      obtain ⟨e, hee⟩ : ∃ e, a / 2 ^ i % 2 = e := ⟨_, rfl⟩
      rw [hee] at BI he hst
      rw [BI.out] at BT
      have MO := Lib.hid (fun (h : b ≤ 2 * r + e) => div_more hst HQ.out HR.out hb0 h he)
      have LE := Lib.hid (fun (h : 2 * r + e < b) => div_less hst HQ.out HR.out hb0 h)
      clear hst BI hee HQ HR
      have hz1 := HD.out.hQ.lt
      go_wp2_with (refine wpList_load_row rfl 27 _ rfl (X + 1 + 1 + 1) rfl 27 (D (q)) (0, 0) _ HD.out.hQ Try.underlying27 rfl (by kernel_rfl) ?_)
      refine (r1_add q q _).mono ?_
      rintro e' w1 ⟨rfl, b1⟩
      have HD := Lib.hid (HD.out.kept b1)
      have HW := Lib.hid (HW.out.trans (b1.mono (by omega)))
      have s1 := HD.out.hQ.st (q + q)
      have HD := Lib.hid (HD.out.setQ hy hz (q + q))
      have HW := Lib.hid (below_setRow HW.out (show X ≤ X + 1 + 1 + 1 by omega) (D (q + q)))
      clear b1
      go_wp2_with (refine wpList_load_row rfl 27 _ rfl (X + 1 + 1 + 1 + 1) rfl 27 (D (r)) (0, 0) _ HD.out.hR Try.underlying27 rfl (by kernel_rfl) ?_)
      clear s1
      generalize w1.setRow (X + 1 + 1 + 1) (D (q + q)) = w2 at *
      refine (r1_add r r _).mono ?_
      rintro e' w3 ⟨rfl, b3⟩
      have HD := Lib.hid (HD.out.kept b3)
      have HW := Lib.hid (HW.out.trans (b3.mono (by have := HW.out.size; omega)))
      have s3 := HD.out.hR.st (r + r)
      have HD := Lib.hid (HD.out.setR hy hz (r + r))
      have HW := Lib.hid (below_setRow HW.out (show X ≤ X + 1 + 1 + 1 + 1 by omega) (D (r + r)))
      clear b3
      go_wp2_with (refine wpList_load_row rfl 27 _ rfl (X) rfl 27 (D (a)) (0, 0) _ HD.out.hA Try.underlying27 rfl (by kernel_rfl) ?_)
      clear s3
      generalize w3.setRow (X + 1 + 1 + 1 + 1) (D (r + r)) = w4 at *
      refine (BT.out _).mono ?_
      rintro e' w5 ⟨rfl, b5⟩
      have HD := Lib.hid (HD.out.kept b5)
      have HW := Lib.hid (HW.out.trans (b5.mono (by have := HW.out.size; omega)))
      clear b5 BT
      have he2 : e = 0 ∨ e = 1 := by omega
      rcases he2 with rfl | rfl
      · have hrr : r + r < 65536 ^ 8 := by rw [p8]; omega
        have CM := Lib.hid (fun w => r1_cmp (r + r) b w hrr BH.out)
        clear hrr
        by_cases hc : b ≤ r + r
        · obtain ⟨g1, g2⟩ := MO.out (by omega)
          have hcv : cmpI (r + r) b = 0 ∨ cmpI (r + r) b = 1 := by unfold cmpI; split <;> (try split) <;> omega
          have G1 := Lib.hid (show a / 2 ^ i / b = q + q + 1 by rw [g1]; omega)
          have G2 := Lib.hid (show a / 2 ^ i % b = r + r - b by rw [g2]; omega)
          have SB := Lib.hid (fun w => r1_sub (r + r) b (r + r - b + 65536 ^ 8) w (by omega))
          rw [show D (r + r - b + 65536 ^ 8) = D (r + r - b) by rw [← D_mod (r + r - b + 65536 ^ 8), Nat.add_mod_right, D_mod]] at SB
          obtain ⟨r', hr'⟩ : ∃ r', r + r - b = r' := ⟨_, rfl⟩
          rw [hr'] at G2 SB
          clear hr' g1 g2 MO LE hc
          rcases hcv with hcv | hcv
          · rw [hcv] at CM
            clear hcv
            go_wp2_with (first | (refine wpList_load_row rfl 27 _ rfl (X + 1 + 1 + 1 + 1) rfl 27 (D (r + r)) (0, 0) _ HD.out.hR Try.underlying27 rfl (by kernel_rfl) ?_) | (refine wpList_load_row rfl 27 _ rfl (Y) rfl 27 (D (b)) (0, 0) _ HD.out.hB Try.underlying27 rfl (by kernel_rfl) ?_))
            refine (CM.out _).mono ?_
            rintro e' w6 ⟨rfl, b6⟩
            have HD := Lib.hid (HD.out.kept b6)
            have HW := Lib.hid (HW.out.trans (b6.mono (by have := HW.out.size; omega)))
            clear b6
            go_wp2_with (first | (refine wpList_load_row rfl 27 _ rfl (X + 1 + 1 + 1 + 1) rfl 27 (D (r + r)) (0, 0) _ HD.out.hR Try.underlying27 rfl (by kernel_rfl) ?_) | (refine wpList_load_row rfl 27 _ rfl (Y) rfl 27 (D (b)) (0, 0) _ HD.out.hB Try.underlying27 rfl (by kernel_rfl) ?_))
            refine (SB.out _).mono ?_
            rintro e' w7 ⟨rfl, b7⟩
            have HD := Lib.hid (HD.out.kept b7)
            have HW := Lib.hid (HW.out.trans (b7.mono (by have := HW.out.size; omega)))
            have s8 := HD.out.hR.st r'
            have HD := Lib.hid (HD.out.setR hy hz r')
            have HW := Lib.hid (below_setRow HW.out (show X ≤ X + 1 + 1 + 1 + 1 by omega) (D r'))
            clear b7
            go_wp2_with (first | (refine wpList_load_row rfl 27 _ rfl (X + 1 + 1 + 1) rfl 27 (D (q + q)) (0, 0) _ HD.out.hQ Try.underlying27 rfl (by kernel_rfl) ?_) | (refine wpList_load_row rfl 27 _ rfl (Z) rfl 27 (D (1)) (0, 0) _ HD.out.hO Try.underlying27 rfl (by kernel_rfl) ?_))
            clear s8
            generalize w7.setRow (X + 1 + 1 + 1 + 1) (D r') = w8 at *
            refine (r1_add (q + q) 1 _).mono ?_
            rintro e' w9 ⟨rfl, b9⟩
            have HD := Lib.hid (HD.out.kept b9)
            have HW := Lib.hid (HW.out.trans (b9.mono (by have := HW.out.size; omega)))
            have s10 := HD.out.hQ.st (q + q + 1)
            have HD := Lib.hid (HD.out.setQ hy hz (q + q + 1))
            have HW := Lib.hid (below_setRow HW.out (show X ≤ X + 1 + 1 + 1 by omega) (D (q + q + 1)))
            clear b9
            go_wp2_with fail
            go_roundw
            case rel => exact ⟨i, q + q + 1, r', by omega, by go_num, G1, G2, HD, HW⟩
            case measure => (first | (simp [intOf]; done) | (simp [intOf]; omega) | (simp only [intOf]; omega))
          · rw [hcv] at CM
            clear hcv
            go_wp2_with (first | (refine wpList_load_row rfl 27 _ rfl (X + 1 + 1 + 1 + 1) rfl 27 (D (r + r)) (0, 0) _ HD.out.hR Try.underlying27 rfl (by kernel_rfl) ?_) | (refine wpList_load_row rfl 27 _ rfl (Y) rfl 27 (D (b)) (0, 0) _ HD.out.hB Try.underlying27 rfl (by kernel_rfl) ?_))
            refine (CM.out _).mono ?_
            rintro e' w6 ⟨rfl, b6⟩
            have HD := Lib.hid (HD.out.kept b6)
            have HW := Lib.hid (HW.out.trans (b6.mono (by have := HW.out.size; omega)))
            clear b6
            go_wp2_with (first | (refine wpList_load_row rfl 27 _ rfl (X + 1 + 1 + 1 + 1) rfl 27 (D (r + r)) (0, 0) _ HD.out.hR Try.underlying27 rfl (by kernel_rfl) ?_) | (refine wpList_load_row rfl 27 _ rfl (Y) rfl 27 (D (b)) (0, 0) _ HD.out.hB Try.underlying27 rfl (by kernel_rfl) ?_))
            refine (SB.out _).mono ?_
            rintro e' w7 ⟨rfl, b7⟩
            have HD := Lib.hid (HD.out.kept b7)
            have HW := Lib.hid (HW.out.trans (b7.mono (by have := HW.out.size; omega)))
            have s8 := HD.out.hR.st r'
            have HD := Lib.hid (HD.out.setR hy hz r')
            have HW := Lib.hid (below_setRow HW.out (show X ≤ X + 1 + 1 + 1 + 1 by omega) (D r'))
            clear b7
            go_wp2_with (first | (refine wpList_load_row rfl 27 _ rfl (X + 1 + 1 + 1) rfl 27 (D (q + q)) (0, 0) _ HD.out.hQ Try.underlying27 rfl (by kernel_rfl) ?_) | (refine wpList_load_row rfl 27 _ rfl (Z) rfl 27 (D (1)) (0, 0) _ HD.out.hO Try.underlying27 rfl (by kernel_rfl) ?_))
            clear s8
            generalize w7.setRow (X + 1 + 1 + 1 + 1) (D r') = w8 at *
            refine (r1_add (q + q) 1 _).mono ?_
            rintro e' w9 ⟨rfl, b9⟩
            have HD := Lib.hid (HD.out.kept b9)
            have HW := Lib.hid (HW.out.trans (b9.mono (by have := HW.out.size; omega)))
            have s10 := HD.out.hQ.st (q + q + 1)
            have HD := Lib.hid (HD.out.setQ hy hz (q + q + 1))
            have HW := Lib.hid (below_setRow HW.out (show X ≤ X + 1 + 1 + 1 by omega) (D (q + q + 1)))
            clear b9
            go_wp2_with fail
            go_roundw
            case rel => exact ⟨i, q + q + 1, r', by omega, by go_num, G1, G2, HD, HW⟩
            case measure => (first | (simp [intOf]; done) | (simp [intOf]; omega) | (simp only [intOf]; omega))
        · obtain ⟨g1, g2⟩ := LE.out (by omega)
          have hcv : cmpI (r + r) b = -1 := by unfold cmpI; rw [if_pos (by omega)]
          have G1 := Lib.hid (show a / 2 ^ i / b = q + q by rw [g1]; omega)
          have G2 := Lib.hid (show a / 2 ^ i % b = r + r by rw [g2]; omega)
          rw [hcv] at CM
          clear hcv g1 g2 MO LE hc
          go_wp2_with (first | (refine wpList_load_row rfl 27 _ rfl (X + 1 + 1 + 1 + 1) rfl 27 (D (r + r)) (0, 0) _ HD.out.hR Try.underlying27 rfl (by kernel_rfl) ?_) | (refine wpList_load_row rfl 27 _ rfl (Y) rfl 27 (D (b)) (0, 0) _ HD.out.hB Try.underlying27 rfl (by kernel_rfl) ?_))
          refine (CM.out _).mono ?_
          rintro e' w6 ⟨rfl, b6⟩
          have HD := Lib.hid (HD.out.kept b6)
          have HW := Lib.hid (HW.out.trans (b6.mono (by have := HW.out.size; omega)))
          clear b6
          go_wp2_with fail
          go_roundw
          case rel => exact ⟨i, q + q, r + r, by omega, by go_num, G1, G2, HD, HW⟩
          case measure => (first | (simp [intOf]; done) | (simp [intOf]; omega) | (simp only [intOf]; omega))
      · go_wp2_with (first | (refine wpList_load_row rfl 27 _ rfl (X + 1 + 1 + 1 + 1) rfl 27 (D (r + r)) (0, 0) _ HD.out.hR Try.underlying27 rfl (by kernel_rfl) ?_) | (refine wpList_load_row rfl 27 _ rfl (Z) rfl 27 (D (1)) (0, 0) _ HD.out.hO Try.underlying27 rfl (by kernel_rfl) ?_))
        refine (r1_add (r + r) 1 _).mono ?_
        rintro e' w6 ⟨rfl, b6⟩
        have HD := Lib.hid (HD.out.kept b6)
        have HW := Lib.hid (HW.out.trans (b6.mono (by have := HW.out.size; omega)))
        have s7 := HD.out.hR.st (r + r + 1)
        have HD := Lib.hid (HD.out.setR hy hz (r + r + 1))
        have HW := Lib.hid (below_setRow HW.out (show X ≤ X + 1 + 1 + 1 + 1 by omega) (D (r + r + 1)))
        clear b6
        have hrr : r + r + 1 < 65536 ^ 8 := by rw [p8]; omega
        have CM := Lib.hid (fun w => r1_cmp (r + r + 1) b w hrr BH.out)
        clear hrr
        by_cases hc : b ≤ r + r + 1
        · obtain ⟨g1, g2⟩ := MO.out (by omega)
          have hcv : cmpI (r + r + 1) b = 0 ∨ cmpI (r + r + 1) b = 1 := by unfold cmpI; split <;> (try split) <;> omega
          have G1 := Lib.hid (show a / 2 ^ i / b = q + q + 1 by rw [g1]; omega)
          have G2 := Lib.hid (show a / 2 ^ i % b = r + r + 1 - b by rw [g2]; omega)
          have SB := Lib.hid (fun w => r1_sub (r + r + 1) b (r + r + 1 - b + 65536 ^ 8) w (by omega))
          rw [show D (r + r + 1 - b + 65536 ^ 8) = D (r + r + 1 - b) by rw [← D_mod (r + r + 1 - b + 65536 ^ 8), Nat.add_mod_right, D_mod]] at SB
          obtain ⟨r', hr'⟩ : ∃ r', r + r + 1 - b = r' := ⟨_, rfl⟩
          rw [hr'] at G2 SB
          clear hr' g1 g2 MO LE hc
          rcases hcv with hcv | hcv
          · rw [hcv] at CM
            clear hcv
            go_wp2_with (first | (refine wpList_load_row rfl 27 _ rfl (X + 1 + 1 + 1 + 1) rfl 27 (D (r + r + 1)) (0, 0) _ HD.out.hR Try.underlying27 rfl (by kernel_rfl) ?_) | (refine wpList_load_row rfl 27 _ rfl (Y) rfl 27 (D (b)) (0, 0) _ HD.out.hB Try.underlying27 rfl (by kernel_rfl) ?_))
            clear s7
            refine (CM.out _).mono ?_
            rintro e' w6 ⟨rfl, b6⟩
            have HD := Lib.hid (HD.out.kept b6)
            have HW := Lib.hid (HW.out.trans (b6.mono (by have := HW.out.size; omega)))
            clear b6
            go_wp2_with (first | (refine wpList_load_row rfl 27 _ rfl (X + 1 + 1 + 1 + 1) rfl 27 (D (r + r + 1)) (0, 0) _ HD.out.hR Try.underlying27 rfl (by kernel_rfl) ?_) | (refine wpList_load_row rfl 27 _ rfl (Y) rfl 27 (D (b)) (0, 0) _ HD.out.hB Try.underlying27 rfl (by kernel_rfl) ?_))
            refine (SB.out _).mono ?_
            rintro e' w7 ⟨rfl, b7⟩
            have HD := Lib.hid (HD.out.kept b7)
            have HW := Lib.hid (HW.out.trans (b7.mono (by have := HW.out.size; omega)))
            have s8 := HD.out.hR.st r'
            have HD := Lib.hid (HD.out.setR hy hz r')
            have HW := Lib.hid (below_setRow HW.out (show X ≤ X + 1 + 1 + 1 + 1 by omega) (D r'))
            clear b7
            go_wp2_with (first | (refine wpList_load_row rfl 27 _ rfl (X + 1 + 1 + 1) rfl 27 (D (q + q)) (0, 0) _ HD.out.hQ Try.underlying27 rfl (by kernel_rfl) ?_) | (refine wpList_load_row rfl 27 _ rfl (Z) rfl 27 (D (1)) (0, 0) _ HD.out.hO Try.underlying27 rfl (by kernel_rfl) ?_))
            clear s8
            generalize w7.setRow (X + 1 + 1 + 1 + 1) (D r') = w8 at *
            refine (r1_add (q + q) 1 _).mono ?_
            rintro e' w9 ⟨rfl, b9⟩
            have HD := Lib.hid (HD.out.kept b9)
            have HW := Lib.hid (HW.out.trans (b9.mono (by have := HW.out.size; omega)))
            have s10 := HD.out.hQ.st (q + q + 1)
            have HD := Lib.hid (HD.out.setQ hy hz (q + q + 1))
            have HW := Lib.hid (below_setRow HW.out (show X ≤ X + 1 + 1 + 1 by omega) (D (q + q + 1)))
            clear b9
            go_wp2_with fail
            go_roundw
            case rel => exact ⟨i, q + q + 1, r', by omega, by go_num, G1, G2, HD, HW⟩
            case measure => (first | (simp [intOf]; done) | (simp [intOf]; omega) | (simp only [intOf]; omega))
          · rw [hcv] at CM
            clear hcv
            go_wp2_with (first | (refine wpList_load_row rfl 27 _ rfl (X + 1 + 1 + 1 + 1) rfl 27 (D (r + r + 1)) (0, 0) _ HD.out.hR Try.underlying27 rfl (by kernel_rfl) ?_) | (refine wpList_load_row rfl 27 _ rfl (Y) rfl 27 (D (b)) (0, 0) _ HD.out.hB Try.underlying27 rfl (by kernel_rfl) ?_))
            clear s7
            refine (CM.out _).mono ?_
            rintro e' w6 ⟨rfl, b6⟩
            have HD := Lib.hid (HD.out.kept b6)
            have HW := Lib.hid (HW.out.trans (b6.mono (by have := HW.out.size; omega)))
            clear b6
            go_wp2_with (first | (refine wpList_load_row rfl 27 _ rfl (X + 1 + 1 + 1 + 1) rfl 27 (D (r + r + 1)) (0, 0) _ HD.out.hR Try.underlying27 rfl (by kernel_rfl) ?_) | (refine wpList_load_row rfl 27 _ rfl (Y) rfl 27 (D (b)) (0, 0) _ HD.out.hB Try.underlying27 rfl (by kernel_rfl) ?_))
            refine (SB.out _).mono ?_
            rintro e' w7 ⟨rfl, b7⟩
            have HD := Lib.hid (HD.out.kept b7)
            have HW := Lib.hid (HW.out.trans (b7.mono (by have := HW.out.size; omega)))
            have s8 := HD.out.hR.st r'
            have HD := Lib.hid (HD.out.setR hy hz r')
            have HW := Lib.hid (below_setRow HW.out (show X ≤ X + 1 + 1 + 1 + 1 by omega) (D r'))
            clear b7
            go_wp2_with (first | (refine wpList_load_row rfl 27 _ rfl (X + 1 + 1 + 1) rfl 27 (D (q + q)) (0, 0) _ HD.out.hQ Try.underlying27 rfl (by kernel_rfl) ?_) | (refine wpList_load_row rfl 27 _ rfl (Z) rfl 27 (D (1)) (0, 0) _ HD.out.hO Try.underlying27 rfl (by kernel_rfl) ?_))
            clear s8
            generalize w7.setRow (X + 1 + 1 + 1 + 1) (D r') = w8 at *
            refine (r1_add (q + q) 1 _).mono ?_
            rintro e' w9 ⟨rfl, b9⟩
            have HD := Lib.hid (HD.out.kept b9)
            have HW := Lib.hid (HW.out.trans (b9.mono (by have := HW.out.size; omega)))
            have s10 := HD.out.hQ.st (q + q + 1)
            have HD := Lib.hid (HD.out.setQ hy hz (q + q + 1))
            have HW := Lib.hid (below_setRow HW.out (show X ≤ X + 1 + 1 + 1 by omega) (D (q + q + 1)))
            clear b9
            go_wp2_with fail
            go_roundw
            case rel => exact ⟨i, q + q + 1, r', by omega, by go_num, G1, G2, HD, HW⟩
            case measure => (first | (simp [intOf]; done) | (simp [intOf]; omega) | (simp only [intOf]; omega))
        · obtain ⟨g1, g2⟩ := LE.out (by omega)
          have hcv : cmpI (r + r + 1) b = -1 := by unfold cmpI; rw [if_pos (by omega)]
          have G1 := Lib.hid (show a / 2 ^ i / b = q + q by rw [g1]; omega)
          have G2 := Lib.hid (show a / 2 ^ i % b = r + r + 1 by rw [g2]; omega)
          rw [hcv] at CM
          clear hcv g1 g2 MO LE hc
          go_wp2_with (first | (refine wpList_load_row rfl 27 _ rfl (X + 1 + 1 + 1 + 1) rfl 27 (D (r + r + 1)) (0, 0) _ HD.out.hR Try.underlying27 rfl (by kernel_rfl) ?_) | (refine wpList_load_row rfl 27 _ rfl (Y) rfl 27 (D (b)) (0, 0) _ HD.out.hB Try.underlying27 rfl (by kernel_rfl) ?_))
          clear s7
          refine (CM.out _).mono ?_
          rintro e' w6 ⟨rfl, b6⟩
          have HD := Lib.hid (HD.out.kept b6)
          have HW := Lib.hid (HW.out.trans (b6.mono (by have := HW.out.size; omega)))
          clear b6
          go_wp2_with fail
          go_roundw
          case rel => exact ⟨i, q + q, r + r + 1, by omega, by go_num, G1, G2, HD, HW⟩
          case measure => (first | (simp [intOf]; done) | (simp [intOf]; omega) | (simp only [intOf]; omega))
end Go.Proofs.Ytlmaacbjbmhogaa
