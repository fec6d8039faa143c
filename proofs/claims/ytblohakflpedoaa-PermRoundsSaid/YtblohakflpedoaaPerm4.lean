/- Package perm: Crt; the page's example of layer 8. -/
import Derived.Test.YtblohakflpedoaaPerm3
namespace Go.Proofs.Ytblohakflpedoaa
open Go.ChangeShapes Go.WideShapes Go.ChangeAt Go.RowKit
set_option linter.unusedVariables false
/-- Crt, of what may be. -/
theorem perm_crt (a b : Nat) (W : World) (ha : 1 ≤ a) (hb : 1 ≤ b) (h : a * b ≤ 16777216) (hg : Nat.gcd a b = 1) :
    Calls Try.prog 11 #[.int .i64 a, .int .i64 b] W fun e w' => ∃ u v : Nat, u < a ∧ b * u % a = 1 % a ∧ v < b ∧ a * v % b = 1 % b ∧ GivesIOk W (a * b) (gridl a b (b * u) (a * v)) e w' := by
  have a2 : a ≤ a * b := Nat.le_mul_of_pos_right a (by omega)
  have b2 : b ≤ a * b := Nat.le_mul_of_pos_left b (by omega)
  have C := Lib.hid (fun w => coprime_ok a b w (sides_of ha hb h) hg)
  have I1 := Lib.hid (fun w => perm_inv b a w ha (by omega) (by omega) (by rw [Nat.gcd_comm]; exact hg))
  have I2 := Lib.hid (fun w => perm_inv a b w hb (by omega) (by omega) hg)
  have G := Lib.hid (fun u v w (hu : u < a) (hv : v < b) => perm_grid a b (b * u) (a * v) w ha hb h (Nat.le_trans (Nat.mul_le_mul_left b (by omega : u ≤ a)) (by rw [Nat.mul_comm]; exact h)) (Nat.le_trans (Nat.mul_le_mul_left a (by omega : v ≤ b)) h))
  have B1 := Lib.hid (fun u (hu : u < a) => (show b * u ≤ 16777216 from Nat.le_trans (Nat.mul_le_mul_left b (by omega : u ≤ a)) (by rw [Nat.mul_comm]; exact h)))
  have B2 := Lib.hid (fun v (hv : v < b) => (show a * v ≤ 16777216 from Nat.le_trans (Nat.mul_le_mul_left a (by omega : v ≤ b)) h))
  have hB : Below W.heap.size W W := Below.refl _ _
  go_enter Try.func11, Try.ntmps11
  go_wp2_with fail
  refine (C.out _).mono ?_
  rintro e w1 ⟨rfl, b1⟩
  have hB := hB.trans (b1.mono hB.size); clear b1
  go_wp2_with fail
  refine (I1.out _).mono ?_
  rintro e w1 ⟨u, rfl, hu, hu2, b1⟩
  have hB := hB.trans (b1.mono hB.size); clear b1
  have c1 := B1.out u hu
  obtain ⟨bu, hbu⟩ : ∃ bu, b * u = bu := ⟨_, rfl⟩
  rw [hbu] at c1
  have hw1 : IntKind.i64.wrap ((b : Int) * (u : Int)) = ((bu : Nat) : Int) := by rw [mul_cast, hbu]; exact IntWalk.i64_in _ (by omega)
  have HBU := Lib.hid hbu
  clear hbu
  go_wp2_with fail
  refine (I2.out _).mono ?_
  rintro e w1 ⟨v, rfl, hv, hv2, b1⟩
  have hB := hB.trans (b1.mono hB.size); clear b1
  have c2 := B2.out v hv
  obtain ⟨av, hav⟩ : ∃ av, a * v = av := ⟨_, rfl⟩
  rw [hav] at c2
  have hw2 : IntKind.i64.wrap ((a : Int) * (v : Int)) = ((av : Nat) : Int) := by rw [mul_cast, hav]; exact IntWalk.i64_in _ (by omega)
  have HAV := Lib.hid hav
  clear hav
  have G1 := fun w => G.out u v w hu hv
  rw [HBU.out, HAV.out] at G1
  have G1 := Lib.hid G1
  have HUL := Lib.hid hu
  have HVL := Lib.hid hv
  have HU := Lib.hid hu2
  have HV := Lib.hid hv2
  clear hu2 hv2 G B1 B2
  clear h hg hu hv
  go_wp2_with fail
  refine (G1.out _).mono ?_
  rintro e w1 ⟨p, k, rfl, hr, b1⟩
  have HR := Lib.hid hr
  clear hr
  have hB := hB.trans (b1.mono hB.size); clear b1
  go_wp2_with fail
  go_ret2
  exact ⟨u, v, HUL.out, HU.out, HVL.out, HV.out, _, _, rfl, by rw [HBU.out, HAV.out]; exact HR.out, hB⟩
theorem rowi6 (w : World) (a b c d e f : Int) (hw : ∀ z ∈ [a, b, c, d, e, f], (Lit.int .i64 z).wf = true) : RowI (w.alloc (.cells #[.int .i64 a, .int .i64 b, .int .i64 c, .int .i64 d, .int .i64 e, .int .i64 f] 3)) (some ⟨w.heap.size, 0, none⟩) 6 [a, b, c, d, e, f] :=
  RowI.of_at (by unfold RowAtI; rw [heap_alloc_new]; rfl) hw rfl (by omega)
theorem live8 (W : World) : Calls Try.prog 4 #[] W fun e w' => e = .returned (.bool true) ∧ Below W.heap.size W w' := by
  have S := fun w => perm_stride 2 3 w (by omega) (by omega) (by omega)
  rw [show strl 2 3 = [0, 3, 1, 4, 2, 5] by decide] at S
  have S := Lib.hid (show ∀ w, Calls Try.prog 10 #[.int .i64 2, .int .i64 3] w (GivesIOk w 6 [0, 3, 1, 4, 2, 5]) from S)
  have C := fun w => perm_crt 2 3 w (by omega) (by omega) (by omega) (by decide)
  have C := Lib.hid (show ∀ w, Calls Try.prog 11 #[.int .i64 2, .int .i64 3] w (GivesIOk w 6 [0, 4, 2, 3, 1, 5]) from fun w => (C w).mono fun e w' ⟨u, v, hu, hu2, hv, hv2, h⟩ => by
    have e1 : u = 1 := by
      rcases (by omega : u = 0 ∨ u = 1) with rfl | rfl
      · simp at hu2
      · rfl
    have e2 : v = 2 := by
      rcases (by omega : v = 0 ∨ v = 1 ∨ v = 2) with rfl | rfl | rfl
      · simp at hv2
      · simp at hv2
      · rfl
    subst e1; subst e2
    rw [show gridl 2 3 (3 * 1) (2 * 2) = [0, 4, 2, 3, 1, 5] by decide] at h
    exact h)
  have R := fun p c w h => perm_right p 6 c [0, 3, 1, 4, 2, 5] w h
  rw [show rgt [0, 3, 1, 4, 2, 5] 6 6 = true by decide] at R
  have R := Lib.hid R
  have hB : Below W.heap.size W W := Below.refl _ _
  have A := Lib.hid (fun w a b c d e f hw => rowi6 w a b c d e f hw)
  go_enter Try.func4, Try.ntmps4
  go_wp2_with fail
  refine (S.out _).mono ?_
  rintro e w1 ⟨p1, k1, rfl, h, b1⟩
  have R1 := Lib.hid h; clear h; have hB := hB.trans (b1.mono hB.size); clear b1
  go_wp2_with fail
  refine (C.out _).mono ?_
  rintro e w1 ⟨p2, k2, rfl, h, b1⟩
  have R2 := Lib.hid h; clear h; have R1 := Lib.hid (R1.out.below b1); have hB := hB.trans (b1.mono hB.size); clear b1
  go_wp2_with fail
  have L1 := Lib.hid (A.out w1 0 3 1 4 2 5 (by decide))
  have R1a := Lib.hid (R1.out.alloc (.cells #[.int .i64 0, .int .i64 3, .int .i64 1, .int .i64 4, .int .i64 2, .int .i64 5] 3))
  have R2a := Lib.hid (R2.out.alloc (.cells #[.int .i64 0, .int .i64 3, .int .i64 1, .int .i64 4, .int .i64 2, .int .i64 5] 3))
  have hBa := hB.alloc hB.size (.cells #[.int .i64 0, .int .i64 3, .int .i64 1, .int .i64 4, .int .i64 2, .int .i64 5] 3)
  clear R1 R2 hB
  generalize w1.alloc (.cells #[.int .i64 0, .int .i64 3, .int .i64 1, .int .i64 4, .int .i64 2, .int .i64 5] 3) = w2 at *
  refine (c_samei R1a.out L1.out).mono ?_
  rintro e w3 ⟨rfl, b1⟩
  have R1b := Lib.hid (R1a.out.below b1)
  have R2b := Lib.hid (R2a.out.below b1)
  have hBb := hBa.trans (b1.mono hBa.size)
  clear R1a R2a hBa b1 L1
  go_wp2_with fail
  have L2 := Lib.hid (A.out w3 0 4 2 3 1 5 (by decide))
  have R1c := Lib.hid (R1b.out.alloc (.cells #[.int .i64 0, .int .i64 4, .int .i64 2, .int .i64 3, .int .i64 1, .int .i64 5] 3))
  have R2c := Lib.hid (R2b.out.alloc (.cells #[.int .i64 0, .int .i64 4, .int .i64 2, .int .i64 3, .int .i64 1, .int .i64 5] 3))
  have hBc := hBb.alloc hBb.size (.cells #[.int .i64 0, .int .i64 4, .int .i64 2, .int .i64 3, .int .i64 1, .int .i64 5] 3)
  clear R1b R2b hBb
  generalize w3.alloc (.cells #[.int .i64 0, .int .i64 4, .int .i64 2, .int .i64 3, .int .i64 1, .int .i64 5] 3) = w4 at *
  refine (c_samei R2c.out L2.out).mono ?_
  rintro e w5 ⟨rfl, b1⟩
  have R1d := Lib.hid (R1c.out.below b1)
  have hBd := hBc.trans (b1.mono hBc.size)
  clear R1c R2c hBc b1 L2
  go_wp2_with fail
  refine (R.out _ _ _ R1d.out).mono ?_
  rintro e w6 ⟨rfl, b1⟩
  have hBe := hBd.trans (b1.mono hBd.size)
  go_wp2_with fail
  go_ret
  exact ⟨rfl, hBe⟩
end Go.Proofs.Ytblohakflpedoaa
