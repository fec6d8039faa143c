/- Long division by two digits: numbers; math/bits' LeadingZeros64. -/
import Derived.Test.YtlmaacbjbmhogaaLWideShifts
import Derived.Deep.DeepCutAuto
import Derived.Deep.CutBlock
import Derived.Deep.LoopGhost
namespace Go.Proofs.Ytlmaacbjbmhogaa
open Go.ChangeShapes Go.WideShapes Go.ChangeAt Go.RowKit
set_option linter.unusedVariables false
/-- One digit of a long division: y is a · B + c, u is below y; what is divided is u · B + v. -/
structure Dg (B y a c u v : Nat) : Prop where
  hy : y = a * B + c
  hc : c < B
  ha : a < B
  h2 : B ≤ 2 * a
  hu : u < y
  hv : v < B
theorem Dg.prod {B y a c u v q r : Nat} (h : Dg B y a c u v) (e : q * a + r = u) : q * y + r * B = u * B + q * c := by
  rw [h.hy, ← e, Nat.mul_add, Nat.add_mul, Nat.mul_assoc]; omega
theorem Dg.pos {B y a c u v : Nat} (h : Dg B y a c u v) : 0 < y := by have := h.hu; omega
theorem Dg.lt {B y a c u v : Nat} (h : Dg B y a c u v) : (u * B + v) / y < B := by
  rw [Nat.div_lt_iff_lt_mul h.pos, Nat.mul_comm B]
  have := Nat.mul_le_mul_right B (show u + 1 ≤ y from h.hu)
  rw [Nat.add_mul, Nat.one_mul] at this
  have := h.hv; omega
theorem Dg.first {B y a c u v : Nat} (h : Dg B y a c u v) : u / a * a + u % a = u ∧ u % a < B ∧ u / a ≤ B + 1 ∧ (u * B + v) / y ≤ u / a := by
  have hu := h.hu; have hy := h.hy; have hc := h.hc; have h2 := h.h2; have ha := h.ha; have hv := h.hv
  have a0 : 0 < a := by omega
  have d := Nat.div_add_mod u a
  have m := Nat.mod_lt u a0
  refine ⟨by rw [Nat.mul_comm]; exact d, by omega, ?_, ?_⟩
  · rw [Nat.div_le_iff_le_mul a0]
    have : (B + 1) * a = a * B + a := by rw [Nat.add_mul, Nat.one_mul, Nat.mul_comm]
    rw [this]; omega
  · rw [Nat.le_div_iff_mul_le a0]
    have e := Nat.div_mul_le_self (u * B + v) y
    generalize (u * B + v) / y = Q at *
    have e2 : Q * a * B ≤ u * B + v := by
      refine Nat.le_trans ?_ e
      rw [hy, Nat.mul_add, Nat.mul_assoc]; omega
    have e3 : Q * a * B < (u + 1) * B := by rw [Nat.add_mul, Nat.one_mul]; omega
    have := Nat.lt_of_mul_lt_mul_right e3
    omega
theorem Dg.more {B y a c u v q r : Nat} (h : Dg B y a c u v) (e : q * a + r = u) (hQ : (u * B + v) / y ≤ q) (hc : B ≤ q ∨ r * B + v < q * c) : (q - 1) * a + (r + a) = u ∧ (u * B + v) / y ≤ q - 1 ∧ 1 ≤ q := by
  have hB := h.lt
  have hlt : (u * B + v) / y < q := by
    rcases hc with hc | hc
    · exact Nat.lt_of_lt_of_le hB hc
    · rw [Nat.div_lt_iff_lt_mul h.pos]
      have := h.prod e
      omega
  have h1 : 1 ≤ q := Nat.lt_of_le_of_lt (Nat.zero_le _) hlt
  refine ⟨?_, Nat.le_sub_one_of_lt hlt, h1⟩
  rw [Nat.sub_mul, Nat.one_mul, ← e]
  have : a ≤ q * a := Nat.le_mul_of_pos_left a (by omega)
  omega
theorem Dg.done {B y a c u v q r : Nat} (h : Dg B y a c u v) (e : q * a + r = u) (hQ : (u * B + v) / y ≤ q) (hc : q * c ≤ r * B + v) : (u * B + v) / y = q := by
  refine Nat.le_antisymm hQ ((Nat.le_div_iff_mul_le h.pos).2 ?_)
  have := h.prod e
  omega
theorem Dg.brk {B y a c u v q r : Nat} (h : Dg B y a c u v) (hq : q ≤ B) (hr : B ≤ r) : q * c ≤ r * B + v := by
  have h1 := Nat.mul_le_mul hq (Nat.le_of_lt h.hc)
  have h2 := Nat.mul_le_mul_right B hr
  omega
/-- The two digits together. -/
theorem two_digits {B y U v w q1 q0 r1 r0 : Nat} (h1 : U * B + v = q1 * y + r1) (h2 : r1 * B + w = q0 * y + r0) (hr : r0 < y) : (U * (B * B) + (v * B + w)) / y = q1 * B + q0 ∧ (U * (B * B) + (v * B + w)) % y = r0 := by
  have e : U * (B * B) + (v * B + w) = y * (q1 * B + q0) + r0 := by
    have h3 : (U * B + v) * B + w = (q1 * y + r1) * B + w := by rw [h1]
    rw [Nat.add_mul, Nat.add_mul, Nat.mul_assoc] at h3
    rw [Nat.mul_add, ← Nat.mul_assoc y, Nat.mul_comm y q1, Nat.mul_comm y q0]
    omega
  rw [e]
  exact ⟨by rw [Nat.mul_add_div (by omega), Nat.div_eq_of_lt hr, Nat.add_zero], by rw [Nat.mul_add_mod, Nat.mod_eq_of_lt hr]⟩
theorem lead_zeros (x : Int) (w : World) (h0 : 0 ≤ x) (h1 : x ≤ 18446744073709551615) :
    Calls Try.prog 30 #[.int .u64 x] w fun e w' => e = .returned (.int .i64 (64 - (Lib.bitLen x.toNat : Int))) ∧ w = w' := by
  have BL := Lib.hid (fun w => bits_len64 x w h0 h1)
  have hb : (Lib.bitLen x.toNat : Int) ≤ 64 := by
    have := Lib.bitLenAux_le 64 x.toNat 64 (by omega)
    unfold Lib.bitLen; omega
  have wz : IntKind.i64.wrap (64 - (Lib.bitLen x.toNat : Int)) = 64 - (Lib.bitLen x.toNat : Int) := IntWalk.i64_in _ (by omega)
  generalize (Lib.bitLen x.toNat : Int) = z at *
  go_enter Try.func30, Try.ntmps30
  go_wp2_with fail
  refine (BL.out _).mono ?_
  rintro e w1 ⟨rfl, rfl⟩
  go_wp2_with fail
  go_ret
  exact ⟨rfl, rfl⟩
end Go.Proofs.Ytlmaacbjbmhogaa
