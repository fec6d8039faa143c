/- Package wide's Left. -/
import Derived.Test.YtlmaacbjbmhogaaWide8
import Derived.BigRegion
import Derived.Laws.BitsAllLaws
namespace Go.Proofs.Ytlmaacbjbmhogaa
open Go.ChangeShapes Go.WideShapes Go.ChangeAt Go.RowKit
set_option linter.unusedVariables false
/-- A number of two halves, the number N modulo 2^128. -/
def WL (w : World) (N : Nat) (e : Ending) (w' : World) : Prop := ∃ hi lo : Int, e = .returned (.agg #[.int .u64 hi, .int .u64 lo]) ∧ (0 ≤ hi ∧ hi ≤ 18446744073709551615) ∧ (0 ≤ lo ∧ lo ≤ 18446744073709551615) ∧ nm hi lo = N % 65536 ^ 8 ∧ Below w.heap.size w w'
theorem m64 : (18446744073709551616 : Nat) = 2 ^ 64 := by decide
theorem mm8 : (18446744073709551616 : Nat) * 18446744073709551616 = 65536 ^ 8 := by decide
theorem shl_cast (h k : Nat) : IntKind.u64.wrap ((h : Int) * 2 ^ k) = ((h * 2 ^ k % 18446744073709551616 : Nat) : Int) := by
  rw [IntKind.wrap_u64, Int.natCast_emod, Int.natCast_mul, Int.natCast_pow]; rfl
theorem shr_cast (l k : Nat) : (l : Int) / 2 ^ k = ((l / 2 ^ k : Nat) : Int) := by
  rw [Int.natCast_ediv, Int.natCast_pow]; rfl
theorem nm_nat (a b : Nat) : nm (a : Int) (b : Int) = a * 18446744073709551616 + b := by unfold nm; omega
theorem WL.mk {w w' : World} {N a b : Nat} (ha : a < 18446744073709551616) (hb : b < 18446744073709551616) (h : a * 18446744073709551616 + b = N % 65536 ^ 8) (hB : Below w.heap.size w w') : WL w N (.returned (.agg #[.int .u64 (a : Int), .int .u64 (b : Int)])) w' :=
  ⟨_, _, rfl, ⟨by omega, by omega⟩, ⟨by omega, by omega⟩, by rw [nm_nat]; exact h, hB⟩
set_option maxRecDepth 100000 in
theorem wide_left_a (h l : Nat) (N : Nat) (n : Int) (w : World) (hN : N % 65536 ^ 8 = 0) (hn : 128 ≤ n ∨ n ≤ -128) :
    Calls Try.prog 20 #[.agg #[.int .u64 h, .int .u64 l], .int .i64 n] w (WL w N) := by
  have E := Lib.hid (fun w' hB => WL.mk (w := w) (w' := w') (N := N) (a := 0) (b := 0) (by omega) (by omega) (by rw [hN]) hB)
  rcases hn with hn | hn
  · have c1 : decide (128 ≤ n) = true := decide_eq_true hn
    generalize WL w N = Q at *
    go_enter Try.func20, Try.ntmps20
    go_wp2_with fail
    go_returns
    exact E.out _ (by go_grown)
  · have c1 : decide (128 ≤ n) = false := decide_eq_false (by omega)
    have c2 : decide (n ≤ -128) = true := decide_eq_true hn
    generalize WL w N = Q at *
    go_enter Try.func20, Try.ntmps20
    go_wp2_with fail
    go_returns
    exact E.out _ (by go_grown)
set_option maxRecDepth 100000 in
theorem wide_left_c (h l k : Nat) (n : Int) (w : World) (hh : h < 18446744073709551616) (hl : l < 18446744073709551616) (hn : n = (k : Int) + 64) (hk : k < 64) :
    Calls Try.prog 20 #[.agg #[.int .u64 h, .int .u64 l], .int .i64 n] w (WL w ((h * 18446744073709551616 + l) * 2 ^ (k + 64))) := by
  have w1 : IntKind.i64.wrap (n - 64) = (k : Int) := by rw [hn, show (k : Int) + 64 - 64 = (k : Int) by omega]; exact IntWalk.i64_in _ (by omega)
  have c1 : decide (128 ≤ n) = false := decide_eq_false (by omega)
  have c2 : decide (n ≤ -128) = false := decide_eq_false (by omega)
  have c3 : decide (64 ≤ n) = true := decide_eq_true (by omega)
  have k0 : (0 : Int) ≤ (k : Int) := by omega
  have k1 : (k : Int) ≤ 64 := by omega
  have lh := left_high h l k _ m64
  rw [mm8] at lh
  have E := Lib.hid (fun w' hB => WL.mk (w := w) (w' := w') (N := (h * 18446744073709551616 + l) * 2 ^ (k + 64)) (a := l * 2 ^ k % 18446744073709551616) (b := 0) (Nat.mod_lt _ (by omega)) (by omega) (by rw [Nat.add_zero]; exact lh) hB)
  rw [← shl_cast] at E
  clear hn lh
  generalize WL w ((h * 18446744073709551616 + l) * 2 ^ (k + 64)) = Q at *
  go_enter Try.func20, Try.ntmps20
  go_wp2_with fail
  go_returns
  exact E.out _ (by go_grown)
set_option maxRecDepth 100000 in
theorem wide_left_d (h l k : Nat) (n : Int) (w : World) (hh : h < 18446744073709551616) (hl : l < 18446744073709551616) (hn : n = (k : Int)) (hk : k < 64) :
    Calls Try.prog 20 #[.agg #[.int .u64 h, .int .u64 l], .int .i64 n] w (WL w ((h * 18446744073709551616 + l) * 2 ^ k)) := by
  have w1 : IntKind.i64.wrap (64 - (k : Int)) = ((64 - k : Nat) : Int) := by rw [show 64 - (k : Int) = ((64 - k : Nat) : Int) by omega]; exact IntWalk.i64_in _ (by omega)
  subst hn
  have c1 : decide (128 ≤ (k : Int)) = false := decide_eq_false (by omega)
  have c2 : decide ((k : Int) ≤ -128) = false := decide_eq_false (by omega)
  have c3 : decide (64 ≤ (k : Int)) = false := decide_eq_false (by omega)
  have c4 : decide (0 ≤ (k : Int)) = true := decide_eq_true (by omega)
  have k0 : (0 : Int) ≤ (k : Int) := by omega
  have k1 : (k : Int) ≤ 64 := by omega
  have sl := shr_lt l k _ m64 (by omega) hl
  have lo := left_low h l k _ m64 hk hl
  have sm := shl_mod h k _ m64 (by omega)
  have kp : (2 : Nat) ^ k ≤ 18446744073709551616 := by rw [m64]; exact Nat.pow_le_pow_right (by omega) (by omega)
  have hor : (h * 2 ^ k % 18446744073709551616) ||| (l / 2 ^ (64 - k)) = h * 2 ^ k % 18446744073709551616 + l / 2 ^ (64 - k) := by rw [sm]; exact or_parts k _ _ sl
  have hlt : h * 2 ^ k % 18446744073709551616 + l / 2 ^ (64 - k) < 18446744073709551616 := by
    rw [← hor]
    exact Nat.or_lt_two_pow (n := 64) (by rw [← m64]; exact Nat.mod_lt _ (by omega)) (by rw [← m64]; omega)
  rw [mm8] at lo
  have E := Lib.hid (fun w' hB => WL.mk (w := w) (w' := w') (N := (h * 18446744073709551616 + l) * 2 ^ k) (a := h * 2 ^ k % 18446744073709551616 + l / 2 ^ (64 - k)) (b := l * 2 ^ k % 18446744073709551616) hlt (Nat.mod_lt _ (by omega)) lo hB)
  rw [← hor, ← u64_or_nat _ _ (Nat.mod_lt _ (by omega)) (by omega), ← shl_cast, ← shl_cast, ← shr_cast] at E
  have qm : min (64 - k) 64 = 64 - k := by omega
  clear sl lo sm kp hor hlt
  generalize WL w ((h * 18446744073709551616 + l) * 2 ^ k) = Q at *
  generalize 64 - k = q at *
  have QM := Lib.hid qm
  clear qm
  have q0 : (0 : Int) ≤ (q : Int) := by omega
  go_enter Try.func20, Try.ntmps20
  go_wp2_with fail
  go_region
  go_wp2_with fail
  rw [QM.out]
  go_returns
  exact E.out _ (by go_grown)
set_option maxRecDepth 100000 in
theorem wide_left_e (h l k : Nat) (n : Int) (w : World) (hh : h < 18446744073709551616) (hl : l < 18446744073709551616) (hn : n = -(k : Int)) (h0 : 0 < k) (hk : k < 64) :
    Calls Try.prog 20 #[.agg #[.int .u64 h, .int .u64 l], .int .i64 n] w (WL w ((h * 18446744073709551616 + l) / 2 ^ k)) := by
  have w0 : IntKind.i64.wrap (-n) = (k : Int) := by rw [hn, Int.neg_neg]; exact IntWalk.i64_in _ (by omega)
  have w1 : IntKind.i64.wrap (64 + n) = ((64 - k : Nat) : Int) := by rw [show 64 + n = ((64 - k : Nat) : Int) by omega]; exact IntWalk.i64_in _ (by omega)
  have c1 : decide (128 ≤ n) = false := decide_eq_false (by omega)
  have c2 : decide (n ≤ -128) = false := decide_eq_false (by omega)
  have c3 : decide (64 ≤ n) = false := decide_eq_false (by omega)
  have c4 : decide (0 ≤ n) = false := decide_eq_false (by omega)
  have c5 : decide (-64 < n) = true := decide_eq_true (by omega)
  have k0 : (0 : Int) ≤ (k : Int) := by omega
  have k1 : (k : Int) ≤ 64 := by omega
  have km : min k 64 = k := by omega
  have rl := right_low h l k _ m64 (by omega)
  have sm := shl_mod h (64 - k) _ m64 (by omega)
  rw [show 64 - (64 - k) = k by omega] at sm
  have sl : l / 2 ^ k < 2 ^ (64 - k) := by
    have := shr_lt l (64 - k) _ m64 (by omega) hl
    rwa [show 64 - (64 - k) = k by omega] at this
  have kp : (2 : Nat) ^ (64 - k) ≤ 18446744073709551616 := by rw [m64]; exact Nat.pow_le_pow_right (by omega) (by omega)
  have hor : (l / 2 ^ k) ||| (h * 2 ^ (64 - k) % 18446744073709551616) = l / 2 ^ k + h * 2 ^ (64 - k) % 18446744073709551616 := by
    rw [Nat.or_comm, sm, Nat.add_comm]; exact or_parts (64 - k) _ _ sl
  have hlt : l / 2 ^ k + h * 2 ^ (64 - k) % 18446744073709551616 < 18446744073709551616 := by
    rw [← hor]
    exact Nat.or_lt_two_pow (n := 64) (by rw [← m64]; omega) (by rw [← m64]; exact Nat.mod_lt _ (by omega))
  have hlt2 : h / 2 ^ k < 18446744073709551616 := Nat.lt_of_le_of_lt (Nat.div_le_self _ _) hh
  have hA : (h * 18446744073709551616 + l) / 2 ^ k < 65536 ^ 8 := Nat.lt_of_le_of_lt (Nat.div_le_self _ _) (by rw [← mm8]; omega)
  have E := Lib.hid (fun w' hB => WL.mk (w := w) (w' := w') (N := (h * 18446744073709551616 + l) / 2 ^ k) (a := h / 2 ^ k) (b := l / 2 ^ k + h * 2 ^ (64 - k) % 18446744073709551616) hlt2 hlt (by rw [Nat.mod_eq_of_lt hA]; exact rl) hB)
  rw [← hor, ← u64_or_nat _ _ (by omega) (Nat.mod_lt _ (by omega)), ← shl_cast, ← shr_cast, ← shr_cast] at E
  clear sl rl sm kp hor hlt hlt2 hA hn
  generalize WL w ((h * 18446744073709551616 + l) / 2 ^ k) = Q at *
  have qk : (64 - k : Nat) ≤ 64 := by omega
  generalize 64 - k = q at *
  have KM := Lib.hid km
  clear km
  have q0 : (0 : Int) ≤ (q : Int) := by omega
  have q1 : (q : Int) ≤ 64 := by omega
  clear qk
  go_enter Try.func20, Try.ntmps20
  go_wp2_with fail
  go_region
  go_wp2_with fail
  go_returns
  exact E.out _ (by go_grown)
set_option maxRecDepth 100000 in
theorem wide_left_f (h l k : Nat) (n : Int) (w : World) (hh : h < 18446744073709551616) (hl : l < 18446744073709551616) (hn : n = -(k : Int) - 64) (hk : k < 64) :
    Calls Try.prog 20 #[.agg #[.int .u64 h, .int .u64 l], .int .i64 n] w (WL w ((h * 18446744073709551616 + l) / 2 ^ (k + 64))) := by
  have w0 : IntKind.i64.wrap (-n) = -n := IntWalk.i64_in _ (by omega)
  have w1 : IntKind.i64.wrap (-n - 64) = (k : Int) := by rw [hn, show -(-(k : Int) - 64) - 64 = (k : Int) by omega]; exact IntWalk.i64_in _ (by omega)
  have c1 : decide (128 ≤ n) = false := decide_eq_false (by omega)
  have c2 : decide (n ≤ -128) = false := decide_eq_false (by omega)
  have c3 : decide (64 ≤ n) = false := decide_eq_false (by omega)
  have c4 : decide (0 ≤ n) = false := decide_eq_false (by omega)
  have c5 : decide (-64 < n) = false := decide_eq_false (by omega)
  have k0 : (0 : Int) ≤ (k : Int) := by omega
  have k1 : (k : Int) ≤ 64 := by omega
  have km : min k 64 = k := by omega
  have rh := right_high h l k _ m64 hl
  have hlt2 : h / 2 ^ k < 18446744073709551616 := Nat.lt_of_le_of_lt (Nat.div_le_self _ _) hh
  have hA : (h * 18446744073709551616 + l) / 2 ^ (k + 64) < 65536 ^ 8 := Nat.lt_of_le_of_lt (Nat.div_le_self _ _) (by rw [← mm8]; omega)
  have E := Lib.hid (fun w' hB => WL.mk (w := w) (w' := w') (N := (h * 18446744073709551616 + l) / 2 ^ (k + 64)) (a := 0) (b := h / 2 ^ k) (by omega) hlt2 (by rw [Nat.mod_eq_of_lt hA, Nat.zero_mul, Nat.zero_add]; exact rh) hB)
  rw [← shr_cast] at E
  clear rh hlt2 hA hn
  generalize WL w ((h * 18446744073709551616 + l) / 2 ^ (k + 64)) = Q at *
  have KM := Lib.hid km
  clear km
  go_enter Try.func20, Try.ntmps20
  go_wp2_with fail
  go_returns
  exact E.out _ (by go_grown)
end Go.Proofs.Ytlmaacbjbmhogaa
