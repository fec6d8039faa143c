/- The live example of layer 1. -/
import Derived.Test.YtlmaacbjbmhogaaWide4
import Derived.Test.YtlmaacbjbmhogaaBitl
namespace Go.Proofs.Ytlmaacbjbmhogaa
open Go.ChangeShapes Go.WideShapes Go.ChangeAt Go.RowKit
set_option linter.unusedVariables false
theorem wide_len (h l : Int) (w : World) (h0 : 0 ≤ h) (h1 : h ≤ 18446744073709551615) (l0 : 0 ≤ l) (l1 : l ≤ 18446744073709551615) :
    Calls Try.prog 22 #[.agg #[.int .u64 h, .int .u64 l]] w fun e w' => e = .returned (.int .i64 (if h = 0 then (Lib.bitLen l.toNat : Int) else 64 + (Lib.bitLen h.toNat : Int))) ∧ Below w.heap.size w w' := by
  have BH := Lib.hid (fun w => bits_len64 h w h0 h1)
  have BL := Lib.hid (fun w => bits_len64 l w l0 l1)
  have hb : (Lib.bitLen h.toNat : Int) ≤ 64 := by
    have := Lib.bitLenAux_le 64 h.toNat 64 (by omega)
    unfold Lib.bitLen; omega
  by_cases hz : h = 0
  · rw [if_pos hz]
    have dz : (h == 0) = true := by simp [hz]
    generalize (Lib.bitLen l.toNat : Int) = z at *
    generalize (Lib.bitLen h.toNat : Int) = y at *
    go_enter Try.func22, Try.ntmps22
    go_wp2_with fail
    refine (BL.out _).mono ?_
    rintro e w1 ⟨rfl, rfl⟩
    go_wp2_with fail
    go_ret
    exact ⟨rfl, by go_grown⟩
  · rw [if_neg hz]
    have dz : (h == 0) = false := by simp [hz]
    have wz : IntKind.i64.wrap (64 + (Lib.bitLen h.toNat : Int)) = 64 + (Lib.bitLen h.toNat : Int) := IntWalk.i64_in _ (by omega)
    generalize (Lib.bitLen l.toNat : Int) = z at *
    generalize (Lib.bitLen h.toNat : Int) = y at *
    go_enter Try.func22, Try.ntmps22
    go_wp2_with fail
    refine (BH.out _).mono ?_
    rintro e w1 ⟨rfl, rfl⟩
    go_wp2_with fail
    go_ret
    exact ⟨rfl, by go_grown⟩
theorem live1 (w : World) : Calls Try.prog 16 #[] w fun e w' => e = .returned (.bool true) ∧ Below w.heap.size w w' := by
  have M := Lib.hid (fun w => wide_mul 1099511627776 1099511627776 w (by decide) (by decide) (by decide) (by decide))
  rw [show (1099511627776 : Int) * 1099511627776 / 18446744073709551616 = 65536 by decide, show (1099511627776 : Int) * 1099511627776 % 18446744073709551616 = 0 by decide] at M
  have L := Lib.hid (fun w => wide_len 65536 0 w (by decide) (by decide) (by decide) (by decide))
  rw [show (if (65536 : Int) = 0 then (Lib.bitLen (0 : Int).toNat : Int) else 64 + (Lib.bitLen (65536 : Int).toNat : Int)) = 81 by decide] at L
  go_enter Try.func16, Try.ntmps16
  go_wp2_with fail
  refine (M.out _).mono ?_
  rintro e w1 ⟨rfl, b1⟩
  go_wp2_with fail
  refine (L.out _).mono ?_
  rintro e w2 ⟨rfl, b2⟩
  go_wp2_with fail
  go_ret
  have b1' := b1.alloc b1.size (.cells #[.int .u64 65536, .int .u64 0] 25)
  exact ⟨rfl, b1'.trans (b2.mono b1'.size)⟩
end Go.Proofs.Ytlmaacbjbmhogaa
