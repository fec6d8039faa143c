/- RootOrders: any number's order. -/
import Derived.Test.YteimfmenbeicfaaOrder
import Derived.Test.YteimfmenbeicfaaRoot
namespace Go.Proofs.Yteimfmenbeicfaa
open Go.ChangeShapes Go.WideShapes Go.ChangeAt Go.RowKit
set_option linter.unusedVariables false
namespace rootOrders
set_option maxRecDepth 100000 in
theorem walk (W : World) (a : Int) (w0 : 0 ≤ a ∧ a ≤ 18446744073709551615) :
    Calls Try.prog 5 #[.int .u64 a] W fun e W' => e = .returned (.bool true) ∧ Below W.heap.size W W' := by
  obtain ⟨a0, a1⟩ := w0
  by_cases h : fm a = 0
  · have O := Lib.hid (root_order_zero a W a0 a1 h)
    have R := fun w => r2_red a w a0 a1
    rw [h] at R
    have R := Lib.hid R
    clear h
    go_enter Try.func5, Try.ntmps5
    go_wp2_with fail
    refine O.out.mono ?_
    rintro e w1 ⟨rfl, b1⟩
    go_wp2_with fail
    refine (R.out _).mono ?_
    rintro e w2 ⟨rfl, rfl⟩
    go_wp2_with fail
    refine (live4 _).mono ?_
    rintro e w4 ⟨rfl, b4⟩
    go_wp2_with fail
    go_ret
    exact ⟨rfl, b1.trans (b4.mono b1.size)⟩
  · have O := Lib.hid (root_order a W a0 a1 h)
    have R := Lib.hid (fun w => r2_red a w a0 a1)
    have hq : (fm a == 0) = false := by simpa using h
    have f0 := fm_lo a
    have f1 := fm_hi a
    have HP := Lib.hid (Fld.fm_pow1 a)
    clear h
    generalize fm a = v at *
    go_enter Try.func5, Try.ntmps5
    go_wp2_with fail
    refine O.out.mono ?_
    rintro e w1 ⟨k, rfl, hk, b1⟩
    have k1 := hk.1
    have k2 := hk.le
    have LL := Lib.hid (fun w => r4_least v k w f0 f1 hk.1 (by omega) hk.2.1 (by rw [HP.out]; exact hk.2.2.1) (fun i hi hz => by rw [HP.out]; exact hk.2.2.2 i hi hz))
    clear hk
    go_wp2_with fail
    refine (R.out _).mono ?_
    rintro e w2 ⟨rfl, rfl⟩
    go_wp2_with fail
    refine (R.out _).mono ?_
    rintro e w2 ⟨rfl, rfl⟩
    go_wp2_with fail
    refine (LL.out _).mono ?_
    rintro e w3 ⟨rfl, b3⟩
    have hB3 : Below W.heap.size W w3 := b1.trans (b3.mono b1.size)
    go_wp2_with fail
    refine (live4 _).mono ?_
    rintro e w4 ⟨rfl, b4⟩
    go_wp2_with fail
    go_ret
    exact ⟨rfl, hB3.trans (b4.mono hB3.size)⟩
end rootOrders
end Go.Proofs.Yteimfmenbeicfaa
