/- NeedNames: what is a table's name, how many numbers it has, how two names stand. -/
import Derived.Test.YticljddfdeocbaaOpen4n
import Derived.Test.YticljddfdeocbaaLive15
namespace Go.Proofs.Yticljddfdeocbaa
open Go.ChangeShapes Go.WideShapes Go.ChangeAt Go.RowKit
set_option linter.unusedVariables false
namespace needNames
set_option maxRecDepth 100000 in
set_option maxHeartbeats 8000000 in
theorem main (LV0 : ∀ w, Calls Try.prog 46 #[] w fun e w' => e = .returned (.bool true) ∧ Below w.heap.size w w') (k n m d k' n' m' d' : Int) (W : World) (wn : -9223372036854775808 ≤ n ∧ n ≤ 9223372036854775807) (wm : m ≤ 9223372036854775807) :
    Calls Try.prog 8 #[.agg #[.int .i64 k, .int .i64 n, .int .i64 m, .int .i64 d], .agg #[.int .i64 k', .int .i64 n', .int .i64 m', .int .i64 d']] W fun e w' => e = .returned (.bool true) ∧ Below W.heap.size W w' := by
  have LV := Lib.hid LV0
  have NR := Lib.hid (fun w => need_right k n m d w wn)
  have RR := Lib.hid (fun w => r15_right k n m d w wn wm)
  have NO := Lib.hid (fun w => need_room k n m d w wn wm)
  have RO := Lib.hid (fun w => r15_room k n m d w wn wm)
  have NC := Lib.hid (fun w => need_cmp k n m d k' n' m' d' w)
  have RC := Lib.hid (fun w => r15_cmp k n m d k' n' m' d' w)
  have NB := fun w => need_cmp k' n' m' d' k n m d w
  have zb := ncmp_bd k n m d k' n' m' d'
  rw [ncmp_neg k n m d k' n' m' d'] at NB
  have NB := Lib.hid NB
  generalize ncmp k n m d k' n' m' d' = z at *
  generalize (if rightb k n m d then roomi k n m else 0) = y at *
  generalize rightb k n m d = r at *
  have wz : IntKind.i64.wrap (-z) = -z := IntWalk.i64_in _ (by omega)
  clear LV0
  obtain ⟨w0, hw0, ⟨a0, a1, a2, a3⟩, ⟨b0, b1, b2, b3⟩, hB, hsz⟩ := two_boxes W k n m d k' n' m' d' 54
  have lt0 : W.heap.size < w0.heap.size := by omega
  have lt1 : W.heap.size + 1 < w0.heap.size := by omega
  have MK := Lib.hid (fun w' (hb : Below w0.heap.size w0 w') => (show w'.cell? ⟨W.heap.size, 0, none⟩ = some (.int .i64 k) ∧ w'.cell? ⟨W.heap.size, 1, none⟩ = some (.int .i64 n) ∧ w'.cell? ⟨W.heap.size, 2, none⟩ = some (.int .i64 m) ∧ w'.cell? ⟨W.heap.size, 3, none⟩ = some (.int .i64 d) ∧ w'.cell? ⟨W.heap.size + 1, 0, none⟩ = some (.int .i64 k') ∧ w'.cell? ⟨W.heap.size + 1, 1, none⟩ = some (.int .i64 n') ∧ w'.cell? ⟨W.heap.size + 1, 2, none⟩ = some (.int .i64 m') ∧ w'.cell? ⟨W.heap.size + 1, 3, none⟩ = some (.int .i64 d') ∧ Below w0.heap.size w0 w' from
    ⟨(hb.cell (p := ⟨W.heap.size, 0, none⟩) lt0).trans a0, (hb.cell (p := ⟨W.heap.size, 1, none⟩) lt0).trans a1, (hb.cell (p := ⟨W.heap.size, 2, none⟩) lt0).trans a2, (hb.cell (p := ⟨W.heap.size, 3, none⟩) lt0).trans a3, (hb.cell (p := ⟨W.heap.size + 1, 0, none⟩) lt1).trans b0, (hb.cell (p := ⟨W.heap.size + 1, 1, none⟩) lt1).trans b1, (hb.cell (p := ⟨W.heap.size + 1, 2, none⟩) lt1).trans b2, (hb.cell (p := ⟨W.heap.size + 1, 3, none⟩) lt1).trans b3, hb⟩))
  have KP := Lib.hid (fun w w' (hS : w.cell? ⟨W.heap.size, 0, none⟩ = some (.int .i64 k) ∧ w.cell? ⟨W.heap.size, 1, none⟩ = some (.int .i64 n) ∧ w.cell? ⟨W.heap.size, 2, none⟩ = some (.int .i64 m) ∧ w.cell? ⟨W.heap.size, 3, none⟩ = some (.int .i64 d) ∧ w.cell? ⟨W.heap.size + 1, 0, none⟩ = some (.int .i64 k') ∧ w.cell? ⟨W.heap.size + 1, 1, none⟩ = some (.int .i64 n') ∧ w.cell? ⟨W.heap.size + 1, 2, none⟩ = some (.int .i64 m') ∧ w.cell? ⟨W.heap.size + 1, 3, none⟩ = some (.int .i64 d') ∧ Below w0.heap.size w0 w) (hb : Below w.heap.size w w') => MK.out w' (hS.2.2.2.2.2.2.2.2.trans (hb.mono hS.2.2.2.2.2.2.2.2.size)))
  go_enter Try.func8, Try.ntmps8
  go_wp2_with fail
  rw [← hw0]
  clear hw0
  generalize W.heap.size + 1 = Y at *
  generalize hX : W.heap.size = X at *
  go_region_held3 (fun w' => w'.cell? ⟨X, 0, none⟩ = some (.int .i64 k) ∧ w'.cell? ⟨X, 1, none⟩ = some (.int .i64 n) ∧ w'.cell? ⟨X, 2, none⟩ = some (.int .i64 m) ∧ w'.cell? ⟨X, 3, none⟩ = some (.int .i64 d) ∧ w'.cell? ⟨Y, 0, none⟩ = some (.int .i64 k') ∧ w'.cell? ⟨Y, 1, none⟩ = some (.int .i64 n') ∧ w'.cell? ⟨Y, 2, none⟩ = some (.int .i64 m') ∧ w'.cell? ⟨Y, 3, none⟩ = some (.int .i64 d') ∧ Below w0.heap.size w0 w') (first | exact MK.out _ ((Below.refl _ _).drew) | assumption | (refine KP.out _ _ ?_ hb; first | assumption | exact MK.out _ ((Below.refl _ _).drew))) (first | (go_at_call 40; (with_reducible refine (NR.out _).mono ?_); rintro e w' ⟨rfl, hb⟩) | (go_at_call 41; (with_reducible refine (RR.out _).mono ?_); rintro e w' ⟨rfl, hb⟩) | (go_at_call 42; (with_reducible refine (NO.out _).mono ?_); rintro e w' ⟨rfl, hb⟩) | (go_at_call 43; (with_reducible refine (RO.out _).mono ?_); rintro e w' ⟨rfl, hb⟩) | (go_at_call 44; (first | with_reducible refine (NC.out _).mono ?_ | with_reducible refine (NB.out _).mono ?_); rintro e w' ⟨rfl, hb⟩) | (go_at_call 45; (with_reducible refine (RC.out _).mono ?_); rintro e w' ⟨rfl, hb⟩) | (go_at_call 46; (with_reducible refine (LV.out _).mono ?_); rintro e w' ⟨rfl, hb⟩))
  rename_i hSS
  obtain ⟨_, _, _, _, _, _, _, _, hBB⟩ := hSS
  go_wp2_with fail
  go_ret
  exact ⟨rfl, by have h2 := hB.size; rw [hX] at h2; have h3 := hB.trans (hBB.mono h2); rw [← hX] at h3; exact h3⟩
theorem walk (W : World) (a0_0 : Int) (w0_0 : -9223372036854775808 ≤ a0_0 ∧ a0_0 ≤ 9223372036854775807) (a0_1 : Int) (w0_1 : -9223372036854775808 ≤ a0_1 ∧ a0_1 ≤ 9223372036854775807) (a0_2 : Int) (w0_2 : -9223372036854775808 ≤ a0_2 ∧ a0_2 ≤ 9223372036854775807) (a0_3 : Int) (w0_3 : -9223372036854775808 ≤ a0_3 ∧ a0_3 ≤ 9223372036854775807) (a1_0 : Int) (w1_0 : -9223372036854775808 ≤ a1_0 ∧ a1_0 ≤ 9223372036854775807) (a1_1 : Int) (w1_1 : -9223372036854775808 ≤ a1_1 ∧ a1_1 ≤ 9223372036854775807) (a1_2 : Int) (w1_2 : -9223372036854775808 ≤ a1_2 ∧ a1_2 ≤ 9223372036854775807) (a1_3 : Int) (w1_3 : -9223372036854775808 ≤ a1_3 ∧ a1_3 ≤ 9223372036854775807) :
    Calls Try.prog 8 #[.agg #[.int .i64 a0_0, .int .i64 a0_1, .int .i64 a0_2, .int .i64 a0_3], .agg #[.int .i64 a1_0, .int .i64 a1_1, .int .i64 a1_2, .int .i64 a1_3]] W fun e W' => e = .returned (.bool true) ∧ Below W.heap.size W W' :=
  main live15 a0_0 a0_1 a0_2 a0_3 a1_0 a1_1 a1_2 a1_3 W w0_1 w0_2.2
end needNames
end Go.Proofs.Yticljddfdeocbaa
