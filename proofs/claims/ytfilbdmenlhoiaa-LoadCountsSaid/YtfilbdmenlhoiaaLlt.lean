/- Law 45: reference 45's lasted. -/
import Derived.Test.YtfilbdmenlhoiaaLkd
namespace Go.Proofs.Ytfilbdmenlhoiaa
open Go.ChangeShapes Go.WideShapes Go.ChangeAt Go.RowKit
set_option linter.unusedVariables false
set_option linter.unusedSimpArgs false
def lastN (x : Oi) : Int := if x.t ≤ x.f then 0 else if x.t - x.f < 1152921504606846976 then x.t - x.f else 1152921504606846976
set_option maxRecDepth 100000 in
set_option maxHeartbeats 4000000 in
theorem r45_lasted (cs : Array Value) (x : Oi) (h : OpV cs x.who x.kind x.e x.f x.t) (W : World) :
    Calls Try.prog 20 #[.agg cs] W fun e w' => e = .returned (.int .i64 (lastN x)) ∧ Below W.heap.size W w' := by
  obtain ⟨w1, hw1⟩ : ∃ w1, W.alloc (.cells cs 51) = w1 := ⟨_, rfl⟩
  have hh : w1.heap[W.heap.size]? = some (.cells cs 51 (0, 0)) := by rw [← hw1]; exact heap_alloc_new _ _
  have HB1 := Lib.hid (show Below W.heap.size W w1 by rw [← hw1]; exact (Below.refl _ _).alloc (Nat.le_refl _) _)
  have c17 : w1.cell? ⟨W.heap.size, 17, none⟩ = some (.int .i64 x.f) := by rw [cell_of_row _ _ _ _ _ _ hh]; exact h.hf
  have c18 : w1.cell? ⟨W.heap.size, 18, none⟩ = some (.int .i64 x.t) := by rw [cell_of_row _ _ _ _ _ _ hh]; exact h.ht
  have HW1 := Lib.hid hw1
  obtain ⟨-, -, -, kf, kt⟩ := h.ok
  unfold i64ok at kf kt
  have LN := Lib.hid (show lastN x = if x.t ≤ x.f then 0 else if x.t - x.f < 1152921504606846976 then x.t - x.f else 1152921504606846976 from rfl)
  generalize lastN x = n at *
  generalize x.f = f at *
  generalize x.t = t at *
  clear h hw1 hh
  go_enter Try.func20, Try.ntmps20
  go_upto_region 1 with fail
  rw [HW1.out]
  by_cases h0 : t ≤ f
  · go_wp2_with fail
    go_ret
    exact ⟨by rw [LN.out, if_pos h0]; rfl, HB1.out⟩
  · by_cases hf : 0 ≤ f
    · have hw : wrap64 (t - f) = t - f := by simp only [wrap64]; omega
      have hn : ¬ f < 0 := by omega
      by_cases hl : t - f < 1152921504606846976
      · have HL := Lib.hid (show n = t - f by rw [LN.out, if_neg h0, if_pos hl])
        clear LN
        go_wp2_with fail
        go_ret
        exact ⟨by rw [HL.out]; rfl, HB1.out⟩
      · have HL := Lib.hid (show n = 1152921504606846976 by rw [LN.out, if_neg h0, if_neg hl])
        clear LN
        go_wp2_with fail
        go_ret
        exact ⟨by rw [HL.out]; rfl, HB1.out⟩
    · have hw2 : wrap64 (1152921504606846976 + f) = 1152921504606846976 + f := by simp only [wrap64]; omega
      have hn : f < 0 := by omega
      by_cases hl : t < 1152921504606846976 + f
      · have hw : wrap64 (t - f) = t - f := by simp only [wrap64]; omega
        have HL := Lib.hid (show n = t - f by rw [LN.out, if_neg h0, if_pos (by omega)])
        clear LN
        go_wp2_with fail
        go_ret
        exact ⟨by rw [HL.out]; rfl, HB1.out⟩
      · have HL := Lib.hid (show n = 1152921504606846976 by rw [LN.out, if_neg h0, if_neg (by omega)])
        clear LN
        go_wp2_with fail
        go_ret
        exact ⟨by rw [HL.out]; rfl, HB1.out⟩
end Go.Proofs.Ytfilbdmenlhoiaa
