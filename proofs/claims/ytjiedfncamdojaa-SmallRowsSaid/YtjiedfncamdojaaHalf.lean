/- Half of an order; vec.Red as a row of the call's own; the document's Dir. -/
import Derived.Test.YtjiedfncamdojaaBut
import Derived.Test.YtjiedfncamdojaaDft3
namespace Go.Proofs.Ytjiedfncamdojaa
open Go.ChangeShapes Go.WideShapes Go.ChangeAt Go.RowKit
set_option linter.unusedVariables false
/-- Half of the order: -1. -/
theorem half_rt {r : Int} {n : Nat} (h1 : fm (r ^ n) = 1) (ho : ∀ m, 0 < m → m < n → fm (r ^ m) ≠ 1) (he : n % 2 = 0) (hn : 0 < n) : fm (r ^ (n / 2)) = fm (-1) := by
  have hu := ho (n / 2) (by omega) (by omega)
  have h2 : fm (r ^ (n / 2) * r ^ (n / 2)) = 1 := by
    rw [← Int.pow_add, show n / 2 + n / 2 = n by omega, h1]
  generalize r ^ (n / 2) = u at *
  have h3 : fm ((u - 1) * (u + 1)) = 0 := by
    have : (u - 1) * (u + 1) = u * u - 1 := by grind
    rw [this, ← fm_sub_l, h2]; rfl
  have h4 : fm (u - 1) ≠ 0 := by
    intro e
    apply hu
    have : fm u = fm (fm (u - 1) + 1) := by rw [fm_add_l]; congr 1; omega
    rw [this, e]; rfl
  have h5 := fm_zero_of_mul h3 h4
  have : fm u = fm (fm (u + 1) + (-1)) := by rw [fm_add_l]; congr 1; omega
  rw [this, h5, Int.zero_add]
theorem c_redown (p : Option Addr) (n c : Nat) (xs : List Int) (w : World) (h : Row w p n xs) : Calls Try.prog 69 #[.slice p n c] w fun e w' => e = .returned (.slice (some ⟨w.heap.size, 0, none⟩) n n) ∧ RowAt w' w.heap.size 24 (redl xs) ∧ Below w.heap.size w w' := by
  obtain ⟨rfl, hr, hw, hs⟩ := h
  refine (vec_red p c xs w hr hw (by omega)).mono fun e w' ⟨he, hq, hb⟩ => ?_
  rw [scl_one] at hq
  exact ⟨he, hq, hb⟩
theorem r10_dirs (dir : Int) (w : World) : Calls Try.prog 43 #[.int .i64 dir] w fun e w' => e = .returned (.bool (decide (dir = 0 ∨ dir = 1))) ∧ w = w' := by
  by_cases h0 : dir = 0
  · subst h0
    go_enter Try.func43, Try.ntmps43
    go_wp2_with fail
    go_ret
    exact ⟨rfl, rfl⟩
  · by_cases h1 : dir = 1
    · subst h1
      go_enter Try.func43, Try.ntmps43
      go_wp2_with fail
      go_ret
      exact ⟨rfl, rfl⟩
    · have HD := Lib.hid (show decide (dir = 0 ∨ dir = 1) = false by simp; omega)
      have d0 : (dir == 0) = false := by simp; omega
      have d1 : (dir == 1) = false := by simp; omega
      go_enter Try.func43, Try.ntmps43
      go_wp2_with fail
      go_ret
      exact ⟨ret_bool HD.out.symm, rfl⟩
end Go.Proofs.Ytjiedfncamdojaa
