/- Package fact: Gcd; the page's example of layer 3. -/
import Derived.Test.YtblohakflpedoaaBase
import Derived.WalkMore
import Derived.Handy
import Derived.Deep.AppendLies
namespace Go.Proofs.Ytblohakflpedoaa
open Go.ChangeShapes Go.WideShapes Go.ChangeAt Go.RowKit
set_option linter.unusedVariables false
/-- The greatest common divisor; 0, if one is below 0. -/
def gcdz (a b : Int) : Int := if a < 0 ∨ b < 0 then 0 else ((Nat.gcd a.toNat b.toNat : Nat) : Int)
theorem gcdz_neg (a b : Int) (h : a < 0 ∨ b < 0) : gcdz a b = 0 := if_pos h
theorem gcdz_nat (a b : Nat) : gcdz a b = ((Nat.gcd a b : Nat) : Int) := by
  unfold gcdz
  rw [if_neg (by omega)]
  simp
theorem fact_gcd (a b : Int) (w : World) (a1 : a ≤ 9223372036854775807) (b1 : b ≤ 9223372036854775807) :
    Calls Try.prog 20 #[.int .i64 a, .int .i64 b] w fun e w' => e = .returned (.int .i64 (gcdz a b)) ∧ Below w.heap.size w w' := by
  have hB := Below.refl w.heap.size w
  by_cases h : a < 0 ∨ b < 0
  · rw [gcdz_neg a b h]
    by_cases ha : a < 0
    · have d1 : decide (a < 0) = true := decide_eq_true ha
      go_enter Try.func20, Try.ntmps20
      go_wp2
      go_ret
      exact ⟨rfl, hB⟩
    · have d1 : decide (a < 0) = false := decide_eq_false ha
      have d2 : decide (b < 0) = true := decide_eq_true (by omega)
      go_enter Try.func20, Try.ntmps20
      go_wp2
      go_ret
      exact ⟨rfl, hB⟩
  · obtain ⟨x, rfl⟩ : ∃ x : Nat, a = x := ⟨a.toNat, by omega⟩
    obtain ⟨y, rfl⟩ : ∃ y : Nat, b = y := ⟨b.toNat, by omega⟩
    rw [gcdz_nat]
    have d1 : decide ((x : Int) < 0) = false := decide_eq_false (by omega)
    have d2 : decide ((y : Int) < 0) = false := decide_eq_false (by omega)
    clear h
    go_enter Try.func20, Try.ntmps20
    go_wp2
    go_loopw [0, 1] (fun s t wr => ∃ u v : Nat, s = .int .i64 u ∧ t = .int .i64 v ∧ u ≤ 9223372036854775807 ∧ v ≤ 9223372036854775807 ∧ Hid (Nat.gcd u v = Nat.gcd x y) ∧ Below w.heap.size w wr) (fun _ t _ => (intOf t).toNat)
    case atStart => exact ⟨x, y, rfl, rfl, by omega, by omega, Lib.hid rfl, hB⟩
    case round =>
      clear hB
      obtain ⟨u, v, rfl, rfl, hu, hv, HG, hB⟩ := hrel
      by_cases v0 : v = 0
      · subst v0
        have HE := Lib.hid (show Nat.gcd x y = u by rw [← HG.out]; simp)
        go_wp2
        go_ret
        exact ⟨by rw [HE.out]; rfl, hB⟩
      · have hz : ((v : Int) == 0) = false := by simp; omega
        have hz2 : ((v : Int) != 0) = true := by simp; omega
        have hmod : ((u : Int)).tmod (v : Int) = ((u % v : Nat) : Int) := by
          rw [Int.tmod_eq_emod_of_nonneg (by omega)]; omega
        have hmod' : ((u : Int)) % (v : Int) = ((u % v : Nat) : Int) := by omega
        have hlt : u % v < v := Nat.mod_lt _ (by omega)
        have HG2 := Lib.hid (show Nat.gcd v (u % v) = Nat.gcd x y by rw [← HG.out, Nat.gcd_comm u v, Nat.gcd_rec v u, Nat.gcd_comm])
        generalize u % v = m at *
        go_wp2_with fail
        go_quiet (fail)
        go_wp2_with fail
        go_roundw
        case rel => exact ⟨v, m, rfl, rfl, by omega, by omega, HG2, below_drewN hB _⟩
        case measure => (first | (simp [intOf]; done) | (simp [intOf]; omega) | (simp only [intOf]; omega))
end Go.Proofs.Ytblohakflpedoaa
