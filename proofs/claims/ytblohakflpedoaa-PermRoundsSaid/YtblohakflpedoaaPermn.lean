/- Tables of coprime sides: plain numbers. -/
import Derived.Test.YtblohakflpedoaaPerm4
namespace Go.Proofs.Ytblohakflpedoaa
open Go.ChangeShapes Go.WideShapes Go.ChangeAt Go.RowKit
set_option linter.unusedVariables false
theorem cancel_mod {a b x y : Nat} (hg : Nat.gcd a b = 1) (h : (x * b) % a = (y * b) % a) : x % a = y % a := by
  have key : ∀ x y : Nat, x ≤ y → (x * b) % a = (y * b) % a → x % a = y % a := by
    intro x y hle h
    have d := mod_dvd (Nat.mul_le_mul_right b hle) h
    rw [← Nat.sub_mul] at d
    obtain ⟨c, hc⟩ := Nat.Coprime.dvd_of_dvd_mul_right hg d
    have e : y = x + a * c := by omega
    rw [e, Nat.add_mul_mod_self_left]
  rcases Nat.le_total x y with e | e
  · exact key x y e h
  · exact (key y x e h.symm).symm
theorem mod_a (a b x : Nat) : x % (a * b) % a = x % a := Nat.mod_mul_right_mod x a b
theorem mod_b (a b x : Nat) : x % (a * b) % b = x % b := Nat.mod_mul_left_mod x a b
theorem parts_eq {b i j : Nat} (h1 : i / b = j / b) (h2 : i % b = j % b) : i = j := by
  rw [← Nat.div_add_mod i b, ← Nat.div_add_mod j b, h1, h2]
theorem good_inj {a b i j : Nat} (hg : Nat.gcd a b = 1) (hi : i < a * b) (hj : j < a * b) (h : gridn a b b a i = gridn a b b a j) : i = j := by
  unfold gridn at h
  have ia : i / b < a := Nat.div_lt_of_lt_mul (by rw [Nat.mul_comm]; exact hi)
  have ja : j / b < a := Nat.div_lt_of_lt_mul (by rw [Nat.mul_comm]; exact hj)
  apply parts_eq (b := b)
  · have e := congrArg (· % a) h
    simp only [mod_a, Nat.add_mul_mod_self_right] at e
    have := cancel_mod hg e
    rwa [Nat.mod_eq_of_lt ia, Nat.mod_eq_of_lt ja] at this
  · have e := congrArg (· % b) h
    simp only [mod_b, Nat.mul_add_mod_self_right] at e
    have := cancel_mod (by rw [Nat.gcd_comm]; exact hg) e
    rwa [Nat.mod_mod, Nat.mod_mod] at this
theorem crt_parts {a b u v k : Nat} (hu : b * u % a = 1 % a) (hv : a * v % b = 1 % b) (hk : k < a * b) :
    gridn a b (b * u) (a * v) k % a = k / b ∧ gridn a b (b * u) (a * v) k % b = k % b ∧ gridn a b (b * u) (a * v) k < a * b := by
  have ka : k / b < a := Nat.div_lt_of_lt_mul (by rw [Nat.mul_comm]; exact hk)
  unfold gridn
  refine ⟨?_, ?_, Nat.mod_lt _ (by omega)⟩
  · rw [mod_a, show k % b * (a * v) = k % b * v * a by grind, Nat.add_mul_mod_self_right, Nat.mul_mod, hu, ← Nat.mul_mod, Nat.mul_one, Nat.mod_eq_of_lt ka]
  · rw [mod_b, show k / b * (b * u) = k / b * u * b by grind, Nat.mul_add_mod_self_right, Nat.mul_mod, hv, ← Nat.mul_mod, Nat.mul_one, Nat.mod_mod]
theorem crt_inj {a b u v i j : Nat} (hu : b * u % a = 1 % a) (hv : a * v % b = 1 % b) (hi : i < a * b) (hj : j < a * b) (h : gridn a b (b * u) (a * v) i = gridn a b (b * u) (a * v) j) : i = j := by
  obtain ⟨p1, p2, _⟩ := crt_parts hu hv hi
  obtain ⟨q1, q2, _⟩ := crt_parts hu hv hj
  rw [h] at p1 p2
  exact parts_eq (by rw [← p1, q1]) (by rw [← p2, q2])
theorem gridl_right {a b d l : Nat} (h0 : 0 < a * b) (hi : ∀ i j, i < a * b → j < a * b → gridn a b d l i = gridn a b d l j → i = j) : rgt (gridl a b d l) (a * b) (a * b) = true := by
  apply rgt_of
  · intro j hj
    rw [gridl_at _ _ _ _ _ hj]
    have : gridn a b d l j < a * b := Nat.mod_lt _ h0
    omega
  · intro i j hij hj e
    rw [gridl_at _ _ _ _ _ (by omega : i < a * b), gridl_at _ _ _ _ _ hj] at e
    have := hi i j (by omega) hj (Int.ofNat_inj.1 e)
    omega
/-- Where the search for the number ends. -/
theorem crt_search {a b u v k N : Nat} (hg : Nat.gcd a b = 1) (hu : b * u % a = 1 % a) (hv : a * v % b = 1 % b) (hk : k < a * b) (hN : gridn a b (b * u) (a * v) k = N) :
    k % b + N / b * b = N ∧ N < a * b ∧ ∀ i, i ≤ N / b → ((k % b + i * b) % a = k / b ↔ i = N / b) := by
  obtain ⟨p1, p2, p3⟩ := crt_parts hu hv hk
  rw [hN] at p1 p2 p3
  have hb : 0 < b := Nat.pos_of_ne_zero fun e => by subst e; simp at hk
  have e0 : k % b + N / b * b = N := by
    have := Nat.div_add_mod N b
    rw [p2, Nat.mul_comm] at this
    omega
  refine ⟨e0, p3, fun i hi => ⟨fun h => ?_, fun h => by rw [h, e0, p1]⟩⟩
  have hle : i * b ≤ N / b * b := Nat.mul_le_mul_right b hi
  have := crt_uniq hg (x := k % b + i * b) (y := N) (by omega) p3 (by rw [h, p1]) (by rw [Nat.add_mul_mod_self_right, Nat.mod_mod, p2])
  have e2 : i * b = N / b * b := by omega
  exact Nat.eq_of_mul_eq_mul_right hb e2
end Go.Proofs.Ytblohakflpedoaa
