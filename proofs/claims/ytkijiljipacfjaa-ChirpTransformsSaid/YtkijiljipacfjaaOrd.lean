/- A root's order is its size: no lesser power is 1. Plain numbers: no Go text. -/
import Derived.Test.YtkijiljipacfjaaGeo2
import Derived.Test.YtkijiljipacfjaaLRootTells
namespace Go.Proofs.Ytkijiljipacfjaa
open Go.ChangeShapes Go.WideShapes Go.ChangeAt Go.RowKit
set_option linter.unusedVariables false
theorem prm2 : Fld.Prm 2 := by
  refine ⟨by omega, fun d hd => ?_⟩
  have h1 := Nat.le_of_dvd (by omega) hd
  have h2 : d ≠ 0 := by
    intro e
    subst e
    simp at hd
  omega
theorem prm3 : Fld.Prm 3 := Fld.proth (P := 3) (b := 2) (e := 0) (by decide) (by decide +kernel) (by decide) (by decide)
theorem prm5 : Fld.Prm 5 := Fld.proth (P := 5) (b := 2) (e := 1) (by decide) (by decide +kernel) (by decide) (by decide)
theorem prm17 : Fld.Prm 17 := Fld.proth (P := 17) (b := 3) (e := 3) (by decide) (by decide +kernel) (by decide) (by decide)
theorem prm257 : Fld.Prm 257 := Fld.proth (P := 257) (b := 3) (e := 7) (by decide) (by decide +kernel) (by decide) (by decide)
theorem prm65537 : Fld.Prm 65537 := Fld.proth (P := 65537) (b := 3) (e := 15) (by decide) ((Fld.sqs_eq 65537 3 15).trans (by decide +kernel)) (by decide) (by decide)
/-- What divides P - 1 and is not 1 has one of its primes. -/
theorem prime_part (d : Nat) (h1 : 1 < d) (hd : d ∣ 18446744069414584320) : 2 ∣ d ∨ 3 ∣ d ∨ 5 ∣ d ∨ 17 ∣ d ∨ 257 ∣ d ∨ 65537 ∣ d := by
  by_cases a2 : 2 ∣ d
  · exact .inl a2
  by_cases a3 : 3 ∣ d
  · exact .inr (.inl a3)
  by_cases a5 : 5 ∣ d
  · exact .inr (.inr (.inl a5))
  by_cases a17 : 17 ∣ d
  · exact .inr (.inr (.inr (.inl a17)))
  by_cases a257 : 257 ∣ d
  · exact .inr (.inr (.inr (.inr (.inl a257))))
  by_cases a65537 : 65537 ∣ d
  · exact .inr (.inr (.inr (.inr (.inr a65537))))
  have c2 := (prm2.coprime a2).symm
  have c3 := (prm3.coprime a3).symm
  have c5 := (prm5.coprime a5).symm
  have c17 := (prm17.coprime a17).symm
  have c257 := (prm257.coprime a257).symm
  have c65537 := (prm65537.coprime a65537).symm
  have c : Nat.Coprime d (2 ^ 32 * 3 * 5 * 17 * 257 * 65537) := (((((c2.pow_right 32).mul_right c3).mul_right c5).mul_right c17).mul_right c257).mul_right c65537
  have e : 2 ^ 32 * 3 * 5 * 17 * 257 * 65537 = 18446744069414584320 := by decide
  rw [e] at c
  have := Nat.Coprime.eq_one_of_dvd c hd
  omega
theorem one_mul_exp {r : Int} {a : Nat} (h : fm (r ^ a) = 1) (k : Nat) : fm (r ^ (a * k)) = 1 := by
  rw [Int.pow_mul, ← Fld.fm_pow1, h, Int.one_pow]
  rfl
theorem one_mod {r : Int} {a b : Nat} (ha : fm (r ^ a) = 1) (hb : fm (r ^ b) = 1) : fm (r ^ (b % a)) = 1 := by
  have e : r ^ b = r ^ (a * (b / a)) * r ^ (b % a) := by rw [← Int.pow_add, Nat.div_add_mod]
  rw [e, ← fm_mul_l, one_mul_exp ha, Int.one_mul] at hb
  exact hb
theorem one_gcd {r : Int} : ∀ (n a b : Nat), a ≤ n → fm (r ^ a) = 1 → fm (r ^ b) = 1 → fm (r ^ Nat.gcd a b) = 1
  | 0, a, b, h, ha, hb => by
    have : a = 0 := by omega
    subst this
    simpa using hb
  | n + 1, a, b, h, ha, hb => by
    by_cases a0 : a = 0
    · subst a0; simpa using hb
    · rw [Nat.gcd_rec]
      exact one_gcd n (b % a) a (by have := Nat.mod_lt b (show 0 < a by omega); omega) (one_mod ha hb) ha
/-- The least power that is 1. -/
theorem order_least {r : Int} {n m : Nat} (hn : 1 ≤ n) (hd : n ∣ 18446744069414584320) (h1 : fm (r ^ n) = 1) (hq : ∀ q, (q = 2 ∨ q = 3 ∨ q = 5 ∨ q = 17 ∨ q = 257 ∨ q = 65537) → q ∣ n → fm (r ^ (n / q)) ≠ 1) (hm : 0 < m) (hmn : m < n) : fm (r ^ m) ≠ 1 := by
  intro e
  have g1 := one_gcd m m n (Nat.le_refl _) e h1
  have gn := Nat.gcd_dvd_right m n
  have gm := Nat.gcd_dvd_left m n
  generalize Nat.gcd m n = g at *
  obtain ⟨d, rfl⟩ := gn
  have g0 : 0 < g := by
    by_cases h : g = 0
    · subst h; simp at hn
    · omega
  have gle : g ≤ m := Nat.le_of_dvd hm gm
  have d1 : 1 < d := by
    by_cases h : d ≤ 1
    · have : g * d ≤ g * 1 := Nat.mul_le_mul_left g h
      omega
    · omega
  have hp := prime_part d d1 (Nat.dvd_trans ⟨g, Nat.mul_comm _ _⟩ hd)
  have key : ∀ q, (q = 2 ∨ q = 3 ∨ q = 5 ∨ q = 17 ∨ q = 257 ∨ q = 65537) → ¬ q ∣ d := by
    intro q hqq hqd
    obtain ⟨t, rfl⟩ := hqd
    have q0 : 0 < q := by omega
    refine hq q hqq ⟨g * t, by rw [← Nat.mul_assoc, Nat.mul_comm g q, Nat.mul_assoc]⟩ ?_
    have e2 : g * (q * t) / q = g * t := by
      rw [show g * (q * t) = q * (g * t) by rw [← Nat.mul_assoc, Nat.mul_comm g q, Nat.mul_assoc]]
      exact Nat.mul_div_cancel_left _ q0
    rw [e2]
    exact one_mul_exp g1 t
  rcases hp with h | h | h | h | h | h
  · exact key 2 (by omega) h
  · exact key 3 (by omega) h
  · exact key 5 (by omega) h
  · exact key 17 (by omega) h
  · exact key 257 (by omega) h
  · exact key 65537 (by omega) h
end Go.Proofs.Ytkijiljipacfjaa
