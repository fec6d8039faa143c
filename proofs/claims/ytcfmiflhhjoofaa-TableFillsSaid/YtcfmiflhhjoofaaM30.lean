/- Put together by program (merge.py): Geo2 Ord Geo3 Chk. -/
import Derived.Test.YtcfmiflhhjoofaaM13
import Derived.Test.YtcfmiflhhjoofaaM15
import Derived.Test.YtcfmiflhhjoofaaM29
/- Transforms as double sums. Plain numbers: no Go text. -/
namespace Go.Proofs.Ytcfmiflhhjoofaa
open Go.ChangeShapes Go.WideShapes Go.ChangeAt Go.RowKit
set_option linter.unusedVariables false
/-- A polynomial at a place. -/
def ps (st : Int) : List Int → Int
  | [] => 0
  | x :: r => x + st * ps st r
theorem hor_ps (st : Int) : ∀ xs, hor st xs = fm (ps st xs)
  | [] => rfl
  | x :: r => by
    have e1 : hor st (x :: r) = fm (fm (hor st r * st) + x) := rfl
    have e2 : ps st (x :: r) = x + st * ps st r := rfl
    rw [e1, e2, hor_ps st r, fm_mul_l, fm_add_l]
    congr 1
    grind
/-- The sum of t^i times the polynomial at r^i, for i below n. -/
def dsum (r t : Int) (xs : List Int) : Nat → Int
  | 0 => 0
  | i + 1 => dsum r t xs i + t ^ i * ps (r ^ i) xs
/-- The sum of x_j times the sum of the first n powers of t r^j. -/
def esum (r : Int) (n : Nat) : Int → List Int → Int
  | _, [] => 0
  | t, x :: rest => x * gsum t n + esum r n (t * r) rest
theorem dsum_nil (r t : Int) : ∀ n, dsum r t [] n = 0
  | 0 => rfl
  | i + 1 => by
    have e : dsum r t [] (i + 1) = dsum r t [] i + t ^ i * ps (r ^ i) [] := rfl
    rw [e, dsum_nil r t i]
    simp [ps]
theorem dsum_cons (r t x : Int) (rest : List Int) : ∀ n, dsum r t (x :: rest) n = x * gsum t n + dsum r (t * r) rest n
  | 0 => by simp [dsum, gsum]
  | i + 1 => by
    have e1 : dsum r t (x :: rest) (i + 1) = dsum r t (x :: rest) i + t ^ i * (x + r ^ i * ps (r ^ i) rest) := rfl
    have e2 : dsum r (t * r) rest (i + 1) = dsum r (t * r) rest i + (t * r) ^ i * ps (r ^ i) rest := rfl
    have e3 : gsum t (i + 1) = gsum t i + t ^ i := rfl
    rw [e1, e2, e3, dsum_cons r t x rest i, Int.mul_pow]
    grind
theorem dsum_esum (r : Int) (n : Nat) : ∀ (xs : List Int) (t : Int), dsum r t xs n = esum r n t xs
  | [], t => dsum_nil r t n
  | x :: rest, t => by
    have e : esum r n t (x :: rest) = x * gsum t n + esum r n (t * r) rest := rfl
    rw [dsum_cons, dsum_esum r n rest (t * r), e]
end Go.Proofs.Ytcfmiflhhjoofaa
/- A root's order is its size: no lesser power is 1. Plain numbers: no Go text. -/
namespace Go.Proofs.Ytcfmiflhhjoofaa
open Go.ChangeShapes Go.WideShapes Go.ChangeAt Go.RowKit
set_option linter.unusedVariables false
theorem prm2 : Fld.Prm 2 := by
  refine ⟨by omega, fun d hd => ?_⟩
  have h1 := Nat.le_of_dvd (by omega) hd
  have h2 : d ≠ 0 := by
    intro e
    subst e
    simp at hd
  omega
theorem prm3 : Fld.Prm 3 := Fld.proth (P := 3) (b := 2) (e := 0) (by decide) (by decide +kernel) (by decide) (by decide)
theorem prm5 : Fld.Prm 5 := Fld.proth (P := 5) (b := 2) (e := 1) (by decide) (by decide +kernel) (by decide) (by decide)
theorem prm17 : Fld.Prm 17 := Fld.proth (P := 17) (b := 3) (e := 3) (by decide) (by decide +kernel) (by decide) (by decide)
theorem prm257 : Fld.Prm 257 := Fld.proth (P := 257) (b := 3) (e := 7) (by decide) (by decide +kernel) (by decide) (by decide)
theorem prm65537 : Fld.Prm 65537 := Fld.proth (P := 65537) (b := 3) (e := 15) (by decide) ((Fld.sqs_eq 65537 3 15).trans (by decide +kernel)) (by decide) (by decide)
/-- What divides P - 1 and is not 1 has one of its primes. -/
theorem prime_part (d : Nat) (h1 : 1 < d) (hd : d ∣ 18446744069414584320) : 2 ∣ d ∨ 3 ∣ d ∨ 5 ∣ d ∨ 17 ∣ d ∨ 257 ∣ d ∨ 65537 ∣ d := by
  by_cases a2 : 2 ∣ d
  · exact .inl a2
  by_cases a3 : 3 ∣ d
  · exact .inr (.inl a3)
  by_cases a5 : 5 ∣ d
  · exact .inr (.inr (.inl a5))
  by_cases a17 : 17 ∣ d
  · exact .inr (.inr (.inr (.inl a17)))
  by_cases a257 : 257 ∣ d
  · exact .inr (.inr (.inr (.inr (.inl a257))))
  by_cases a65537 : 65537 ∣ d
  · exact .inr (.inr (.inr (.inr (.inr a65537))))
  have c2 := (prm2.coprime a2).symm
  have c3 := (prm3.coprime a3).symm
  have c5 := (prm5.coprime a5).symm
  have c17 := (prm17.coprime a17).symm
  have c257 := (prm257.coprime a257).symm
  have c65537 := (prm65537.coprime a65537).symm
  have c : Nat.Coprime d (2 ^ 32 * 3 * 5 * 17 * 257 * 65537) := (((((c2.pow_right 32).mul_right c3).mul_right c5).mul_right c17).mul_right c257).mul_right c65537
  have e : 2 ^ 32 * 3 * 5 * 17 * 257 * 65537 = 18446744069414584320 := by decide
  rw [e] at c
  have := Nat.Coprime.eq_one_of_dvd c hd
  omega
theorem one_mul_exp {r : Int} {a : Nat} (h : fm (r ^ a) = 1) (k : Nat) : fm (r ^ (a * k)) = 1 := by
  rw [Int.pow_mul, ← Fld.fm_pow1, h, Int.one_pow]
  rfl
theorem one_mod {r : Int} {a b : Nat} (ha : fm (r ^ a) = 1) (hb : fm (r ^ b) = 1) : fm (r ^ (b % a)) = 1 := by
  have e : r ^ b = r ^ (a * (b / a)) * r ^ (b % a) := by rw [← Int.pow_add, Nat.div_add_mod]
  rw [e, ← fm_mul_l, one_mul_exp ha, Int.one_mul] at hb
  exact hb
theorem one_gcd {r : Int} : ∀ (n a b : Nat), a ≤ n → fm (r ^ a) = 1 → fm (r ^ b) = 1 → fm (r ^ Nat.gcd a b) = 1
  | 0, a, b, h, ha, hb => by
    have : a = 0 := by omega
    subst this
    simpa using hb
  | n + 1, a, b, h, ha, hb => by
    by_cases a0 : a = 0
    · subst a0; simpa using hb
    · rw [Nat.gcd_rec]
      exact one_gcd n (b % a) a (by have := Nat.mod_lt b (show 0 < a by omega); omega) (one_mod ha hb) ha
/-- The least power that is 1. -/
theorem order_least {r : Int} {n m : Nat} (hn : 1 ≤ n) (hd : n ∣ 18446744069414584320) (h1 : fm (r ^ n) = 1) (hq : ∀ q, (q = 2 ∨ q = 3 ∨ q = 5 ∨ q = 17 ∨ q = 257 ∨ q = 65537) → q ∣ n → fm (r ^ (n / q)) ≠ 1) (hm : 0 < m) (hmn : m < n) : fm (r ^ m) ≠ 1 := by
  intro e
  have g1 := one_gcd m m n (Nat.le_refl _) e h1
  have gn := Nat.gcd_dvd_right m n
  have gm := Nat.gcd_dvd_left m n
  generalize Nat.gcd m n = g at *
  obtain ⟨d, rfl⟩ := gn
  have g0 : 0 < g := by
    by_cases h : g = 0
    · subst h; simp at hn
    · omega
  have gle : g ≤ m := Nat.le_of_dvd hm gm
  have d1 : 1 < d := by
    by_cases h : d ≤ 1
    · have : g * d ≤ g * 1 := Nat.mul_le_mul_left g h
      omega
    · omega
  have hp := prime_part d d1 (Nat.dvd_trans ⟨g, Nat.mul_comm _ _⟩ hd)
  have key : ∀ q, (q = 2 ∨ q = 3 ∨ q = 5 ∨ q = 17 ∨ q = 257 ∨ q = 65537) → ¬ q ∣ d := by
    intro q hqq hqd
    obtain ⟨t, rfl⟩ := hqd
    have q0 : 0 < q := by omega
    refine hq q hqq ⟨g * t, by rw [← Nat.mul_assoc, Nat.mul_comm g q, Nat.mul_assoc]⟩ ?_
    have e2 : g * (q * t) / q = g * t := by
      rw [show g * (q * t) = q * (g * t) by rw [← Nat.mul_assoc, Nat.mul_comm g q, Nat.mul_assoc]]
      exact Nat.mul_div_cancel_left _ q0
    rw [e2]
    exact one_mul_exp g1 t
  rcases hp with h | h | h | h | h | h
  · exact key 2 (by omega) h
  · exact key 3 (by omega) h
  · exact key 5 (by omega) h
  · exact key 17 (by omega) h
  · exact key 257 (by omega) h
  · exact key 65537 (by omega) h
end Go.Proofs.Ytcfmiflhhjoofaa
/- Twice transformed: the sums. Plain numbers: no Go text. -/
namespace Go.Proofs.Ytcfmiflhhjoofaa
open Go.ChangeShapes Go.WideShapes Go.ChangeAt Go.RowKit
set_option linter.unusedVariables false
theorem ps_congr {a b : Int} (h : fm a = fm b) : ∀ xs ys : List Int, xs.map fm = ys.map fm → fm (ps a xs) = fm (ps b ys)
  | [], [], _ => rfl
  | [], _ :: _, e => by simp at e
  | _ :: _, [], e => by simp at e
  | x :: r, y :: s, e => by
    simp only [List.map_cons, List.cons.injEq] at e
    have e1 : ps a (x :: r) = x + a * ps a r := rfl
    have e2 : ps b (y :: s) = y + b * ps b s := rfl
    rw [e1, e2, ← fm_add_fm, ← fm_mul_fm, e.1, h, ps_congr h r s e.2, fm_mul_fm, fm_add_fm]
theorem ps_snoc (st y : Int) : ∀ l : List Int, ps st (l ++ [y]) = ps st l + st ^ l.length * y
  | [] => by simp [ps]
  | x :: r => by
    have e1 : ps st (x :: r ++ [y]) = x + st * ps st (r ++ [y]) := rfl
    have e2 : ps st (x :: r) = x + st * ps st r := rfl
    rw [e1, e2, ps_snoc st y r, List.length_cons, Int.pow_succ]
    grind
theorem ps_range (r st : Int) (xs : List Int) : ∀ n : Nat, ps st ((List.range n).map fun i => ps (r ^ i) xs) = dsum r st xs n
  | 0 => rfl
  | i + 1 => by
    rw [List.range_succ, List.map_append, List.map_cons, List.map_nil, ps_snoc, ps_range r st xs i]
    simp [dsum]
theorem twice_at (r s : Int) (xs : List Int) (n k : Nat) (hk : k < n) : (horl s (horl r xs n) n).getD k 0 = fm (esum r n (s ^ k) xs) := by
  rw [horl_at s _ n k hk, hor_ps, ← dsum_esum, ← ps_range]
  apply ps_congr (fm_fm _)
  unfold horl
  rw [List.map_map, List.map_map]
  apply List.map_congr_left
  intro i _
  show fm (hor (fm (r ^ i)) xs) = fm (ps (r ^ i) xs)
  rw [hor_ps, fm_fm]
  exact ps_congr (fm_fm _) xs xs rfl
theorem shift_pow (t r : Int) (j : Nat) : t * r * r ^ j = t * r ^ (j + 1) := by rw [Int.pow_succ]; grind
theorem esum_none (r : Int) (n : Nat) : ∀ (xs : List Int) (t : Int), (∀ j, j < xs.length → fm ((t * r ^ j) ^ n) = 1 ∧ fm (t * r ^ j) ≠ 1) → fm (esum r n t xs) = 0
  | [], t, _ => rfl
  | x :: rest, t, h => by
    have e : esum r n t (x :: rest) = x * gsum t n + esum r n (t * r) rest := rfl
    have h0 := h 0 (by simp)
    rw [Int.pow_zero, Int.mul_one] at h0
    have g := gsum_zero t n h0.1 h0.2
    have i := esum_none r n rest (t * r) (fun j hj => by rw [shift_pow]; exact h (j + 1) (by simp; omega))
    rw [e, ← fm_add_fm, i, ← fm_mul_r, g, Int.mul_zero]
    rfl
theorem esum_at (r : Int) (n : Nat) : ∀ (xs : List Int) (t : Int) (k : Nat), k < xs.length → (∀ j, j < xs.length → fm ((t * r ^ j) ^ n) = 1) → (∀ j, j < xs.length → j ≠ k → fm (t * r ^ j) ≠ 1) → fm (t * r ^ k) = 1 → fm (esum r n t xs) = fm (n * xs.getD k 0)
  | [], _, _, h, _, _, _ => by simp at h
  | x :: rest, t, 0, h, h1, h2, h3 => by
    have e : esum r n t (x :: rest) = x * gsum t n + esum r n (t * r) rest := rfl
    rw [Int.pow_zero, Int.mul_one] at h3
    have i := esum_none r n rest (t * r) (fun j hj => by rw [shift_pow]; exact ⟨h1 (j + 1) (by simp; omega), h2 (j + 1) (by simp; omega) (by omega)⟩)
    rw [e, ← fm_add_fm, i, ← fm_mul_r, gsum_one t h3 n, fm_mul_r, Int.add_zero, fm_fm, Int.mul_comm]
    rfl
  | x :: rest, t, k + 1, h, h1, h2, h3 => by
    have e : esum r n t (x :: rest) = x * gsum t n + esum r n (t * r) rest := rfl
    have z1 := h1 0 (by simp)
    have z2 := h2 0 (by simp) (by omega)
    rw [Int.pow_zero, Int.mul_one] at z1 z2
    have g := gsum_zero t n z1 z2
    have i := esum_at r n rest (t * r) k (by simpa using h) (fun j hj => by rw [shift_pow]; exact h1 (j + 1) (by simp; omega)) (fun j hj hne => by rw [shift_pow]; exact h2 (j + 1) (by simp; omega) (by omega)) (by rw [shift_pow]; exact h3)
    rw [e, ← fm_add_fm, i, ← fm_mul_r, g, Int.mul_zero]
    have e0 : fm 0 = 0 := rfl
    rw [e0, Int.zero_add, fm_fm]
    rfl
end Go.Proofs.Ytcfmiflhhjoofaa
/- What may be transformed: package dft's check, and the reference's. -/
namespace Go.Proofs.Ytcfmiflhhjoofaa
open Go.ChangeShapes Go.WideShapes Go.ChangeAt Go.RowKit
set_option linter.unusedVariables false
/-- The error of what may not be transformed. -/
def chk (n dir : Int) : Int := if dir = 0 ∨ dir = 1 then (if hasb n = false then 4 else if 4096 < n then 12 else 0) else 2
theorem chk_dir (n dir : Int) (h : dir = 0 ∨ dir = 1) : chk n dir = if hasb n = false then 4 else if 4096 < n then 12 else 0 := if_pos h
theorem chk_no (n dir : Int) (h : ¬ (dir = 0 ∨ dir = 1)) : chk n dir = 2 := if_neg h
end Go.Proofs.Ytcfmiflhhjoofaa
