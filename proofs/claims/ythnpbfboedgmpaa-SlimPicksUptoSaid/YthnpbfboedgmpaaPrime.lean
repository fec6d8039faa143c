/- P = 2^64 - 2^32 + 1 is a prime, by Proth's theorem; Fermat and inverses for the field's numbers. Plain numbers: no Go text. -/
import Derived.Test.YthnpbfboedgmpaaField
namespace Go.Proofs.Ythnpbfboedgmpaa.Fld

theorem odd_part : ∀ t : Nat, 0 < t → ∃ s o, t = 2 ^ s * (2 * o + 1) := by
  intro t
  induction t using Nat.strongRecOn with
  | ind t ih =>
    intro h
    by_cases h2 : t % 2 = 1
    · exact ⟨0, t / 2, by omega⟩
    · obtain ⟨s, o, e⟩ := ih (t / 2) (by omega) (by omega)
      refine ⟨s + 1, o, ?_⟩
      rw [Nat.pow_succ, Nat.mul_right_comm, ← e]; omega

theorem pow_one_mod {b d t m : Nat} (h : b ^ t % d = 1 % d) : b ^ (t * m) % d = 1 % d := by
  rw [Nat.pow_mul, Nat.pow_mod, h, ← Nat.pow_mod, Nat.one_pow]

theorem pow_odd_mod {x d : Nat} (h : x * x % d = 1 % d) : ∀ o, x ^ (2 * o + 1) % d = x % d
  | 0 => by simp
  | o + 1 => by
    have e : x ^ (2 * (o + 1) + 1) = x ^ (2 * o + 1) * (x * x) := by
      rw [show 2 * (o + 1) + 1 = 2 * o + 1 + 1 + 1 from by omega, Nat.pow_succ, Nat.pow_succ, Nat.mul_assoc]
    rw [e, Nat.mul_mod, h, ← Nat.mul_mod, Nat.mul_one, pow_odd_mod h o]

/-- A divisor from 2 on of a number P, to which some b says b^(2^e) = -1, is at least 2^(e+1). -/
theorem proth_div {P b e d : Nat} (hP : P % 2 = 1) (h : b ^ 2 ^ e % P = P - 1) (hd : d ∣ P) (h2 : 2 ≤ d) (h1 : 0 < P) : 2 ^ (e + 1) ≤ d := by
  have hd2 : d % 2 = 1 := by
    obtain ⟨c, hc⟩ := hd
    have : d % 2 = 0 ∨ d % 2 = 1 := by omega
    rcases this with h0 | h0
    · have : (d * c) % 2 = 0 := by rw [Nat.mul_mod, h0]; simp
      rw [← hc] at this; omega
    · exact h0
  have hle := Nat.le_of_dvd h1 hd
  generalize hx : b ^ 2 ^ e = x at h
  have hxd : x % d = d - 1 := by
    have e1 : x % d = (x % P) % d := (Nat.mod_mod_of_dvd x hd).symm
    rw [e1, h]
    obtain ⟨c, hc⟩ := hd
    have hc0 : 0 < c := by rcases Nat.eq_zero_or_pos c with h0 | h0; (· rw [h0] at hc; omega); exact h0
    obtain ⟨c', rfl⟩ : ∃ c', c = c' + 1 := ⟨c - 1, by omega⟩
    have : P - 1 = (d - 1) + d * c' := by rw [hc, Nat.mul_add, Nat.mul_one]; omega
    rw [this, Nat.add_mul_mod_self_left, Nat.mod_eq_of_lt (by omega)]
  have hxx : x * x % d = 1 % d := by
    rw [Nat.mul_mod, hxd]
    obtain ⟨q, rfl⟩ : ∃ q, d = q + 2 := ⟨d - 2, by omega⟩
    have : (q + 2 - 1) * (q + 2 - 1) = 1 + (q + 2) * q := by
      rw [show q + 2 - 1 = q + 1 from by omega]; grind
    rw [this, Nat.add_mul_mod_self_left]
  have hxn : ¬ x % d = 1 % d := by
    rw [hxd, Nat.mod_eq_of_lt (by omega)]; omega
  have hfull : b ^ 2 ^ (e + 1) % d = 1 % d := by
    rw [Nat.pow_succ, Nat.pow_mul, hx, Nat.pow_succ, Nat.pow_one, hxx]
  refine drawers d (2 ^ (e + 1)) (fun i => b ^ i % d) (fun i _ => Nat.mod_lt _ (by omega)) ?_
  have key : ∀ i j, i < j → j < 2 ^ (e + 1) → b ^ i % d = b ^ j % d → False := by
    intro i j hij hj he
    have ht : b ^ (j - i) % d = 1 % d := by
      have e1 : b ^ (2 ^ (e + 1)) * b ^ (j - i) = b ^ (2 ^ (e + 1) - i) * b ^ j := by
        rw [← Nat.pow_add, ← Nat.pow_add]; congr 1; omega
      have e2 : b ^ (2 ^ (e + 1) - i) * b ^ i = b ^ 2 ^ (e + 1) := by
        rw [← Nat.pow_add]; congr 1; omega
      have e3 : (b ^ 2 ^ (e + 1) * b ^ (j - i)) % d = b ^ (j - i) % d := by
        rw [Nat.mul_mod, hfull, ← Nat.mul_mod, Nat.one_mul]
      rw [← e3, e1, Nat.mul_mod, ← he, ← Nat.mul_mod, e2, hfull]
    obtain ⟨s, o, hs⟩ := odd_part (j - i) (by omega)
    have hse : s ≤ e := by
      rcases Nat.lt_or_ge e s with hlt | hge
      · have h3 : 2 ^ (e + 1) ≤ 2 ^ s := Nat.pow_le_pow_right (by omega) (by omega)
        have h4 : 2 ^ s ≤ 2 ^ s * (2 * o + 1) := Nat.le_mul_of_pos_right _ (by omega)
        omega
      · exact hge
    have h5 : b ^ ((j - i) * 2 ^ (e - s)) % d = 1 % d := pow_one_mod ht
    have h6 : (j - i) * 2 ^ (e - s) = 2 ^ e * (2 * o + 1) := by
      have : 2 ^ e = 2 ^ s * 2 ^ (e - s) := by rw [← Nat.pow_add]; congr 1; omega
      rw [hs, this]; grind
    rw [h6, Nat.pow_mul, hx, pow_odd_mod hxx o] at h5
    exact hxn h5
  intro i j hi hj he
  rcases Nat.lt_trichotomy i j with h | h | h
  · exact (key i j h hj he).elim
  · exact h
  · exact (key j i h hi he.symm).elim

theorem proth {P b e : Nat} (hP : P % 2 = 1) (h : b ^ 2 ^ e % P = P - 1) (h1 : 2 ≤ P) (hlt : P < 2 ^ (e + 1) * 2 ^ (e + 1)) : Prm P := by
  refine ⟨h1, fun d hd => ?_⟩
  obtain ⟨c, hc⟩ := hd
  have hpos : 0 < P := by omega
  by_cases hd1 : d = 1
  · exact .inl hd1
  by_cases hc1 : c = 1
  · right; rw [hc, hc1, Nat.mul_one]
  exfalso
  have hd0 : d ≠ 0 := fun h0 => by rw [h0, Nat.zero_mul] at hc; omega
  have hc0 : c ≠ 0 := fun h0 => by rw [h0, Nat.mul_zero] at hc; omega
  have k1 := proth_div hP h ⟨c, hc⟩ (by omega) hpos
  have k2 := proth_div hP h ⟨d, by rw [hc, Nat.mul_comm]⟩ (by omega) hpos
  have := Nat.mul_le_mul k1 k2
  omega

/-- Squares, one behind the other, modulo P. -/
def sqs (P : Nat) : Nat → Nat → Nat
  | b, 0 => b % P
  | b, e + 1 => let x := sqs P b e; x * x % P
theorem sqs_eq (P b : Nat) : ∀ e, b ^ 2 ^ e % P = sqs P b e
  | 0 => by simp [sqs]
  | e + 1 => by
    show _ = sqs P b e * sqs P b e % P
    rw [← sqs_eq P b e, Nat.pow_succ, Nat.pow_mul, Nat.pow_succ, Nat.pow_one, Nat.mul_mod]

/-- P, as a number of its own. -/
def Pn : Nat := 18446744069414584321
/-- An element of order 2^32. -/
def gen : Nat := 1753635133440165772
theorem gen_sq : sqs Pn gen 31 = Pn - 1 := by decide +kernel
theorem P_prime : Prm Pn := proth (P := Pn) (b := gen) (e := 31) (by decide +kernel) ((sqs_eq Pn gen 31).trans gen_sq) (by decide +kernel) (by decide +kernel)

theorem fm_cast (n : Nat) : fm (n : Int) = ((n % Pn : Nat) : Int) := by unfold fm Pn; omega

def p1 : Nat := 18446744069414584320
theorem p1_eq : p1 = Pn - 1 := by decide +kernel

theorem fm_pow1 (y : Int) (k : Nat) : fm (fm y ^ k) = fm (y ^ k) := by
  induction k with
  | zero => simp
  | succ k ih => rw [Int.pow_succ, Int.pow_succ, ← fm_mul_l, ih, fm_mul_fm]

/-- Fermat, of the field's numbers. -/
theorem fm_fermat (a : Int) (h : fm a ≠ 0) : fm (a ^ p1) = 1 := by
  obtain ⟨n, hn⟩ := Int.eq_ofNat_of_zero_le (fm_lo a)
  rw [← fm_pow1, hn, ← Int.natCast_pow, fm_cast, p1_eq]
  have hm : n % Pn ≠ 0 := by
    have := fm_hi a
    rw [Nat.mod_eq_of_lt (by unfold Pn; omega)]
    intro h0; exact h (by rw [hn, h0]; rfl)
  rw [fermat P_prime hm]; rfl

def p2' : Nat := 18446744069414584319
theorem p1_succ : p1 = p2' + 1 := by decide +kernel
theorem inv_mul (a : Int) (h : fm a ≠ 0) : fm (fm (a ^ p2') * a) = 1 := by
  rw [fm_mul_l, ← Int.pow_succ]
  have := fm_fermat a h
  rw [p1_succ] at this
  exact this
theorem inv_zero (a : Int) (h : fm a = 0) : fm (a ^ p2') = 0 := by
  have e : p2' = (p2' - 1) + 1 := by decide +kernel
  rw [← fm_pow1, h, e, Int.pow_succ, Int.mul_zero]; rfl
/-- Who times a makes 1 is a's inverse. -/
theorem inv_unique (a x y : Int) (h : fm (x * a) = 1) (k : fm (y * a) = 1) : fm x = fm y := by
  have e1 : fm (x * (y * a)) = fm x := by rw [← fm_mul_r, k, Int.mul_one]
  have e2 : fm (y * (x * a)) = fm y := by rw [← fm_mul_r, h, Int.mul_one]
  rw [← e1, ← e2]; congr 1; grind

end Go.Proofs.Ythnpbfboedgmpaa.Fld
