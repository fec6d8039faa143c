/- Put together by program (merge2.py): Goldp Field Prime Refb Sum. -/
import Derived.Test.YtoejflnlkapkiaaDoorSy1
import Derived.Test.YtoejflnlkapkiaaDoorSy2
/- gold.Pow, gold.Inv, gold.Sum. -/
namespace Go.Proofs.YtoejflnlkapkiaaDoor
open Go.ChangeShapes Go.WideShapes Go.ChangeAt Go.RowKit
set_option linter.unusedVariables false
set_option linter.unusedVariables false

theorem fm_pow (x : Int) (y : Int) (k : Nat) : fm (x * fm y ^ k) = fm (x * y ^ k) := by
  induction k generalizing x with
  | zero => simp
  | succ k ih =>
    have e1 : x * fm y ^ (k + 1) = (x * fm y) * fm y ^ k := by rw [Int.pow_succ, Int.mul_assoc, Int.mul_comm (fm y ^ k)]
    have e2 : x * y ^ (k + 1) = (x * y) * y ^ k := by rw [Int.pow_succ, Int.mul_assoc, Int.mul_comm (y ^ k)]
    rw [e1, e2, ih, ← fm_mul_l (x * fm y), fm_mul_r, fm_mul_l]

theorem pow_sq (a : Int) (k : Nat) : (a * a) ^ k = a ^ (2 * k) := by
  induction k with
  | zero => simp
  | succ k ih => rw [Int.pow_succ, ih, show 2 * (k + 1) = 2 * k + 1 + 1 from by omega, Int.pow_succ, Int.pow_succ, Int.mul_assoc]

theorem pow_even (p a : Int) (k : Nat) (h : k % 2 = 0) : fm (p * fm (a * a) ^ (k / 2)) = fm (p * a ^ k) := by
  rw [fm_pow, pow_sq, show 2 * (k / 2) = k from by omega]
theorem pow_odd (p a : Int) (k : Nat) (h : k % 2 = 1) : fm (fm (p * a) * fm (a * a) ^ (k / 2)) = fm (p * a ^ k) := by
  rw [fm_mul_l, fm_pow, pow_sq]
  have e := Int.pow_succ a (2 * (k / 2))
  rw [show (2 * (k / 2)).succ = k from by omega] at e
  rw [e, Int.mul_assoc, Int.mul_comm a]

/-- The exponent of the inverse: P - 2. -/
def p2 : Nat := 18446744069414584319
def finv (a : Int) : Int := fm (a ^ p2)

end Go.Proofs.YtoejflnlkapkiaaDoor
/- The field: P = 2^64 - 2^32 + 1 is a prime (Proth), and what follows of it (Fermat, inverses). Plain numbers: no Go text. -/
namespace Go.Proofs.YtoejflnlkapkiaaDoor.Fld

/-- A prime. -/
def Prm (p : Nat) : Prop := 2 ≤ p ∧ ∀ d, d ∣ p → d = 1 ∨ d = p

theorem Prm.pos {p : Nat} (h : Prm p) : 0 < p := by have := h.1; omega

theorem Prm.coprime {p a : Nat} (h : Prm p) (ha : ¬ p ∣ a) : Nat.Coprime p a := by
  rcases h.2 (Nat.gcd p a) (Nat.gcd_dvd_left p a) with e | e
  · exact e
  · exact absurd (e ▸ Nat.gcd_dvd_right p a) ha

theorem Prm.euclid {p a b : Nat} (h : Prm p) (hd : p ∣ a * b) : p ∣ a ∨ p ∣ b := by
  by_cases ha : p ∣ a
  · exact .inl ha
  · exact .inr ((h.coprime ha).dvd_of_dvd_mul_left hd)

/-- Binomials. -/
def ch : Nat → Nat → Nat
  | _, 0 => 1
  | 0, _ + 1 => 0
  | n + 1, k + 1 => ch n k + ch n (k + 1)

theorem ch_zero (n : Nat) : ch n 0 = 1 := by cases n <;> rfl
theorem ch_over : ∀ (n k : Nat), n < k → ch n k = 0
  | 0, k + 1, _ => rfl
  | n + 1, k + 1, h => by show ch n k + ch n (k + 1) = 0; rw [ch_over n k (by omega), ch_over n (k + 1) (by omega)]
theorem ch_self : ∀ n, ch n n = 1
  | 0 => rfl
  | n + 1 => by show ch n n + ch n (n + 1) = 1; rw [ch_self n, ch_over n (n + 1) (by omega)]
theorem ch_absorb : ∀ (n k : Nat), (k + 1) * ch (n + 1) (k + 1) = (n + 1) * ch n k
  | 0, 0 => rfl
  | 0, k + 1 => by
    have e1 : ch 1 (k + 1 + 1) = 0 := ch_over 1 (k + 2) (by omega)
    have e2 : ch 0 (k + 1) = 0 := rfl
    rw [e1, e2]; simp
  | n + 1, 0 => by
    have h := ch_absorb n 0
    have e : ch (n + 1 + 1) (0 + 1) = ch (n + 1) 0 + ch (n + 1) (0 + 1) := rfl
    rw [e, ch_zero] at *
    simp only [Nat.zero_add, Nat.one_mul, Nat.mul_one] at *
    omega
  | n + 1, k + 1 => by
    have h1 := ch_absorb n k
    have h2 := ch_absorb n (k + 1)
    have e : ch (n + 1 + 1) (k + 1 + 1) = ch (n + 1) (k + 1) + ch (n + 1) (k + 1 + 1) := rfl
    have e' : ch (n + 1) (k + 1) = ch n k + ch n (k + 1) := rfl
    rw [e]
    generalize ch (n + 1) (k + 1 + 1) = A at *
    generalize ch (n + 1) (k + 1) = B at *
    generalize ch n k = C at *
    generalize ch n (k + 1) = D at *
    subst e'
    grind

/-- The sum of the first m terms of (x + 1)^n. -/
def part (n x : Nat) : Nat → Nat
  | 0 => 0
  | m + 1 => part n x m + ch n m * x ^ m

theorem part_succ (n x : Nat) : ∀ m, part (n + 1) x (m + 1) = part n x (m + 1) + x * part n x m
  | 0 => by simp [part, ch_zero]
  | m + 1 => by
    have ih := part_succ n x m
    have e1 : part (n + 1) x (m + 1 + 1) = part (n + 1) x (m + 1) + ch (n + 1) (m + 1) * x ^ (m + 1) := rfl
    have e2 : part n x (m + 1 + 1) = part n x (m + 1) + ch n (m + 1) * x ^ (m + 1) := rfl
    have e3 : part n x (m + 1) = part n x m + ch n m * x ^ m := rfl
    have e4 : ch (n + 1) (m + 1) = ch n m + ch n (m + 1) := rfl
    rw [e1, ih, e2, e4, Nat.pow_succ]
    rw [e3]
    generalize part n x m = A
    generalize ch n m = B
    generalize ch n (m + 1) = C
    generalize x ^ m = D
    grind

theorem part_all (x : Nat) : ∀ n, part n x (n + 1) = (x + 1) ^ n
  | 0 => by simp [part, ch]
  | n + 1 => by
    rw [part_succ, part_all x n]
    have e : part n x (n + 1 + 1) = part n x (n + 1) + ch n (n + 1) * x ^ (n + 1) := rfl
    rw [e, ch_over n (n + 1) (by omega), part_all x n, Nat.pow_succ]
    grind

theorem ch_dvd {p k : Nat} (h : Prm p) (h0 : 0 < k) (h1 : k < p) : p ∣ ch p k := by
  obtain ⟨q, rfl⟩ : ∃ q, p = q + 1 := ⟨p - 1, by have := h.1; omega⟩
  obtain ⟨j, rfl⟩ : ∃ j, k = j + 1 := ⟨k - 1, by omega⟩
  have := ch_absorb q j
  have hd : (q + 1) ∣ (j + 1) * ch (q + 1) (j + 1) := ⟨_, this⟩
  rcases h.euclid hd with hx | hx
  · have := Nat.le_of_dvd (by omega) hx; omega
  · exact hx

theorem part_mod {p x : Nat} (h : Prm p) : ∀ m, m + 1 ≤ p → part p x (m + 1) % p = 1 % p
  | 0, _ => by simp [part, ch_zero]
  | m + 1, hm => by
    have ih := part_mod (x := x) h m (by omega)
    have e : part p x (m + 1 + 1) = part p x (m + 1) + ch p (m + 1) * x ^ (m + 1) := rfl
    obtain ⟨c, hc⟩ := ch_dvd h (k := m + 1) (by omega) (by omega)
    rw [e, hc, Nat.mul_assoc, Nat.add_mul_mod_self_left, ih]

theorem frob {p : Nat} (h : Prm p) (x : Nat) : (x + 1) ^ p % p = (x ^ p + 1) % p := by
  obtain ⟨q, rfl⟩ : ∃ q, p = q + 1 := ⟨p - 1, by have := h.1; omega⟩
  have hm := part_mod (x := x) h q (by omega)
  have e : part (q + 1) x (q + 1 + 1) = part (q + 1) x (q + 1) + ch (q + 1) (q + 1) * x ^ (q + 1) := rfl
  rw [← part_all, e, ch_self, Nat.one_mul, Nat.add_mod, hm, ← Nat.add_mod, Nat.add_comm]

theorem fermat_pow {p : Nat} (h : Prm p) : ∀ x, x ^ p % p = x % p
  | 0 => by rw [Nat.zero_pow h.pos]
  | x + 1 => by rw [frob h x, Nat.add_mod, fermat_pow h x, ← Nat.add_mod]

/-- Fermat. -/
theorem fermat {p a : Nat} (h : Prm p) (ha : a % p ≠ 0) : a ^ (p - 1) % p = 1 := by
  have h2 := h.1
  obtain ⟨q, rfl⟩ : ∃ q, p = q + 1 := ⟨p - 1, by omega⟩
  have hf := fermat_pow h a
  have hpos : 0 < a ^ q := Nat.pow_pos (by rcases Nat.eq_zero_or_pos a with rfl | h0; (· simp at ha); exact h0)
  have hd : (q + 1) ∣ a * (a ^ q - 1) := by
    have e : a * (a ^ q - 1) = a ^ (q + 1) - a := by rw [Nat.mul_sub, Nat.pow_succ, Nat.mul_comm a, Nat.mul_one]
    rw [e]
    exact (Nat.dvd_of_mod_eq_zero (Nat.sub_mod_eq_zero_of_mod_eq hf))
  have hn : ¬ (q + 1) ∣ a := fun hx => ha (Nat.mod_eq_zero_of_dvd hx)
  rcases h.euclid hd with hx | hx
  · exact absurd hx hn
  · obtain ⟨c, hc⟩ := hx
    have : a ^ q = 1 + (q + 1) * c := by omega
    rw [Nat.add_sub_cancel, this, Nat.add_mul_mod_self_left, Nat.mod_eq_of_lt (by omega)]

/-- Drawers: n numbers below m, no two the same. -/
theorem drawers : ∀ (m n : Nat) (f : Nat → Nat), (∀ i, i < n → f i < m) → (∀ i j, i < n → j < n → f i = f j → i = j) → n ≤ m
  | 0, n, f, hb, _ => by
    rcases Nat.eq_zero_or_pos n with h | h
    · omega
    · have := hb 0 h; omega
  | m + 1, 0, _, _, _ => Nat.zero_le _
  | m + 1, n + 1, f, hb, hi => by
    have key := drawers m n (fun i => if f i = m then f n else f i)
      (fun i h => by
        show (if f i = m then f n else f i) < m
        have h1 := hb i (by omega)
        have h2 := hb n (by omega)
        split
        · rename_i e
          have : f n ≠ m := fun e2 => by have := hi i n (by omega) (by omega) (e.trans e2.symm); omega
          omega
        · omega)
      (fun i j h1 h2 e => by
        have e' : (if f i = m then f n else f i) = (if f j = m then f n else f j) := e
        split at e' <;> split at e'
        · rename_i a b; exact hi i j (by omega) (by omega) (a.trans b.symm)
        · have := hi n j (by omega) (by omega) e'; omega
        · have := hi i n (by omega) (by omega) e'; omega
        · exact hi i j (by omega) (by omega) e')
    omega

end Go.Proofs.YtoejflnlkapkiaaDoor.Fld
/- P = 2^64 - 2^32 + 1 is a prime, by Proth's theorem; Fermat and inverses for the field's numbers. Plain numbers: no Go text. -/
namespace Go.Proofs.YtoejflnlkapkiaaDoor.Fld

theorem odd_part : ∀ t : Nat, 0 < t → ∃ s o, t = 2 ^ s * (2 * o + 1) := by
  intro t
  induction t using Nat.strongRecOn with
  | ind t ih =>
    intro h
    by_cases h2 : t % 2 = 1
    · exact ⟨0, t / 2, by omega⟩
    · obtain ⟨s, o, e⟩ := ih (t / 2) (by omega) (by omega)
      refine ⟨s + 1, o, ?_⟩
      rw [Nat.pow_succ, Nat.mul_right_comm, ← e]; omega

theorem pow_one_mod {b d t m : Nat} (h : b ^ t % d = 1 % d) : b ^ (t * m) % d = 1 % d := by
  rw [Nat.pow_mul, Nat.pow_mod, h, ← Nat.pow_mod, Nat.one_pow]

theorem pow_odd_mod {x d : Nat} (h : x * x % d = 1 % d) : ∀ o, x ^ (2 * o + 1) % d = x % d
  | 0 => by simp
  | o + 1 => by
    have e : x ^ (2 * (o + 1) + 1) = x ^ (2 * o + 1) * (x * x) := by
      rw [show 2 * (o + 1) + 1 = 2 * o + 1 + 1 + 1 from by omega, Nat.pow_succ, Nat.pow_succ, Nat.mul_assoc]
    rw [e, Nat.mul_mod, h, ← Nat.mul_mod, Nat.mul_one, pow_odd_mod h o]

/-- A divisor from 2 on of a number P, to which some b says b^(2^e) = -1, is at least 2^(e+1). -/
theorem proth_div {P b e d : Nat} (hP : P % 2 = 1) (h : b ^ 2 ^ e % P = P - 1) (hd : d ∣ P) (h2 : 2 ≤ d) (h1 : 0 < P) : 2 ^ (e + 1) ≤ d := by
  have hd2 : d % 2 = 1 := by
    obtain ⟨c, hc⟩ := hd
    have : d % 2 = 0 ∨ d % 2 = 1 := by omega
    rcases this with h0 | h0
    · have : (d * c) % 2 = 0 := by rw [Nat.mul_mod, h0]; simp
      rw [← hc] at this; omega
    · exact h0
  have hle := Nat.le_of_dvd h1 hd
  generalize hx : b ^ 2 ^ e = x at h
  have hxd : x % d = d - 1 := by
    have e1 : x % d = (x % P) % d := (Nat.mod_mod_of_dvd x hd).symm
    rw [e1, h]
    obtain ⟨c, hc⟩ := hd
    have hc0 : 0 < c := by rcases Nat.eq_zero_or_pos c with h0 | h0; (· rw [h0] at hc; omega); exact h0
    obtain ⟨c', rfl⟩ : ∃ c', c = c' + 1 := ⟨c - 1, by omega⟩
    have : P - 1 = (d - 1) + d * c' := by rw [hc, Nat.mul_add, Nat.mul_one]; omega
    rw [this, Nat.add_mul_mod_self_left, Nat.mod_eq_of_lt (by omega)]
  have hxx : x * x % d = 1 % d := by
    rw [Nat.mul_mod, hxd]
    obtain ⟨q, rfl⟩ : ∃ q, d = q + 2 := ⟨d - 2, by omega⟩
    have : (q + 2 - 1) * (q + 2 - 1) = 1 + (q + 2) * q := by
      rw [show q + 2 - 1 = q + 1 from by omega]; grind
    rw [this, Nat.add_mul_mod_self_left]
  have hxn : ¬ x % d = 1 % d := by
    rw [hxd, Nat.mod_eq_of_lt (by omega)]; omega
  have hfull : b ^ 2 ^ (e + 1) % d = 1 % d := by
    rw [Nat.pow_succ, Nat.pow_mul, hx, Nat.pow_succ, Nat.pow_one, hxx]
  refine drawers d (2 ^ (e + 1)) (fun i => b ^ i % d) (fun i _ => Nat.mod_lt _ (by omega)) ?_
  have key : ∀ i j, i < j → j < 2 ^ (e + 1) → b ^ i % d = b ^ j % d → False := by
    intro i j hij hj he
    have ht : b ^ (j - i) % d = 1 % d := by
      have e1 : b ^ (2 ^ (e + 1)) * b ^ (j - i) = b ^ (2 ^ (e + 1) - i) * b ^ j := by
        rw [← Nat.pow_add, ← Nat.pow_add]; congr 1; omega
      have e2 : b ^ (2 ^ (e + 1) - i) * b ^ i = b ^ 2 ^ (e + 1) := by
        rw [← Nat.pow_add]; congr 1; omega
      have e3 : (b ^ 2 ^ (e + 1) * b ^ (j - i)) % d = b ^ (j - i) % d := by
        rw [Nat.mul_mod, hfull, ← Nat.mul_mod, Nat.one_mul]
      rw [← e3, e1, Nat.mul_mod, ← he, ← Nat.mul_mod, e2, hfull]
    obtain ⟨s, o, hs⟩ := odd_part (j - i) (by omega)
    have hse : s ≤ e := by
      rcases Nat.lt_or_ge e s with hlt | hge
      · have h3 : 2 ^ (e + 1) ≤ 2 ^ s := Nat.pow_le_pow_right (by omega) (by omega)
        have h4 : 2 ^ s ≤ 2 ^ s * (2 * o + 1) := Nat.le_mul_of_pos_right _ (by omega)
        omega
      · exact hge
    have h5 : b ^ ((j - i) * 2 ^ (e - s)) % d = 1 % d := pow_one_mod ht
    have h6 : (j - i) * 2 ^ (e - s) = 2 ^ e * (2 * o + 1) := by
      have : 2 ^ e = 2 ^ s * 2 ^ (e - s) := by rw [← Nat.pow_add]; congr 1; omega
      rw [hs, this]; grind
    rw [h6, Nat.pow_mul, hx, pow_odd_mod hxx o] at h5
    exact hxn h5
  intro i j hi hj he
  rcases Nat.lt_trichotomy i j with h | h | h
  · exact (key i j h hj he).elim
  · exact h
  · exact (key j i h hi he.symm).elim

theorem proth {P b e : Nat} (hP : P % 2 = 1) (h : b ^ 2 ^ e % P = P - 1) (h1 : 2 ≤ P) (hlt : P < 2 ^ (e + 1) * 2 ^ (e + 1)) : Prm P := by
  refine ⟨h1, fun d hd => ?_⟩
  obtain ⟨c, hc⟩ := hd
  have hpos : 0 < P := by omega
  by_cases hd1 : d = 1
  · exact .inl hd1
  by_cases hc1 : c = 1
  · right; rw [hc, hc1, Nat.mul_one]
  exfalso
  have hd0 : d ≠ 0 := fun h0 => by rw [h0, Nat.zero_mul] at hc; omega
  have hc0 : c ≠ 0 := fun h0 => by rw [h0, Nat.mul_zero] at hc; omega
  have k1 := proth_div hP h ⟨c, hc⟩ (by omega) hpos
  have k2 := proth_div hP h ⟨d, by rw [hc, Nat.mul_comm]⟩ (by omega) hpos
  have := Nat.mul_le_mul k1 k2
  omega

/-- Squares, one behind the other, modulo P. -/
def sqs (P : Nat) : Nat → Nat → Nat
  | b, 0 => b % P
  | b, e + 1 => let x := sqs P b e; x * x % P
theorem sqs_eq (P b : Nat) : ∀ e, b ^ 2 ^ e % P = sqs P b e
  | 0 => by simp [sqs]
  | e + 1 => by
    show _ = sqs P b e * sqs P b e % P
    rw [← sqs_eq P b e, Nat.pow_succ, Nat.pow_mul, Nat.pow_succ, Nat.pow_one, Nat.mul_mod]

/-- P, as a number of its own. -/
def Pn : Nat := 18446744069414584321
/-- An element of order 2^32. -/
def gen : Nat := 1753635133440165772
theorem gen_sq : sqs Pn gen 31 = Pn - 1 := by decide +kernel
theorem P_prime : Prm Pn := proth (P := Pn) (b := gen) (e := 31) (by decide +kernel) ((sqs_eq Pn gen 31).trans gen_sq) (by decide +kernel) (by decide +kernel)

theorem fm_cast (n : Nat) : fm (n : Int) = ((n % Pn : Nat) : Int) := by unfold fm Pn; omega

def p1 : Nat := 18446744069414584320
theorem p1_eq : p1 = Pn - 1 := by decide +kernel

theorem fm_pow1 (y : Int) (k : Nat) : fm (fm y ^ k) = fm (y ^ k) := by
  induction k with
  | zero => simp
  | succ k ih => rw [Int.pow_succ, Int.pow_succ, ← fm_mul_l, ih, fm_mul_fm]

/-- Fermat, of the field's numbers. -/
theorem fm_fermat (a : Int) (h : fm a ≠ 0) : fm (a ^ p1) = 1 := by
  obtain ⟨n, hn⟩ := Int.eq_ofNat_of_zero_le (fm_lo a)
  rw [← fm_pow1, hn, ← Int.natCast_pow, fm_cast, p1_eq]
  have hm : n % Pn ≠ 0 := by
    have := fm_hi a
    rw [Nat.mod_eq_of_lt (by unfold Pn; omega)]
    intro h0; exact h (by rw [hn, h0]; rfl)
  rw [fermat P_prime hm]; rfl

def p2' : Nat := 18446744069414584319
theorem p1_succ : p1 = p2' + 1 := by decide +kernel
theorem inv_mul (a : Int) (h : fm a ≠ 0) : fm (fm (a ^ p2') * a) = 1 := by
  rw [fm_mul_l, ← Int.pow_succ]
  have := fm_fermat a h
  rw [p1_succ] at this
  exact this
theorem inv_zero (a : Int) (h : fm a = 0) : fm (a ^ p2') = 0 := by
  have e : p2' = (p2' - 1) + 1 := by decide +kernel
  rw [← fm_pow1, h, e, Int.pow_succ, Int.mul_zero]; rfl
/-- Who times a makes 1 is a's inverse. -/
theorem inv_unique (a x y : Int) (h : fm (x * a) = 1) (k : fm (y * a) = 1) : fm x = fm y := by
  have e1 : fm (x * (y * a)) = fm x := by rw [← fm_mul_r, k, Int.mul_one]
  have e2 : fm (y * (x * a)) = fm y := by rw [← fm_mul_r, h, Int.mul_one]
  rw [← e1, ← e2]; congr 1; grind

end Go.Proofs.YtoejflnlkapkiaaDoor.Fld
/- The document's own answers of layer 2 (dulcimerref02): the same numbers of the field, reckoned bit by bit. -/
namespace Go.Proofs.YtoejflnlkapkiaaDoor
open Go.ChangeShapes Go.WideShapes Go.ChangeAt Go.RowKit
set_option linter.unusedVariables false
set_option linter.unusedVariables false

/-- What the doubling has reached when the digits from j on are in. -/
def dbl (a : Nat) (b : Int) (j : Nat) : Int := fm (((a / 2 ^ j : Nat) : Int) * b)
theorem dbl_lo (a : Nat) (b : Int) (j : Nat) : 0 ≤ dbl a b j := fm_lo _
theorem dbl_hi (a : Nat) (b : Int) (j : Nat) : dbl a b j ≤ 18446744069414584320 := fm_hi _
theorem dbl_zero (a : Nat) (b : Int) : dbl a b 0 = fm (a * b) := by unfold dbl; simp
theorem dbl_top (a : Nat) (b : Int) (j : Nat) (h : a < 2 ^ j) : dbl a b j = 0 := by
  unfold dbl; rw [Nat.div_eq_of_lt h]; simp; rfl
theorem dbl_step (a : Nat) (k : Nat) (b : Int) : dbl a b k = fm (fm (dbl a b (k + 1) + dbl a b (k + 1)) + ((a / 2 ^ k % 2 : Nat) : Int) * b) := by
  unfold dbl
  have e : a / 2 ^ k = 2 * (a / 2 ^ (k + 1)) + a / 2 ^ k % 2 := by
    rw [Nat.pow_succ, ← Nat.div_div_eq_div_mul]; omega
  generalize a / 2 ^ (k + 1) = q at *
  generalize a / 2 ^ k % 2 = r at *
  rw [e]
  have e2 : ((2 * q + r : Nat) : Int) * b = ((q : Int) * b + (q : Int) * b) + (r : Int) * b := by
    push_cast
    grind
  rw [e2, fm_add_l]
  generalize (q : Int) * b = x
  generalize (r : Int) * b = y
  unfold fm
  omega
theorem dbl_one (a : Nat) (k : Nat) (b : Int) (h : a / 2 ^ k % 2 = 1) : fm (fm (dbl a b (k + 1) + dbl a b (k + 1)) + b) = dbl a b k := by
  rw [dbl_step a k b, h]; simp
theorem dbl_nil (a : Nat) (k : Nat) (b : Int) (h : a / 2 ^ k % 2 = 0) : fm (dbl a b (k + 1) + dbl a b (k + 1)) = dbl a b k := by
  rw [dbl_step a k b, h]; simp [fm_fm]

/-- A power whose digits from j on are in. -/
def pwr (a : Int) (n j : Nat) : Int := fm (a ^ (n / 2 ^ j))
theorem pwr_lo (a : Int) (n j : Nat) : 0 ≤ pwr a n j := fm_lo _
theorem pwr_hi (a : Int) (n j : Nat) : pwr a n j ≤ 18446744069414584320 := fm_hi _
theorem pwr_zero (a : Int) (n : Nat) : pwr a n 0 = fm (a ^ n) := by unfold pwr; simp
theorem pwr_top (a : Int) (n j : Nat) (h : n < 2 ^ j) : pwr a n j = 1 := by
  unfold pwr; rw [Nat.div_eq_of_lt h]; simp; rfl
theorem pow_two_mul (a : Int) (k : Nat) : a ^ (2 * k) = a ^ k * a ^ k := by rw [← Int.pow_add]; congr 1; omega
theorem pwr_one (a : Int) (n k : Nat) (h : n / 2 ^ k % 2 = 1) : fm (fm (pwr a n (k + 1) * pwr a n (k + 1)) * a) = pwr a n k := by
  unfold pwr
  have e : n / 2 ^ k = 2 * (n / 2 ^ (k + 1)) + 1 := by
    rw [Nat.pow_succ, ← Nat.div_div_eq_div_mul]; omega
  rw [e, fm_mul_fm, fm_mul_l, Int.pow_succ, pow_two_mul]
theorem pwr_nil (a : Int) (n k : Nat) (h : n / 2 ^ k % 2 = 0) : fm (pwr a n (k + 1) * pwr a n (k + 1)) = pwr a n k := by
  unfold pwr
  have e : n / 2 ^ k = 2 * (n / 2 ^ (k + 1)) := by
    rw [Nat.pow_succ, ← Nat.div_div_eq_div_mul]; omega
  rw [e, fm_mul_fm, pow_two_mul]

end Go.Proofs.YtoejflnlkapkiaaDoor
/- gold.Sum over a slice; the reference's Wide. -/
namespace Go.Proofs.YtoejflnlkapkiaaDoor
open Go.ChangeShapes Go.WideShapes Go.ChangeAt Go.RowKit
set_option linter.unusedVariables false

/-- The sum of the first k numbers, in the field. -/
def fsum (xs : List Int) (k : Nat) : Int := fm (xs.take k).sum
theorem fsum_lo (xs : List Int) (k : Nat) : 0 ≤ fsum xs k := fm_lo _
theorem fsum_hi (xs : List Int) (k : Nat) : fsum xs k ≤ 18446744069414584320 := fm_hi _
theorem fsum_zero (xs : List Int) : fsum xs 0 = 0 := by unfold fsum; simp; rfl
theorem take_snoc {α} (xs : List α) (k : Nat) (h : k < xs.length) : xs.take (k + 1) = xs.take k ++ [xs[k]] := List.take_succ_eq_append_getElem h
theorem fsum_succ (xs : List Int) (k : Nat) (h : k < xs.length) : fm (fsum xs k + xs.getD k 0) = fsum xs (k + 1) := by
  unfold fsum
  have e : xs.getD k 0 = xs[k] := by simp [List.getD, h]
  rw [take_snoc xs k h, fm_add_l, e, List.sum_append]
  simp only [List.sum_cons, List.sum_nil, Int.add_zero]
theorem fsum_succ' (xs : List Int) (k : Nat) (h : k < xs.length) : fm (fsum xs k + fm (xs.getD k 0)) = fsum xs (k + 1) := by
  rw [fm_add_r, fsum_succ xs k h]

/-- A slice of words: its numbers lie in their range, in the walk's spelling. -/
theorem words_at {xs : List Int} (h : ∀ x ∈ xs, (Lit.int .u64 x).wf = true) (k : Nat) (hk : k < xs.length) : 0 ≤ xs.getD k 0 ∧ xs.getD k 0 ≤ 18446744073709551615 := by
  have : xs.getD k 0 = xs[k] := by simp [List.getD, hk]
  rw [this]
  exact bounds_u64 (h _ (List.getElem_mem hk))

theorem bits_hi (h l k : Nat) (hl : l < 18446744073709551616) : (h * 18446744073709551616 + l) / 2 ^ (64 + k) = h / 2 ^ k := by
  rw [Nat.pow_add, ← Nat.div_div_eq_div_mul]
  congr 1
  omega
theorem bits_lo (h l k : Nat) (hk : k < 64) : (h * 18446744073709551616 + l) / 2 ^ k % 2 = l / 2 ^ k % 2 := by
  have e : h * 18446744073709551616 = 2 ^ k * (h * 2 ^ (63 - k) * 2) := by
    have : (18446744073709551616 : Nat) = 2 ^ k * (2 ^ (63 - k) * 2) := by
      rw [← Nat.pow_succ, ← Nat.pow_add, show k + (63 - k + 1) = 64 from by omega]
    rw [this]; grind
  rw [e, Nat.mul_add_div (Nat.pow_pos (by omega)), Nat.add_mod]
  omega
/-- A digit. -/
def dig (t k : Nat) : Int := ((t / 2 ^ k % 2 : Nat) : Int)
theorem dig_lo (t k : Nat) : 0 ≤ dig t k := by unfold dig; omega
theorem dig_hi (t k : Nat) : dig t k ≤ 1 := by unfold dig; omega
theorem dbl_bit (t k : Nat) : fm (fm (dbl t 1 (k + 1) + dbl t 1 (k + 1)) + dig t k) = dbl t 1 k := by
  have := dbl_step t k 1
  rw [Int.mul_one] at this
  exact this.symm
theorem tmod_bit (h k : Nat) : ((h : Int) / 2 ^ k).tmod 2 = dig h k := by
  rw [show ((h : Int) / 2 ^ k) = ((h / 2 ^ k : Nat) : Int) from by push_cast; rfl]; rfl

theorem Reads.alloc {k : IntKind} {w : World} {a : Option Addr} {xs : List Int} (h : Reads k w a xs) (o : Obj) : Reads k (w.alloc o) a xs := by
  rcases h with h | ⟨b, off, rfl, hb, hc⟩
  · exact .inl h
  · exact .inr ⟨b, off, rfl, by simp; omega, fun i hi => by rw [World.cell?_of_block (Below.heap_alloc w o b hb)]; exact hc i hi⟩
theorem Reads.below {k : IntKind} {w w' : World} {a : Option Addr} {xs : List Int} (h : Reads k w a xs) (hb : Below w.heap.size w w') : Reads k w' a xs := by
  rcases h with h | ⟨b, off, rfl, hlt, hc⟩
  · exact .inl h
  · exact .inr ⟨b, off, rfl, by have := hb.size; omega, fun i hi => by rw [hb.cell (p := ⟨b, off + i, none⟩) hlt]; exact hc i hi⟩

/-- Two rows, one by one: +. -/
def zadd (xs ys : List Int) : List Int := List.zipWith (fun x y => fm (x + y)) xs ys
theorem zadd_len (xs ys : List Int) (h : xs.length = ys.length) : (zadd xs ys).length = xs.length := by unfold zadd; simp [h]
theorem zadd_at (xs ys : List Int) (k : Nat) (h : k < xs.length) (h' : xs.length = ys.length) : (zadd xs ys).getD k 0 = fm (xs.getD k 0 + ys.getD k 0) := by
  have h2 : k < ys.length := by omega
  unfold zadd; simp [List.getD, List.getElem?_zipWith, h, h2]
theorem zadd_wf (xs ys : List Int) : ∀ z ∈ zadd xs ys, (Lit.int .u64 z).wf = true := by
  intro z hz
  unfold zadd at hz
  obtain ⟨i, hi, rfl⟩ := List.getElem_of_mem hz
  rw [List.getElem_zipWith]
  exact WalkArith.wf_u64 ⟨fm_lo _, fm_hi' _⟩

/-- Two rows, one by one: *. -/
def zmul (xs ys : List Int) : List Int := List.zipWith (fun x y => fm (x * y)) xs ys
theorem zmul_len (xs ys : List Int) (h : xs.length = ys.length) : (zmul xs ys).length = xs.length := by unfold zmul; simp [h]
theorem zmul_at (xs ys : List Int) (k : Nat) (h : k < xs.length) (h' : xs.length = ys.length) : (zmul xs ys).getD k 0 = fm (xs.getD k 0 * ys.getD k 0) := by
  have h2 : k < ys.length := by omega
  unfold zmul; simp [List.getD, List.getElem?_zipWith, h, h2]
theorem zmul_wf (xs ys : List Int) : ∀ z ∈ zmul xs ys, (Lit.int .u64 z).wf = true := by
  intro z hz
  unfold zmul at hz
  obtain ⟨i, hi, rfl⟩ := List.getElem_of_mem hz
  rw [List.getElem_zipWith]
  exact WalkArith.wf_u64 ⟨fm_lo _, fm_hi' _⟩

/-- Each number times a. -/
def scl (a : Int) (xs : List Int) : List Int := xs.map fun x => fm (a * x)
theorem scl_len (a : Int) (xs : List Int) : (scl a xs).length = xs.length := by unfold scl; simp
theorem scl_at (a : Int) (xs : List Int) (k : Nat) (h : k < xs.length) : (scl a xs).getD k 0 = fm (a * xs.getD k 0) := by
  unfold scl; simp [List.getD, h]
theorem scl_wf (a : Int) (xs : List Int) : ∀ z ∈ scl a xs, (Lit.int .u64 z).wf = true := by
  intro z hz
  unfold scl at hz
  obtain ⟨x, _, rfl⟩ := List.mem_map.1 hz
  exact WalkArith.wf_u64 ⟨fm_lo _, fm_hi' _⟩

/-- The sum of the products. -/
def dotp (xs ys : List Int) : Int := fsum (zmul xs ys) (zmul xs ys).length

end Go.Proofs.YtoejflnlkapkiaaDoor
