/- The field: P = 2^64 - 2^32 + 1 is a prime (Proth), and what follows of it (Fermat, inverses). Plain numbers: no Go text. -/
import Derived.Test.YthnpbfboedgmpaaBase
namespace Go.Proofs.Ythnpbfboedgmpaa.Fld

/-- A prime. -/
def Prm (p : Nat) : Prop := 2 ≤ p ∧ ∀ d, d ∣ p → d = 1 ∨ d = p

theorem Prm.pos {p : Nat} (h : Prm p) : 0 < p := by have := h.1; omega

theorem Prm.coprime {p a : Nat} (h : Prm p) (ha : ¬ p ∣ a) : Nat.Coprime p a := by
  rcases h.2 (Nat.gcd p a) (Nat.gcd_dvd_left p a) with e | e
  · exact e
  · exact absurd (e ▸ Nat.gcd_dvd_right p a) ha

theorem Prm.euclid {p a b : Nat} (h : Prm p) (hd : p ∣ a * b) : p ∣ a ∨ p ∣ b := by
  by_cases ha : p ∣ a
  · exact .inl ha
  · exact .inr ((h.coprime ha).dvd_of_dvd_mul_left hd)

/-- Binomials. -/
def ch : Nat → Nat → Nat
  | _, 0 => 1
  | 0, _ + 1 => 0
  | n + 1, k + 1 => ch n k + ch n (k + 1)

theorem ch_zero (n : Nat) : ch n 0 = 1 := by cases n <;> rfl
theorem ch_over : ∀ (n k : Nat), n < k → ch n k = 0
  | 0, k + 1, _ => rfl
  | n + 1, k + 1, h => by show ch n k + ch n (k + 1) = 0; rw [ch_over n k (by omega), ch_over n (k + 1) (by omega)]
theorem ch_self : ∀ n, ch n n = 1
  | 0 => rfl
  | n + 1 => by show ch n n + ch n (n + 1) = 1; rw [ch_self n, ch_over n (n + 1) (by omega)]
theorem ch_absorb : ∀ (n k : Nat), (k + 1) * ch (n + 1) (k + 1) = (n + 1) * ch n k
  | 0, 0 => rfl
  | 0, k + 1 => by
    have e1 : ch 1 (k + 1 + 1) = 0 := ch_over 1 (k + 2) (by omega)
    have e2 : ch 0 (k + 1) = 0 := rfl
    rw [e1, e2]; simp
  | n + 1, 0 => by
    have h := ch_absorb n 0
    have e : ch (n + 1 + 1) (0 + 1) = ch (n + 1) 0 + ch (n + 1) (0 + 1) := rfl
    rw [e, ch_zero] at *
    simp only [Nat.zero_add, Nat.one_mul, Nat.mul_one] at *
    omega
  | n + 1, k + 1 => by
    have h1 := ch_absorb n k
    have h2 := ch_absorb n (k + 1)
    have e : ch (n + 1 + 1) (k + 1 + 1) = ch (n + 1) (k + 1) + ch (n + 1) (k + 1 + 1) := rfl
    have e' : ch (n + 1) (k + 1) = ch n k + ch n (k + 1) := rfl
    rw [e]
    generalize ch (n + 1) (k + 1 + 1) = A at *
    generalize ch (n + 1) (k + 1) = B at *
    generalize ch n k = C at *
    generalize ch n (k + 1) = D at *
    subst e'
    grind

/-- The sum of the first m terms of (x + 1)^n. -/
def part (n x : Nat) : Nat → Nat
  | 0 => 0
  | m + 1 => part n x m + ch n m * x ^ m

theorem part_succ (n x : Nat) : ∀ m, part (n + 1) x (m + 1) = part n x (m + 1) + x * part n x m
  | 0 => by simp [part, ch_zero]
  | m + 1 => by
    have ih := part_succ n x m
    have e1 : part (n + 1) x (m + 1 + 1) = part (n + 1) x (m + 1) + ch (n + 1) (m + 1) * x ^ (m + 1) := rfl
    have e2 : part n x (m + 1 + 1) = part n x (m + 1) + ch n (m + 1) * x ^ (m + 1) := rfl
    have e3 : part n x (m + 1) = part n x m + ch n m * x ^ m := rfl
    have e4 : ch (n + 1) (m + 1) = ch n m + ch n (m + 1) := rfl
    rw [e1, ih, e2, e4, Nat.pow_succ]
    rw [e3]
    generalize part n x m = A
    generalize ch n m = B
    generalize ch n (m + 1) = C
    generalize x ^ m = D
    grind

theorem part_all (x : Nat) : ∀ n, part n x (n + 1) = (x + 1) ^ n
  | 0 => by simp [part, ch]
  | n + 1 => by
    rw [part_succ, part_all x n]
    have e : part n x (n + 1 + 1) = part n x (n + 1) + ch n (n + 1) * x ^ (n + 1) := rfl
    rw [e, ch_over n (n + 1) (by omega), part_all x n, Nat.pow_succ]
    grind

theorem ch_dvd {p k : Nat} (h : Prm p) (h0 : 0 < k) (h1 : k < p) : p ∣ ch p k := by
  obtain ⟨q, rfl⟩ : ∃ q, p = q + 1 := ⟨p - 1, by have := h.1; omega⟩
  obtain ⟨j, rfl⟩ : ∃ j, k = j + 1 := ⟨k - 1, by omega⟩
  have := ch_absorb q j
  have hd : (q + 1) ∣ (j + 1) * ch (q + 1) (j + 1) := ⟨_, this⟩
  rcases h.euclid hd with hx | hx
  · have := Nat.le_of_dvd (by omega) hx; omega
  · exact hx

theorem part_mod {p x : Nat} (h : Prm p) : ∀ m, m + 1 ≤ p → part p x (m + 1) % p = 1 % p
  | 0, _ => by simp [part, ch_zero]
  | m + 1, hm => by
    have ih := part_mod (x := x) h m (by omega)
    have e : part p x (m + 1 + 1) = part p x (m + 1) + ch p (m + 1) * x ^ (m + 1) := rfl
    obtain ⟨c, hc⟩ := ch_dvd h (k := m + 1) (by omega) (by omega)
    rw [e, hc, Nat.mul_assoc, Nat.add_mul_mod_self_left, ih]

theorem frob {p : Nat} (h : Prm p) (x : Nat) : (x + 1) ^ p % p = (x ^ p + 1) % p := by
  obtain ⟨q, rfl⟩ : ∃ q, p = q + 1 := ⟨p - 1, by have := h.1; omega⟩
  have hm := part_mod (x := x) h q (by omega)
  have e : part (q + 1) x (q + 1 + 1) = part (q + 1) x (q + 1) + ch (q + 1) (q + 1) * x ^ (q + 1) := rfl
  rw [← part_all, e, ch_self, Nat.one_mul, Nat.add_mod, hm, ← Nat.add_mod, Nat.add_comm]

theorem fermat_pow {p : Nat} (h : Prm p) : ∀ x, x ^ p % p = x % p
  | 0 => by rw [Nat.zero_pow h.pos]
  | x + 1 => by rw [frob h x, Nat.add_mod, fermat_pow h x, ← Nat.add_mod]

/-- Fermat. -/
theorem fermat {p a : Nat} (h : Prm p) (ha : a % p ≠ 0) : a ^ (p - 1) % p = 1 := by
  have h2 := h.1
  obtain ⟨q, rfl⟩ : ∃ q, p = q + 1 := ⟨p - 1, by omega⟩
  have hf := fermat_pow h a
  have hpos : 0 < a ^ q := Nat.pow_pos (by rcases Nat.eq_zero_or_pos a with rfl | h0; (· simp at ha); exact h0)
  have hd : (q + 1) ∣ a * (a ^ q - 1) := by
    have e : a * (a ^ q - 1) = a ^ (q + 1) - a := by rw [Nat.mul_sub, Nat.pow_succ, Nat.mul_comm a, Nat.mul_one]
    rw [e]
    exact (Nat.dvd_of_mod_eq_zero (Nat.sub_mod_eq_zero_of_mod_eq hf))
  have hn : ¬ (q + 1) ∣ a := fun hx => ha (Nat.mod_eq_zero_of_dvd hx)
  rcases h.euclid hd with hx | hx
  · exact absurd hx hn
  · obtain ⟨c, hc⟩ := hx
    have : a ^ q = 1 + (q + 1) * c := by omega
    rw [Nat.add_sub_cancel, this, Nat.add_mul_mod_self_left, Nat.mod_eq_of_lt (by omega)]

/-- Drawers: n numbers below m, no two the same. -/
theorem drawers : ∀ (m n : Nat) (f : Nat → Nat), (∀ i, i < n → f i < m) → (∀ i j, i < n → j < n → f i = f j → i = j) → n ≤ m
  | 0, n, f, hb, _ => by
    rcases Nat.eq_zero_or_pos n with h | h
    · omega
    · have := hb 0 h; omega
  | m + 1, 0, _, _, _ => Nat.zero_le _
  | m + 1, n + 1, f, hb, hi => by
    have key := drawers m n (fun i => if f i = m then f n else f i)
      (fun i h => by
        show (if f i = m then f n else f i) < m
        have h1 := hb i (by omega)
        have h2 := hb n (by omega)
        split
        · rename_i e
          have : f n ≠ m := fun e2 => by have := hi i n (by omega) (by omega) (e.trans e2.symm); omega
          omega
        · omega)
      (fun i j h1 h2 e => by
        have e' : (if f i = m then f n else f i) = (if f j = m then f n else f j) := e
        split at e' <;> split at e'
        · rename_i a b; exact hi i j (by omega) (by omega) (a.trans b.symm)
        · have := hi n j (by omega) (by omega) e'; omega
        · have := hi i n (by omega) (by omega) e'; omega
        · exact hi i j (by omega) (by omega) e')
    omega

end Go.Proofs.Ythnpbfboedgmpaa.Fld
