/- All sizes, and their primes: numbers. -/
import Derived.Test.YtcbiennifmfkgaaCandk
import Derived.Test.YtcbiennifmfkgaaCmpr
namespace Go.Proofs.Ytcbiennifmfkgaa
open Go.ChangeShapes Go.WideShapes Go.ChangeAt Go.RowKit
set_option linter.unusedVariables false
set_option linter.unusedSimpArgs false
def PS : List Nat := [2, 3, 5, 17, 257, 65537]
theorem isP_2 : isP 2 := (isPb_iff 2).1 (by decide)
theorem isP_3 : isP 3 := (isPb_iff 3).1 (by decide)
theorem isP_5 : isP 5 := (isPb_iff 5).1 (by decide)
theorem isP_17 : isP 17 := (isPb_iff 17).1 (by decide)
theorem isP_257 : isP 257 := (isPb_iff 257).1 (by decide +kernel)
theorem isP_65537 : isP 65537 := (isPb_iff 65537).1 (by decide +kernel)
theorem two_pow {p : Nat} (h : isP p) : ∀ k, p ∣ 2 ^ k → p = 2
  | 0, hd => by
    have h3 := Nat.le_of_dvd (by decide) hd
    rw [Nat.pow_zero] at h3
    have := h.1
    omega
  | k + 1, hd => by
    rw [Nat.pow_succ] at hd
    rcases h.dvd_mul hd with h1 | h1
    · exact two_pow h k h1
    · rcases isP_2.dvd h1 with h2 | h2
      · have := h.1; omega
      · exact h2
theorem in_ps {p : Nat} (h : isP p) (hd : p ∣ 18446744069414584320) : p ∈ PS := by
  have e : 18446744069414584320 = 2 ^ 32 * (3 * (5 * (17 * (257 * 65537)))) := by decide
  rw [e] at hd
  have h1 := h.1
  unfold PS
  simp only [List.mem_cons, List.not_mem_nil, or_false]
  rcases h.dvd_mul hd with hd | hd
  · exact .inl (two_pow h 32 hd)
  rcases h.dvd_mul hd with hd | hd
  · rcases isP_3.dvd hd with e | e <;> omega
  rcases h.dvd_mul hd with hd | hd
  · rcases isP_5.dvd hd with e | e <;> omega
  rcases h.dvd_mul hd with hd | hd
  · rcases isP_17.dvd hd with e | e <;> omega
  rcases h.dvd_mul hd with hd | hd
  · rcases isP_257.dvd hd with e | e <;> omega
  · rcases isP_65537.dvd hd with e | e <;> omega
theorem ps_isP {p : Nat} (h : p ∈ PS) : isP p := by
  unfold PS at h
  simp only [List.mem_cons, List.not_mem_nil, or_false] at h
  rcases h with rfl | rfl | rfl | rfl | rfl | rfl
  · exact isP_2
  · exact isP_3
  · exact isP_5
  · exact isP_17
  · exact isP_257
  · exact isP_65537
/-- The primes below k that divide n, for n that divides P - 1. -/
def psk (n k : Nat) : List Nat := PS.filter fun p => decide (p < k) && decide (n % p = 0)
theorem filt_none (c : Nat → Bool) (k : Nat) (L : List Nat) (h : ∀ p ∈ L, k ≤ p) : L.filter (fun p => decide (p < k) && c p) = [] := by
  refine List.filter_eq_nil_iff.2 (fun p hp => ?_)
  have := h p hp
  rw [decide_eq_false (by omega), Bool.false_and]
  exact Bool.false_ne_true
theorem filt_step (c : Nat → Bool) (k : Nat) : ∀ (L : List Nat), L.Pairwise (· < ·) → k ∈ L → L.filter (fun p => decide (p < k + 1) && c p) = L.filter (fun p => decide (p < k) && c p) ++ (if c k = true then [k] else [])
  | [], _, h => by cases h
  | x :: L, hp, h => by
    obtain ⟨h1, h2⟩ := List.pairwise_cons.1 hp
    by_cases hx : x = k
    · subst hx
      rw [List.filter_cons, List.filter_cons, filt_none c (x + 1) L (fun p hp => h1 p hp), filt_none c x L (fun p hp => by have := h1 p hp; omega)]
      rw [decide_eq_true (show x < x + 1 by omega), decide_eq_false (show ¬ x < x by omega), Bool.true_and, Bool.false_and, if_neg Bool.false_ne_true]
      rfl
    · have hm : k ∈ L := by
        rcases List.mem_cons.1 h with e | e
        · exact absurd e.symm hx
        · exact e
      have hlt := h1 k hm
      rw [List.filter_cons, List.filter_cons, filt_step c k L h2 hm, decide_eq_true (show x < k + 1 by omega), decide_eq_true hlt, Bool.true_and]
      split
      · rfl
      · rfl
theorem ps_sorted : PS.Pairwise (· < ·) := by unfold PS; decide
theorem psk_in {n k : Nat} (h : k ∈ PS) : psk n (k + 1) = psk n k ++ (if n % k = 0 then [k] else []) := by
  unfold psk
  rw [filt_step (fun p => decide (n % p = 0)) k PS ps_sorted h]
  simp only [decide_eq_true_eq]
theorem psk_out {n k : Nat} (h : k ∉ PS) : psk n (k + 1) = psk n k := by
  unfold psk
  refine List.filter_congr (fun p hp => ?_)
  have hne : p ≠ k := fun e => h (e ▸ hp)
  rw [show decide (p < k + 1) = decide (p < k) from decide_eq_decide.2 (by omega)]
theorem fl_ps {n : Nat} (hn : n ∣ 18446744069414584320) : ∀ k, fl n k = (psk n k).map fun p => (p, mu p n)
  | 0 => by
    have : psk n 0 = [] := by unfold psk PS; simp
    rw [this]; rfl
  | k + 1 => by
    have ih := fl_ps hn k
    by_cases hk : k ∈ PS
    · rw [psk_in hk]
      by_cases hd : n % k = 0
      · rw [if_pos hd, fl_yes (ps_isP hk) (Nat.dvd_of_mod_eq_zero hd), ih, List.map_append]; rfl
      · rw [if_neg hd, List.append_nil, fl_no (fun h => hd (Nat.mod_eq_zero_of_dvd h.2)), ih]
    · rw [psk_out hk, fl_no (fun h => hk (in_ps h.1 (Nat.dvd_trans h.2 hn))), ih]
def dvs (n : Nat) : List Nat := PS.filter fun p => decide (n % p = 0)
theorem fa_ps {n : Nat} (h1 : 1 ≤ n) (hn : n ∣ 18446744069414584320) : fa n = (dvs n).map fun p => (p, mu p n) := by
  unfold fa
  rw [fl_ps hn]
  congr 1
  unfold psk dvs
  refine List.filter_congr (fun p hp => ?_)
  by_cases h : n % p = 0
  · rw [decide_eq_true h, decide_eq_true (show p < n + 1 from Nat.lt_succ_of_le (Nat.le_of_dvd h1 (Nat.dvd_of_mod_eq_zero h)))]; rfl
  · rw [decide_eq_false h, Bool.and_false]
theorem prb_ps {n : Nat} (h2 : n ≤ 16777216) (hn : n ∣ 18446744069414584320) : prb (n : Int) = PS.contains n := by
  unfold prb
  rw [decide_eq_true (by omega), Bool.true_and, show ((n : Int)).toNat = n by omega]
  cases h : PS.contains n with
  | true => exact (isPb_iff n).2 (ps_isP (by simpa using h))
  | false =>
    cases hb : isPb n with
    | false => rfl
    | true =>
      have := in_ps ((isPb_iff n).1 hb) hn
      rw [← List.contains_iff_mem, h] at this
      cases this
/-- How often p divides n. -/
def muC : Nat → Nat → Nat → Nat
  | 0, _, _ => 0
  | f + 1, p, n => if n % p = 0 then muC f p (n / p) + 1 else 0
theorem mu_C {p : Nat} (hp : 2 ≤ p) : ∀ (f n : Nat), 1 ≤ n → n < 2 ^ f → mu p n = muC f p n
  | 0, n, h1, hf => by simp at hf; omega
  | f + 1, n, h1, hf => by
    rw [mu, muC]
    by_cases h : n % p = 0
    · have hd := Nat.dvd_of_mod_eq_zero h
      have h3 : n / p ≤ n / 2 := Nat.div_le_div_left hp (by decide)
      rw [dif_pos ⟨hp, h1, hd⟩, if_pos h, mu_C hp f (n / p) (Nat.div_pos (Nat.le_of_dvd h1 hd) (by omega)) (by rw [Nat.pow_succ] at hf; omega)]
    · rw [dif_neg (fun x => h (Nat.mod_eq_zero_of_dvd x.2.2)), if_neg h]
/-- A size is a power of two times some of five primes. -/
theorem mu_pw {p n : Nat} (hp : isP p) (h1 : 1 ≤ n) (hn : n ∣ 18446744069414584320) (h : 18446744069414584320 % (p * p) ≠ 0) : mu p n ≤ 1 := by
  obtain ⟨m, e, _⟩ := mu_split hp.1 n h1
  by_cases hm : mu p n ≤ 1
  · exact hm
  · exfalso
    apply h
    apply Nat.mod_eq_zero_of_dvd
    refine Nat.dvd_trans ?_ hn
    obtain ⟨k, hk⟩ : ∃ k, mu p n = k + 2 := ⟨mu p n - 2, by omega⟩
    rw [hk, Nat.pow_add, show p ^ 2 = p * p from Nat.pow_two p] at e
    exact ⟨p ^ k * m, by rw [e, Nat.mul_comm (p ^ k), Nat.mul_assoc]⟩
def prodL (n : Nat) : List Nat → Nat
  | [] => 1
  | p :: L => p ^ mu p n * prodL n L
theorem pw_filter (n : Nat) : ∀ L : List Nat, pw ((L.filter fun p => decide (n % p = 0)).map fun p => (p, mu p n)) = prodL n L
  | [] => rfl
  | p :: L => by
    rw [List.filter_cons]
    by_cases h : n % p = 0
    · rw [if_pos (decide_eq_true h), List.map_cons, pw, prodL, pw_filter n L]
    · rw [if_neg (by rw [decide_eq_false h]; exact Bool.false_ne_true), prodL, mu_no (fun hd => h (Nat.mod_eq_zero_of_dvd hd)), Nat.pow_zero, Nat.one_mul, pw_filter n L]
theorem size_form {n : Nat} (h1 : 1 ≤ n) (h2 : n ≤ 16777216) (hn : n ∣ 18446744069414584320) : ∃ a, a < 25 ∧ ∃ b, b < 2 ∧ ∃ c, c < 2 ∧ ∃ d, d < 2 ∧ ∃ e, e < 2 ∧ ∃ f, f < 2 ∧ n = 2 ^ a * (3 ^ b * (5 ^ c * (17 ^ d * (257 ^ e * 65537 ^ f)))) := by
  have hp := pw_fa h1
  rw [fa_ps h1 hn] at hp
  unfold dvs at hp
  rw [pw_filter] at hp
  unfold PS at hp
  simp only [prodL, Nat.mul_one] at hp
  have m3 := mu_pw isP_3 h1 hn (by decide)
  have m5 := mu_pw isP_5 h1 hn (by decide)
  have m17 := mu_pw isP_17 h1 hn (by decide)
  have m257 := mu_pw isP_257 h1 hn (by decide)
  have m65 := mu_pw isP_65537 h1 hn (by decide)
  have m2 : mu 2 n < 25 := by
    obtain ⟨m, e, _⟩ := mu_split (p := 2) (by decide) n h1
    by_cases h : mu 2 n < 25
    · exact h
    · have g := Nat.pow_le_pow_right (n := 2) (by decide) (show 25 ≤ mu 2 n by omega)
      have g2 := Nat.le_of_dvd h1 ⟨m, e⟩
      have : 2 ^ 25 = 33554432 := by decide
      omega
  exact ⟨mu 2 n, m2, mu 3 n, by omega, mu 5 n, by omega, mu 17 n, by omega, mu 257 n, by omega, mu 65537 n, by omega, hp.symm⟩
/-- The last prime, the plan without a choice, and all plans, reckoned. -/
def faC (n : Nat) : List (Nat × Nat) := (dvs n).map fun p => (p, muC 25 p n)
def lastC (n : Nat) : Nat := ((dvs n).getD ((dvs n).length - 1) 0)
def plC : Nat → Nat → Nd
  | 0, n => ⟨0, n, .nil⟩
  | f + 1, n => if 2 ≤ n ∧ n ≤ 5 then ⟨2, n, .nil⟩ else if n = 1 ∨ (n ≤ 64 ∧ pwb n = false) then ⟨1, n, .nil⟩ else if pwb n = true then ⟨3, n, .nil⟩ else if PS.contains n = true then ⟨6, n, (plC f (n - 1)).fo .nil⟩ else ⟨4, n, (plC f (lastC n)).fo ((plC f (n / lastC n)).fo .nil)⟩
def twoC (k : Int) (n p : Nat) : Nd := ⟨k, n, (plC 40 p).fo ((plC 40 (n / p)).fo .nil)⟩
def prsC (k : Int) (n : Nat) : List Nat → List Nd
  | [] => []
  | p :: ps => if p = n then prsC k n ps else twoC k n p :: prsC k n ps
def oneC (k : Int) (n m : Nat) : Nd := ⟨k, n, (plC 40 m).fo .nil⟩
def candC (n : Nat) : List Nd := opt (n ≤ 64) ⟨1, n, .nil⟩ ++ opt (2 ≤ n ∧ n ≤ 5) ⟨2, n, .nil⟩ ++ opt (2 ≤ n ∧ pwb n = true) ⟨3, n, .nil⟩ ++ prsC 4 n ((faC n).map (·.1)) ++ prsC 5 n ((faC n).map fun x => x.1 ^ x.2) ++ opt (3 ≤ n ∧ PS.contains n = true) (oneC 6 n (n - 1)) ++ opt (2 ≤ n ∧ n ≤ 8388608) (oneC 7 n (abvN (2 * n - 1)))
end Go.Proofs.Ytcbiennifmfkgaa
