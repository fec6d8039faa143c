/- How much work a plan is, in numbers. -/
import Derived.Test.YtfjioflggkmhcaaD11
namespace Go.Proofs.Ytfjioflggkmhcaa
open Go.ChangeShapes Go.WideShapes Go.ChangeAt Go.RowKit
set_option linter.unusedVariables false
/-- Held to the greatest. -/
def capm (x : Int) : Int := if x ≤ 1152921504606846976 then x else 1152921504606846976
theorem capm_le (x : Int) : capm x ≤ 1152921504606846976 := by unfold capm; split <;> omega
theorem capm_ge {x : Int} (h : 1 ≤ x) : 1 ≤ capm x := by unfold capm; split <;> omega
theorem capm_nn {x : Int} (h : 0 ≤ x) : 0 ≤ capm x := by unfold capm; split <;> omega
theorem capm_add {x y : Int} (hx : 0 ≤ x) (hy : 0 ≤ y) : capm (capm x + capm y) = capm (x + y) := by
  unfold capm; split <;> split <;> split <;> (try split) <;> omega
theorem capm_add_left {x y : Int} (hx : 0 ≤ x) (hy : 0 ≤ y) : capm (capm x + y) = capm (x + y) := by
  unfold capm; split <;> split <;> (try split) <;> omega
theorem capm_idem {x : Int} (h : x ≤ 1152921504606846976) : capm x = x := by unfold capm; rw [if_pos h]
/-- The work at a node, of its kids' works and sizes. -/
def estC (k n a b na nb : Int) : Int :=
  if k = 2 then 2 * n
  else if k = 3 then n * ((n.toNat.log2 : Nat) : Int)
  else if k = 4 then capm (capm (capm (nb * a) + capm (na * b)) + n)
  else if k = 5 then capm (capm (nb * a) + capm (na * b))
  else if k = 6 then capm (capm (2 * a) + 2 * n)
  else if k = 7 then capm (capm (capm (2 * a) + na) + 3 * n)
  else n * n
def Fo.ests : Fo → List Int
  | .nil => []
  | .cons k n ks r => estC k n (ks.ests.getD 0 0) (ks.ests.getD 1 0) (ks.n 0) (ks.n 1) :: r.ests
def estN (k n : Int) (ks : Fo) : Int := estC k n (ks.ests.getD 0 0) (ks.ests.getD 1 0) (ks.n 0) (ks.n 1)
theorem ests_get : ∀ (f : Fo) (i : Nat), i < f.len → f.ests.getD i 0 = estN (f.k i) (f.n i) (f.kids i)
  | .cons k n ks r, 0, _ => rfl
  | .cons k n ks r, i + 1, h => by
    have := ests_get r i (by simp [Fo.len] at h; omega)
    show (estC k n (ks.ests.getD 0 0) (ks.ests.getD 1 0) (ks.n 0) (ks.n 1) :: r.ests).getD (i + 1) 0 = estN (r.k i) (r.n i) (r.kids i)
    rw [List.getD_cons_succ]; exact this
/-- What is right at a node: its kids are as many as its kind wants, all sizes are small. -/
structure Rt (k n : Int) (m : Nat) (a b : Int) : Prop where
  k1 : 1 ≤ k
  k7 : k ≤ 7
  n1 : 1 ≤ n
  n2 : n ≤ 16777216
  nn : k = 1 → n ≤ 64
  m0 : k ≤ 3 → m = 0
  m2 : (k = 4 ∨ k = 5) → m = 2
  m1 : (k = 6 ∨ k = 7) → m = 1
  a1 : 4 ≤ k → 1 ≤ a ∧ a ≤ 16777216
  b1 : (k = 4 ∨ k = 5) → 1 ≤ b ∧ b ≤ 16777216
  p2 : k = 3 → ∃ e : Nat, e < 25 ∧ n = ((2 ^ e : Nat) : Int)
theorem hasp_range {n : Int} (h : hasp n = true) : 1 ≤ n ∧ n ≤ 16777216 := by
  unfold hasp at h
  rw [Bool.and_eq_true, decide_eq_true_iff] at h
  exact ⟨(pwb_isp h.2).1, h.1⟩
theorem few_range {n : Int} (h : few n = true) : n ≤ 16777216 := by
  unfold few at h
  simp only [decide_eq_true_eq] at h
  omega
theorem prod_range {n a b : Int} (h : prodb n a b = true) (hn : n ≤ 16777216) : (1 ≤ a ∧ a ≤ 16777216) ∧ (1 ≤ b ∧ b ≤ 16777216) := by
  unfold prodb at h
  simp only [Bool.and_eq_true, decide_eq_true_eq] at h
  obtain ⟨⟨⟨h1, h2⟩, h3⟩, h4⟩ := h
  have h5 := Int.mul_ediv_add_emod n a
  rw [h3, h4] at h5
  have h6 : 2 * b ≤ a * b := Int.mul_le_mul_of_nonneg_right h1 (by omega)
  have h7 : a * 2 ≤ a * b := Int.mul_le_mul_of_nonneg_left h2 (by omega)
  omega
theorem node_rt {k n : Int} {m : Nat} {a b : Int} (h : nodeB k n m a b = true) : Rt k n m a b := by
  unfold nodeB at h
  by_cases h1 : k = 1
  · subst h1
    rw [if_pos rfl] at h
    simp only [Bool.and_eq_true, decide_eq_true_eq] at h
    have := hasb_dvd h.2
    exact ⟨by omega, by omega, by omega, by omega, fun _ => h.1.2, fun _ => h.1.1, fun h => by omega, fun h => by omega, fun h => by omega, fun h => by omega, fun h => by omega⟩
  rw [if_neg h1] at h
  by_cases h2 : k = 2
  · subst h2
    rw [if_pos rfl] at h
    simp only [Bool.and_eq_true, decide_eq_true_eq] at h
    have := few_range h.2
    exact ⟨by omega, by omega, by omega, by omega, fun h => by omega, fun _ => h.1.1, fun h => by omega, fun h => by omega, fun h => by omega, fun h => by omega, fun h => by omega⟩
  rw [if_neg h2] at h
  by_cases h3 : k = 3
  · subst h3
    rw [if_pos rfl] at h
    simp only [Bool.and_eq_true, decide_eq_true_eq] at h
    have := hasp_range h.2
    refine ⟨by omega, by omega, by omega, by omega, fun h => by omega, fun _ => h.1.1, fun h => by omega, fun h => by omega, fun h => by omega, fun h => by omega, fun _ => ?_⟩
    have hp := h.2
    unfold hasp at hp
    rw [Bool.and_eq_true, decide_eq_true_iff] at hp
    obtain ⟨e, he⟩ := (pwb_isp hp.2).2
    have he2 : n.toNat = 2 ^ e := by simpa using he
    refine ⟨e, ?_, by rw [← he2]; omega⟩
    refine Nat.lt_of_not_le fun hn => ?_
    have h1 : 2 ^ 25 ≤ 2 ^ e := Nat.pow_le_pow_right (by omega) hn
    have h2 : (2 : Nat) ^ 25 = 33554432 := by decide
    omega
  rw [if_neg h3] at h
  by_cases h4 : k = 4
  · subst h4
    rw [if_pos rfl] at h
    simp only [Bool.and_eq_true, decide_eq_true_eq] at h
    have := hasb_dvd h.1.2
    have hp := prod_range h.2 (by omega)
    exact ⟨by omega, by omega, by omega, by omega, fun h => by omega, fun _ => by omega, fun _ => h.1.1, fun h => by omega, fun _ => hp.1, fun _ => hp.2, fun h => by omega⟩
  rw [if_neg h4] at h
  by_cases h5 : k = 5
  · subst h5
    rw [if_pos rfl] at h
    simp only [Bool.and_eq_true, decide_eq_true_eq] at h
    have := hasb_dvd h.1.1.2
    have hp := prod_range h.1.2 (by omega)
    exact ⟨by omega, by omega, by omega, by omega, fun h => by omega, fun _ => by omega, fun _ => h.1.1.1, fun h => by omega, fun _ => hp.1, fun _ => hp.2, fun h => by omega⟩
  rw [if_neg h5] at h
  by_cases h6 : k = 6
  · subst h6
    rw [if_pos rfl] at h
    simp only [Bool.and_eq_true, decide_eq_true_eq] at h
    have := hasb_dvd h.1.1.2
    exact ⟨by omega, by omega, by omega, by omega, fun h => by omega, fun _ => by omega, fun h => by omega, fun _ => h.1.1.1.1, fun _ => by omega, fun h => by omega, fun h => by omega⟩
  rw [if_neg h6] at h
  by_cases h7 : k = 7
  · subst h7
    rw [if_pos rfl] at h
    simp only [Bool.and_eq_true, decide_eq_true_eq] at h
    have := hasb_dvd h.1.1.2
    have hp := hasp_range h.1.2
    exact ⟨by omega, by omega, by omega, by omega, fun h => by omega, fun _ => by omega, fun h => by omega, fun _ => h.1.1.1.1, fun _ => by omega, fun h => by omega, fun h => by omega⟩
  rw [if_neg h7] at h
  cases h
theorem mul_small {x y : Int} (hx : 0 ≤ x) (hx2 : x ≤ 16777216) (hy : 0 ≤ y) (hy2 : y ≤ 16777216) : 0 ≤ x * y ∧ x * y ≤ 281474976710656 := by
  have h1 : 0 ≤ x * y := Int.mul_nonneg hx hy
  have h2 : x * y ≤ 16777216 * y := Int.mul_le_mul_of_nonneg_right hx2 hy
  omega
theorem log_pow (e : Nat) : (2 ^ e).log2 = e := Nat.log2_two_pow
theorem est_rng {k n a b na nb : Int} {m : Nat} (R : Rt k n m na nb) (ha : 4 ≤ k → 1 ≤ a ∧ a ≤ 1152921504606846976) (hb : (k = 4 ∨ k = 5) → 1 ≤ b ∧ b ≤ 1152921504606846976) (h3 : k = 3 → 2 ≤ n) : 1 ≤ estC k n a b na nb ∧ estC k n a b na nb ≤ 1152921504606846976 := by
  obtain ⟨k1, k7, n1, n2, _, _, _, _, a1, b1, p2⟩ := R
  unfold estC
  by_cases e2 : k = 2
  · rw [if_pos e2]; omega
  rw [if_neg e2]
  by_cases e3 : k = 3
  · rw [if_pos e3]
    obtain ⟨e, he, hn⟩ := p2 e3
    have h2 := h3 e3
    have hl : n.toNat.log2 = e := by rw [hn]; simp only [Int.toNat_natCast]; exact log_pow e
    rw [hl]
    have he1 : 1 ≤ e := by
      refine Nat.lt_of_not_le fun h0 => ?_
      obtain rfl : e = 0 := by omega
      rw [hn] at h2
      simp at h2
    have := mul_small (x := n) (y := ((e : Nat) : Int)) (by omega) (by omega) (by omega) (by omega)
    have h5 : n * 1 ≤ n * (e : Int) := Int.mul_le_mul_of_nonneg_left (by omega) (by omega)
    omega
  rw [if_neg e3]
  by_cases e4 : k = 4
  · rw [if_pos e4]
    obtain ⟨⟨x1, x2⟩, y1, y2⟩ := And.intro (a1 (by omega)) (b1 (.inl e4))
    have g1 := capm_nn (Int.mul_nonneg (show 0 ≤ nb by omega) (show 0 ≤ a from by have := ha (by omega); omega))
    have g2 := capm_nn (Int.mul_nonneg (show 0 ≤ na by omega) (show 0 ≤ b from by have := hb (.inl e4); omega))
    have g3 := capm_nn (show 0 ≤ capm (nb * a) + capm (na * b) by omega)
    exact ⟨capm_ge (by omega), capm_le _⟩
  rw [if_neg e4]
  by_cases e5 : k = 5
  · rw [if_pos e5]
    obtain ⟨⟨x1, x2⟩, y1, y2⟩ := And.intro (a1 (by omega)) (b1 (.inr e5))
    obtain ⟨u1, u2⟩ := ha (by omega)
    obtain ⟨v1, v2⟩ := hb (.inr e5)
    have q1 : 1 * a ≤ nb * a := Int.mul_le_mul_of_nonneg_right (by omega) (by omega)
    have q2 : 1 * b ≤ na * b := Int.mul_le_mul_of_nonneg_right (by omega) (by omega)
    have g1 := capm_ge (show 1 ≤ nb * a by omega)
    have g2 := capm_ge (show 1 ≤ na * b by omega)
    exact ⟨capm_ge (by omega), capm_le _⟩
  rw [if_neg e5]
  by_cases e6 : k = 6
  · rw [if_pos e6]
    obtain ⟨u1, u2⟩ := ha (by omega)
    have g1 := capm_nn (show 0 ≤ 2 * a by omega)
    exact ⟨capm_ge (by omega), capm_le _⟩
  rw [if_neg e6]
  by_cases e7 : k = 7
  · rw [if_pos e7]
    obtain ⟨u1, u2⟩ := ha (by omega)
    obtain ⟨x1, x2⟩ := a1 (by omega)
    have g1 := capm_nn (show 0 ≤ 2 * a by omega)
    have g2 := capm_nn (show 0 ≤ capm (2 * a) + na by omega)
    exact ⟨capm_ge (by omega), capm_le _⟩
  rw [if_neg e7]
  have := mul_small (x := n) (y := n) (by omega) n2 (by omega) n2
  have h5 : n * 1 ≤ n * n := Int.mul_le_mul_of_nonneg_left n1 (by omega)
  omega
theorem node_three {n : Int} {m : Nat} {a b : Int} (h : nodeB 3 n m a b = true) : 2 ≤ n := by
  have e : nodeB 3 n m a b = (decide (m = 0) && decide (2 ≤ n) && hasp n) := rfl
  rw [e] at h
  simp only [Bool.and_eq_true, decide_eq_true_eq] at h
  exact h.1.2
/-- All works are in bounds. -/
theorem ests_rng : ∀ (f : Fo), f.pre.all Nd.ok = true → ∀ i, i < f.len → 1 ≤ f.ests.getD i 0 ∧ f.ests.getD i 0 ≤ 1152921504606846976
  | .cons k n ks r, h, 0, _ => by
    rw [Fo.pre, List.all_cons, List.all_append] at h
    simp only [Bool.and_eq_true] at h
    have R := node_rt h.1
    have ih := ests_rng ks h.2.1
    show 1 ≤ estC k n (ks.ests.getD 0 0) (ks.ests.getD 1 0) (ks.n 0) (ks.n 1) ∧ estC k n (ks.ests.getD 0 0) (ks.ests.getD 1 0) (ks.n 0) (ks.n 1) ≤ 1152921504606846976
    refine est_rng R (fun hk => ih 0 ?_) (fun hk => ih 1 ?_) (fun hk => by subst hk; exact node_three h.1)
    · by_cases h4 : k = 4 ∨ k = 5
      · have : ks.len = 2 := R.m2 h4; omega
      · have k7 : k ≤ 7 := R.k7
        have : ks.len = 1 := R.m1 (by show k = 6 ∨ k = 7; omega); omega
    · have : ks.len = 2 := R.m2 hk; omega
  | .cons k n ks r, h, i + 1, hi => by
    rw [Fo.pre, List.all_cons, List.all_append] at h
    simp only [Bool.and_eq_true] at h
    have := ests_rng r h.2.2 i (by simp [Fo.len] at hi; omega)
    simpa [Fo.ests] using this
theorem estN_rng {k n : Int} {ks : Fo} (h1 : (Nd.mk k n ks).ok = true) (h2 : ks.pre.all Nd.ok = true) : 1 ≤ estN k n ks ∧ estN k n ks ≤ 1152921504606846976 := by
  have := ests_rng (.cons k n ks .nil) (by rw [Fo.pre, List.all_cons, List.all_append, h1, h2]; rfl) 0 (by simp [Fo.len])
  exact this
theorem est_one {k n : Int} {ks : Fo} (h1 : (Nd.mk k n ks).ok = true) (h2 : ks.pre.all Nd.ok = true) (hm : ks.len = 1) : estN k n ks = 1152921504606846976 ∨ 2 * (ks.ests.getD 0 0) ≤ estN k n ks := by
  have R := node_rt h1
  obtain ⟨u1, u2⟩ := ests_rng ks h2 0 (by omega)
  obtain ⟨k1, k7, n1, n2, _, m0, m2, m1, a1, b1, p2⟩ := R
  have k7 : k ≤ 7 := k7
  have hk : k = 6 ∨ k = 7 := by
    have hm' : (Nd.mk k n ks).ks.len = 1 := hm
    by_cases h3 : k ≤ 3
    · have := m0 h3; omega
    · by_cases h4 : k = 4 ∨ k = 5
      · have := m2 h4; omega
      · omega
  have ha : 1 ≤ ks.n 0 ∧ ks.n 0 ≤ 16777216 := a1 (by show (4 : Int) ≤ k; omega)
  have hn1 : 1 ≤ n := n1
  have hn2 : n ≤ 16777216 := n2
  unfold estN
  generalize ks.ests.getD 0 0 = a at *
  rcases hk with rfl | rfl
  · show capm (capm (2 * a) + 2 * n) = _ ∨ 2 * a ≤ capm (capm (2 * a) + 2 * n)
    unfold capm; split <;> split <;> omega
  · show capm (capm (capm (2 * a) + ks.n 0) + 3 * n) = _ ∨ 2 * a ≤ capm (capm (capm (2 * a) + ks.n 0) + 3 * n)
    unfold capm; split <;> split <;> split <;> omega
end Go.Proofs.Ytfjioflggkmhcaa
