/- Divisors, and how many: plain numbers, no Go text. -/
import Derived.Test.YtmeaakchnellfaaPhi
namespace Go.Proofs.Ytmeaakchnellfaa
open Go.ChangeShapes Go.WideShapes Go.ChangeAt Go.RowKit
set_option linter.unusedVariables false
/-- Those of 1 to n. -/
def lf (f : Nat → Bool) : Nat → List Nat
  | 0 => []
  | n + 1 => lf f n ++ if f (n + 1) then [n + 1] else []
theorem lf_yes {f : Nat → Bool} {n : Nat} (h : f (n + 1) = true) : lf f (n + 1) = lf f n ++ [n + 1] := by rw [lf, if_pos h]
theorem lf_no {f : Nat → Bool} {n : Nat} (h : f (n + 1) = false) : lf f (n + 1) = lf f n := by rw [lf, h]; simp
theorem lf_len (f : Nat → Bool) : ∀ n, (lf f n).length = cf f n
  | 0 => rfl
  | n + 1 => by
    rw [lf, cf, List.length_append, lf_len f n]
    split <;> rfl
theorem lf_mem {f : Nat → Bool} {x : Nat} : ∀ {n : Nat}, x ∈ lf f n ↔ 1 ≤ x ∧ x ≤ n ∧ f x = true
  | 0 => by simp [lf]; omega
  | n + 1 => by
    rw [lf, List.mem_append, lf_mem]
    constructor
    · rintro (h | h)
      · exact ⟨h.1, by omega, h.2.2⟩
      · split at h
        · rename_i hf
          obtain rfl : x = n + 1 := by simpa using h
          exact ⟨by omega, by omega, hf⟩
        · cases h
    · rintro ⟨h1, h2, h3⟩
      by_cases e : x = n + 1
      · subst e; right; rw [if_pos h3]; simp
      · left; exact ⟨h1, by omega, h3⟩
theorem lf_nodup (f : Nat → Bool) : ∀ n, (lf f n).Nodup
  | 0 => List.nodup_nil
  | n + 1 => by
    rw [lf]
    split
    · rw [List.nodup_append]
      refine ⟨lf_nodup f n, by simp, ?_⟩
      intro a ha b hb
      simp at hb
      have := (lf_mem.1 ha).2.1
      omega
    · simpa using lf_nodup f n
theorem nodup_len : ∀ (a b : List Nat), a.Nodup → (∀ x ∈ a, x ∈ b) → a.length ≤ b.length
  | [], b, _, _ => Nat.zero_le _
  | x :: a, b, h, hs => by
    rw [List.nodup_cons] at h
    have hx := hs x (by simp)
    have h1 := nodup_len a (b.erase x) h.2 (fun y hy => by
      have hne : y ≠ x := fun e => h.1 (by rw [← e]; exact hy)
      exact (List.mem_erase_of_ne hne).2 (hs y (by simp [hy])))
    rw [List.length_erase_of_mem hx] at h1
    have : 0 < b.length := List.length_pos_of_mem hx
    rw [List.length_cons]; omega
theorem cf_inj {f g : Nat → Bool} {s : Nat → Nat} {N M : Nat} (h1 : ∀ x, 1 ≤ x → x ≤ N → f x = true → 1 ≤ s x ∧ s x ≤ M ∧ g (s x) = true)
    (h2 : ∀ x y, 1 ≤ x → x ≤ N → f x = true → 1 ≤ y → y ≤ N → f y = true → s x = s y → x = y) : cf f N ≤ cf g M := by
  rw [← lf_len, ← lf_len, ← List.length_map (f := s)]
  refine nodup_len _ _ ?_ ?_
  · unfold List.Nodup
    rw [List.pairwise_map]
    refine List.Pairwise.imp_of_mem (R := fun a b => a ≠ b) ?_ (lf_nodup f N)
    intro a b ha hb hne e
    obtain ⟨a1, a2, a3⟩ := lf_mem.1 ha
    obtain ⟨b1, b2, b3⟩ := lf_mem.1 hb
    exact hne (h2 a b a1 a2 a3 b1 b2 b3 e)
  · intro x hx
    obtain ⟨y, hy, rfl⟩ := List.mem_map.1 hx
    obtain ⟨a1, a2, a3⟩ := lf_mem.1 hy
    exact lf_mem.2 (h1 y a1 a2 a3)
def dv (N d : Nat) : Bool := decide (d ∣ N)
def tau (N : Nat) : Nat := cf (dv N) N
theorem cf_more {f : Nat → Bool} {a : Nat} : ∀ b, (∀ i, a < i → i ≤ a + b → f i = false) → cf f (a + b) = cf f a := by
  intro b h
  rw [cf_add, cf_last b (fun i h1 h2 => h (a + i) (by omega) (by omega)), Nat.add_zero]
theorem dv_big {N : Nat} (hN : 1 ≤ N) {d : Nat} (h : N < d) : dv N d = false := by
  unfold dv
  exact decide_eq_false (fun hd => by have := Nat.le_of_dvd hN hd; omega)
theorem tau_up {N : Nat} (hN : 1 ≤ N) (M : Nat) (h : N ≤ M) : cf (dv N) M = tau N := by
  obtain ⟨b, rfl⟩ : ∃ b, M = N + b := ⟨M - N, by omega⟩
  exact cf_more b (fun i h1 _ => dv_big hN h1)
theorem tau_pow {p m : Nat} (hp : isP p) (hm1 : 1 ≤ m) (hm : ¬ p ∣ m) : ∀ e, tau (p ^ e * m) = (e + 1) * tau m
  | 0 => by rw [Nat.pow_zero, Nat.one_mul, Nat.zero_add, Nat.one_mul]
  | e + 1 => by
    have hp2 := hp.1
    have hpp : ∀ k, 1 ≤ p ^ k := fun k => Nat.pow_pos (by omega)
    have hX : 1 ≤ p ^ e * m := Nat.mul_pos (hpp e) hm1
    have hle : p ^ e * m ≤ p ^ (e + 1) * m := Nat.mul_le_mul_right m (Nat.pow_le_pow_right (by omega) (by omega))
    have hsub : ∀ d, d ∣ p ^ e * m → d ∣ p ^ (e + 1) * m := fun d hd => Nat.dvd_trans hd (Nat.mul_dvd_mul_right (Nat.pow_dvd_pow p (by omega)) m)
    have h1 := cf_split (dv (p ^ (e + 1) * m)) (dv (p ^ e * m)) (p ^ (e + 1) * m)
    have h2 : cf (fun i => dv (p ^ e * m) i && dv (p ^ (e + 1) * m) i) (p ^ (e + 1) * m) = (e + 1) * tau m := by
      rw [← tau_pow hp hm1 hm e, ← tau_up hX _ hle]
      refine cf_congr _ (fun i _ _ => ?_)
      unfold dv
      rw [Bool.eq_iff_iff, Bool.and_eq_true, decide_eq_true_iff, decide_eq_true_iff]
      exact ⟨fun h => h.1, fun h => ⟨h, hsub i h⟩⟩
    have key : ∀ i, 1 ≤ i → (dv (p ^ (e + 1) * m) i && !dv (p ^ e * m) i) = (decide (p ^ (e + 1) ∣ i) && dv (p ^ (e + 1) * m) i) := by
      intro i hi
      unfold dv
      rw [Bool.eq_iff_iff, Bool.and_eq_true, Bool.and_eq_true, decide_eq_true_iff, Bool.not_eq_true', decide_eq_false_iff_not, decide_eq_true_iff]
      constructor
      · rintro ⟨a, b⟩
        refine ⟨?_, a⟩
        obtain ⟨c, h3, h4⟩ := mu_split hp2 i hi
        have hcp : Nat.Coprime c (p ^ (e + 1)) := by
          refine Nat.Coprime.pow_right _ ?_
          rcases hp.dvd (Nat.gcd_dvd_right c p) with g | g
          · exact g
          · exact absurd (by rw [← g]; exact Nat.gcd_dvd_left c p) h4
        have hcm : c ∣ m := Nat.Coprime.dvd_of_dvd_mul_left hcp (Nat.dvd_trans ⟨p ^ mu p i, by rw [Nat.mul_comm]; exact h3⟩ a)
        by_cases hle2 : e + 1 ≤ mu p i
        · rw [h3]; exact Nat.dvd_mul_right_of_dvd (Nat.pow_dvd_pow p hle2) c
        · exfalso
          apply b
          rw [h3]
          exact Nat.mul_dvd_mul (Nat.pow_dvd_pow p (by omega)) hcm
      · rintro ⟨a, b⟩
        refine ⟨b, fun c => ?_⟩
        have h3 := Nat.dvd_trans a c
        rw [Nat.pow_succ] at h3
        have := Nat.dvd_of_mul_dvd_mul_left (hpp e) h3
        exact hm this
    have h3 : cf (fun i => dv (p ^ (e + 1) * m) i && !dv (p ^ e * m) i) (p ^ (e + 1) * m) = tau m := by
      rw [cf_congr _ (fun i hi _ => key i hi), cf_mult (hpp (e + 1))]
      refine cf_congr m (fun j _ _ => ?_)
      unfold dv
      rw [Bool.eq_iff_iff, decide_eq_true_iff, decide_eq_true_iff]
      exact ⟨fun h => Nat.dvd_of_mul_dvd_mul_left (hpp (e + 1)) h, fun h => Nat.mul_dvd_mul_left _ h⟩
    unfold tau at *
    rw [h1, h2, h3, Nat.succ_mul (e + 1)]
/-- How many divisors the primes say. -/
def nd : List (Nat × Nat) → Nat
  | [] => 1
  | x :: l => (x.2 + 1) * nd l
theorem nd_app : ∀ (a b : List (Nat × Nat)), nd (a ++ b) = nd a * nd b
  | [], b => by rw [List.nil_append, nd, Nat.one_mul]
  | x :: a, b => by rw [List.cons_append, nd, nd, nd_app a b, Nat.mul_assoc]
theorem nd_one (x : Nat × Nat) : nd [x] = x.2 + 1 := by rw [nd, nd, Nat.mul_one]
theorem tau_one : tau 1 = 1 := by unfold tau; rw [cf, cf]; simp [dv]
theorem tau_rst {N : Nat} (hN : 1 ≤ N) : ∀ (f p n : Nat), n + N + 2 - p ≤ f → Rst N p n → tau N = nd (fl N p) * tau n → tau N = nd (fa N) := by
  intro f
  induction f with
  | zero => intro p n hf h; have := h.top; omega
  | succ f ih =>
    intro p n hf h he
    by_cases h1 : n = 1
    · subst h1
      unfold fa
      rw [h.done, he, tau_one, Nat.mul_one]
    have ho := h.one
    have ht := h.top
    by_cases hd : p ∣ n
    · obtain ⟨m, e1, e2⟩ := mu_split h.two n ho
      have hm1 : 1 ≤ m := by
        rcases Nat.eq_zero_or_pos m with z | z
        · exact absurd (by rw [z]; exact Nat.dvd_zero p) e2
        · exact z
      have hle : m ≤ n := by
        have := Nat.le_mul_of_pos_left m (Nat.pow_pos (n := mu p n) (show 0 < p by have := h.two; omega))
        omega
      obtain ⟨g1, g2⟩ := h.div hd e1 e2
      refine ih (p + 1) m (by omega) g1 ?_
      rw [g2, nd_app, nd_one, Nat.mul_assoc, ← tau_pow (h.prime hd) hm1 e2, ← e1, he]
    · obtain ⟨g1, g2⟩ := h.skip hd (by omega)
      exact ih (p + 1) n (by omega) g1 (by rw [g2]; exact he)
theorem tau_nd {N : Nat} (hN : 1 ≤ N) : tau N = nd (fa N) := tau_rst hN _ 2 N (Nat.le_refl _) (Rst.start hN) (by rw [fl_two, nd, Nat.one_mul])
/-- Divisors whose square is another number than N. -/
def dw (N d : Nat) : Bool := dv N d && decide (d * d ≠ N)
theorem dv_div {N d : Nat} (hN : 1 ≤ N) (h : d ∣ N) : 1 ≤ N / d ∧ N / d ≤ N ∧ N / d ∣ N ∧ N / (N / d) = d ∧ d * (N / d) = N := by
  obtain ⟨c, rfl⟩ := h
  have hd : 0 < d := by rcases Nat.eq_zero_or_pos d with e | e; subst e; omega; exact e
  have hc : 0 < c := by rcases Nat.eq_zero_or_pos c with e | e; subst e; omega; exact e
  rw [Nat.mul_div_cancel_left _ hd]
  exact ⟨hc, Nat.le_mul_of_pos_left c hd, Nat.dvd_mul_left c d, by rw [Nat.mul_comm, Nat.mul_div_cancel_left _ hc], rfl⟩
theorem tau_parts {N K : Nat} (hN : 1 ≤ N) (h1 : K * K ≤ N) (h2 : N < (K + 1) * (K + 1)) : cf (dv N) K + cf (dw N) K = tau N := by
  have hK : K ≤ N := Nat.le_trans (by rcases Nat.eq_zero_or_pos K with e | e; subst e; omega; exact Nat.le_mul_of_pos_left K e) h1
  obtain ⟨b, hb⟩ : ∃ b, N = K + b := ⟨N - K, by omega⟩
  have e1 : tau N = cf (dv N) K + cf (fun i => dv N (K + i)) b := by
    unfold tau
    conv => lhs; arg 2; rw [hb]
    exact cf_add _ K b
  rw [e1]
  congr 1
  have hsq : ∀ {x}, K < x → N < x * x := fun {x} hx => Nat.lt_of_lt_of_le h2 (Nat.mul_le_mul hx hx)
  apply Nat.le_antisymm
  · refine cf_inj (s := fun d => N / d - K) ?_ ?_
    · intro x x1 x2 hx
      unfold dw dv at hx
      rw [Bool.and_eq_true, decide_eq_true_iff, decide_eq_true_iff] at hx
      obtain ⟨g1, g2, g3, g4, g5⟩ := dv_div hN hx.1
      have hlt : K < N / x := by
        by_cases h : K < N / x
        · exact h
        · have a1 : x * (N / x) ≤ x * K := Nat.mul_le_mul_left x (by omega)
          have a2 : x * K ≤ K * K := Nat.mul_le_mul_right K x2
          have a3 : x * K = K * K := by omega
          have : x = K := Nat.eq_of_mul_eq_mul_right (by omega) a3
          subst this
          exact absurd (by omega) hx.2
      refine ⟨by omega, by omega, ?_⟩
      show dv N (K + (N / x - K)) = true
      rw [show K + (N / x - K) = N / x by omega]
      unfold dv
      exact decide_eq_true g3
    · intro x y x1 x2 hx y1 y2 hy e
      unfold dw dv at hx hy
      rw [Bool.and_eq_true, decide_eq_true_iff, decide_eq_true_iff] at hx hy
      obtain ⟨g1, g2, g3, g4, g5⟩ := dv_div hN hx.1
      obtain ⟨k1, k2, k3, k4, k5⟩ := dv_div hN hy.1
      have hltx : K < N / x := by
        by_cases h : K < N / x
        · exact h
        · have a1 : x * (N / x) ≤ x * K := Nat.mul_le_mul_left x (by omega)
          have a2 : x * K ≤ K * K := Nat.mul_le_mul_right K x2
          have a3 : x * K = K * K := by omega
          have : x = K := Nat.eq_of_mul_eq_mul_right (by omega) a3
          subst this
          exact absurd (by omega) hx.2
      have hlty : K < N / y := by
        by_cases h : K < N / y
        · exact h
        · have a1 : y * (N / y) ≤ y * K := Nat.mul_le_mul_left y (by omega)
          have a2 : y * K ≤ K * K := Nat.mul_le_mul_right K y2
          have a3 : y * K = K * K := by omega
          have : y = K := Nat.eq_of_mul_eq_mul_right (by omega) a3
          subst this
          exact absurd (by omega) hy.2
      have e2 : N / x = N / y := by omega
      rw [← g4, e2, k4]
  · refine cf_inj (s := fun i => N / (K + i)) ?_ ?_
    · intro x x1 x2 hx
      unfold dv at hx
      have hx := of_decide_eq_true hx
      obtain ⟨g1, g2, g3, g4, g5⟩ := dv_div hN hx
      have hs := hsq (show K < K + x by omega)
      have hlt : N / (K + x) ≤ K := by
        by_cases h : N / (K + x) ≤ K
        · exact h
        · have a1 : (K + 1) * (K + 1) ≤ (K + x) * (N / (K + x)) := Nat.mul_le_mul (by omega) (by omega)
          omega
      refine ⟨g1, hlt, ?_⟩
      unfold dw dv
      rw [decide_eq_true g3, Bool.true_and]
      refine decide_eq_true (fun e => ?_)
      have a1 : N / (K + x) * (N / (K + x)) ≤ K * (N / (K + x)) := Nat.mul_le_mul_right _ hlt
      have a2 : K * (N / (K + x)) < (K + x) * (N / (K + x)) := Nat.mul_lt_mul_of_pos_right (by omega) g1
      omega
    · intro x y x1 x2 hx y1 y2 hy e
      unfold dv at hx hy
      obtain ⟨_, _, _, g4, _⟩ := dv_div hN (of_decide_eq_true hx)
      obtain ⟨_, _, _, k4, _⟩ := dv_div hN (of_decide_eq_true hy)
      have e : N / (K + x) = N / (K + y) := e
      have : K + x = K + y := by rw [← g4, e, k4]
      omega
end Go.Proofs.Ytmeaakchnellfaa
