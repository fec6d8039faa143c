/- Put together by program (merge.py): Phi. -/
import Derived.Test.YtcfmiflhhjoofaaM39
/- How many numbers are coprime to one: plain numbers, no Go text. -/
namespace Go.Proofs.Ytcfmiflhhjoofaa
open Go.ChangeShapes Go.WideShapes Go.ChangeAt Go.RowKit
set_option linter.unusedVariables false
/-- How many of 1 to n. -/
def cf (f : Nat → Bool) : Nat → Nat
  | 0 => 0
  | n + 1 => cf f n + if f (n + 1) then 1 else 0
theorem cf_congr {f g : Nat → Bool} : ∀ n, (∀ i, 1 ≤ i → i ≤ n → f i = g i) → cf f n = cf g n
  | 0, _ => rfl
  | n + 1, h => by rw [cf, cf, cf_congr n (fun i h1 h2 => h i h1 (by omega)), h (n + 1) (by omega) (Nat.le_refl _)]
theorem cf_add (f : Nat → Bool) (a : Nat) : ∀ b, cf f (a + b) = cf f a + cf (fun i => f (a + i)) b
  | 0 => rfl
  | b + 1 => by rw [← Nat.add_assoc, cf, cf_add f a b, cf, Nat.add_assoc, Nat.add_assoc]
theorem cf_le (f : Nat → Bool) : ∀ n, cf f n ≤ n
  | 0 => Nat.le_refl _
  | n + 1 => by have := cf_le f n; rw [cf]; split <;> omega
theorem cf_period {f : Nat → Bool} {M : Nat} (h : ∀ i, f (M + i) = f i) : ∀ k, cf f (k * M) = k * cf f M
  | 0 => by rw [Nat.zero_mul, Nat.zero_mul]; rfl
  | k + 1 => by
    have hk : ∀ k i, f (k * M + i) = f i := by
      intro k
      induction k with
      | zero => intro i; rw [Nat.zero_mul, Nat.zero_add]
      | succ k ih => intro i; rw [Nat.succ_mul, Nat.add_assoc, ih, h]
    rw [Nat.succ_mul, cf_add, cf_period h k, Nat.succ_mul]
    congr 1
    exact cf_congr M (fun i _ _ => hk k i)
theorem cf_last {h : Nat → Bool} : ∀ p, (∀ i, 1 ≤ i → i ≤ p → h i = false) → cf h p = 0
  | 0, _ => rfl
  | p + 1, hh => by rw [cf, cf_last p (fun i h1 h2 => hh i h1 (by omega)), hh (p + 1) (by omega) (Nat.le_refl _)]; rfl
theorem cf_mult {p : Nat} (hp : 1 ≤ p) (f : Nat → Bool) : ∀ M, cf (fun i => decide (p ∣ i) && f i) (p * M) = cf (fun j => f (p * j)) M
  | 0 => rfl
  | M + 1 => by
    rw [Nat.mul_succ, cf_add, cf_mult hp f M, cf]
    congr 1
    obtain ⟨r, rfl⟩ : ∃ r, p = r + 1 := ⟨p - 1, by omega⟩
    rw [cf, cf_last]
    · have e : (r + 1) * M + (r + 1) = (r + 1) * (M + 1) := (Nat.mul_succ _ _).symm
      rw [e, decide_eq_true (Nat.dvd_mul_right _ _), Bool.true_and, Nat.zero_add]
    · intro i h1 h2
      rw [Bool.and_eq_false_iff]
      left
      rw [decide_eq_false_iff_not]
      intro hd
      have := (Nat.dvd_add_right (Nat.dvd_mul_right (r + 1) M)).1 hd
      have := Nat.le_of_dvd (by omega) this
      omega
theorem cf_split (f g : Nat → Bool) : ∀ n, cf f n = cf (fun i => g i && f i) n + cf (fun i => f i && !g i) n
  | 0 => rfl
  | n + 1 => by
    rw [cf, cf, cf, cf_split f g n]
    cases f (n + 1) <;> cases g (n + 1) <;> simp <;> omega
/-- Does none of these divide i? -/
def good (S : List Nat) (i : Nat) : Bool := S.all fun q => decide (¬ q ∣ i)
theorem good_iff {S : List Nat} {i : Nat} : good S i = true ↔ ∀ q ∈ S, ¬ q ∣ i := by
  unfold good
  rw [List.all_eq_true]
  constructor
  · intro h q hq; exact of_decide_eq_true (h q hq)
  · intro h q hq; exact decide_eq_true (h q hq)
theorem good_snoc (S : List Nat) (p i : Nat) : good (S ++ [p]) i = (good S i && !decide (p ∣ i)) := by
  unfold good
  rw [List.all_append]
  simp
theorem phi_step {S : List Nat} {p M : Nat} (hp : isP p) (hS : ∀ q ∈ S, isP q ∧ q ≠ p ∧ q ∣ M) :
    cf (good S) (p * M) = p * cf (good S) M ∧ cf (good (S ++ [p])) (p * M) = cf (good S) M * (p - 1) := by
  have h1 : cf (good S) (p * M) = p * cf (good S) M := by
    refine cf_period (fun i => ?_) p
    have : ∀ q ∈ S, (q ∣ M + i ↔ q ∣ i) := fun q hq => Nat.dvd_add_right (hS q hq).2.2
    rw [Bool.eq_iff_iff, good_iff, good_iff]
    constructor
    · intro h q hq hd; exact h q hq ((this q hq).2 hd)
    · intro h q hq hd; exact h q hq ((this q hq).1 hd)
  refine ⟨h1, ?_⟩
  have h2 := cf_split (good S) (fun i => decide (p ∣ i)) (p * M)
  rw [cf_mult (by have := hp.1; omega)] at h2
  have h3 : cf (fun j => good S (p * j)) M = cf (good S) M := by
    refine cf_congr M (fun i _ _ => ?_)
    rw [Bool.eq_iff_iff, good_iff, good_iff]
    constructor
    · intro h q hq hd; exact h q hq (Nat.dvd_mul_left_of_dvd hd p)
    · intro h q hq hd
      obtain ⟨a, b, _⟩ := hS q hq
      rcases a.dvd_mul hd with h' | h'
      · rcases hp.dvd h' with e | e
        · have := a.1; omega
        · exact b e
      · exact h q hq h'
  have h4 : cf (good (S ++ [p])) (p * M) = cf (fun i => good S i && !decide (p ∣ i)) (p * M) := cf_congr _ (fun i _ _ => good_snoc S p i)
  rw [h3, h1] at h2
  rw [h4]
  obtain ⟨r, hr⟩ : ∃ r, p = r + 1 := ⟨p - 1, by have := hp.1; omega⟩
  have e : p * cf (good S) M = cf (good S) M * (p - 1) + cf (good S) M := by rw [hr, Nat.add_sub_cancel, Nat.mul_comm, Nat.mul_succ]
  omega
theorem least_prime : ∀ n, 2 ≤ n → ∃ p, isP p ∧ p ∣ n := by
  intro n
  induction n using Nat.strongRecOn with
  | _ n ih =>
    intro hn
    by_cases h : isP n
    · exact ⟨n, h, Nat.dvd_refl n⟩
    · have : ∃ d, 2 ≤ d ∧ d < n ∧ d ∣ n := Classical.byContradiction fun hc => h ⟨hn, fun d h1 h2 h3 => hc ⟨d, h1, h2, h3⟩⟩
      obtain ⟨d, h1, h2, h3⟩ := this
      obtain ⟨p, hp, hd⟩ := ih d h2 h1
      exact ⟨p, hp, Nat.dvd_trans hd h3⟩
/-- How many are coprime to N. -/
def cop (N i : Nat) : Bool := decide (Nat.gcd i N = 1)
def prs (N : Nat) : List Nat := (fa N).map (·.1)
theorem prs_mem {N p : Nat} (hN : 1 ≤ N) : p ∈ prs N ↔ isP p ∧ p ∣ N := by
  unfold prs
  rw [List.mem_map]
  constructor
  · rintro ⟨⟨q, e⟩, hx, rfl⟩
    obtain ⟨h1, h2, _⟩ := (fa_mem hN).1 hx
    exact ⟨h1, h2⟩
  · rintro ⟨h1, h2⟩
    exact ⟨(p, mu p N), (fa_mem hN).2 ⟨h1, h2, rfl⟩, rfl⟩
theorem cop_good {N : Nat} (hN : 1 ≤ N) (i : Nat) : good (prs N) i = cop N i := by
  unfold cop
  rw [Bool.eq_iff_iff, good_iff, decide_eq_true_iff]
  constructor
  · intro h
    by_cases h2 : 2 ≤ Nat.gcd i N
    · obtain ⟨p, hp, hd⟩ := least_prime _ h2
      exact absurd (Nat.dvd_trans hd (Nat.gcd_dvd_left i N)) (h p ((prs_mem hN).2 ⟨hp, Nat.dvd_trans hd (Nat.gcd_dvd_right i N)⟩))
    · have : 0 < Nat.gcd i N := Nat.gcd_pos_of_pos_right i hN
      omega
  · intro h q hq hd
    obtain ⟨h1, h2⟩ := (prs_mem hN).1 hq
    have := Nat.dvd_gcd hd h2
    rw [h] at this
    have := Nat.le_of_dvd (by omega) this
    have := h1.1
    omega
theorem fl_lt {N k : Nat} : ∀ x ∈ fl N k, x.1 < k := by
  intro x hx
  unfold fl at hx
  obtain ⟨p, hp, rfl⟩ := List.mem_map.1 hx
  rw [List.mem_filter, List.mem_range] at hp
  exact hp.1
theorem fl_nodup (N : Nat) : ∀ k, ((fl N k).map (·.1)).Nodup
  | 0 => List.nodup_nil
  | k + 1 => by
    by_cases h : isP k ∧ k ∣ N
    · rw [fl_yes h.1 h.2, List.map_append, List.nodup_append]
      refine ⟨fl_nodup N k, by simp, ?_⟩
      intro a ha b hb
      simp at hb
      subst hb
      obtain ⟨x, hx, rfl⟩ := List.mem_map.1 ha
      have := fl_lt x hx
      omega
    · rw [fl_no h]; exact fl_nodup N k
/-- What is left when the first i primes were looked at. -/
def ph (N i : Nat) : Nat := cf (good ((prs N).take i)) N
theorem ph_step {N : Nat} (hN : 1 ≤ N) {i : Nat} (hi : i < (fa N).length) :
    ∃ p c : Nat, ((fa N).getD i (0, 0)).1 = p ∧ 2 ≤ p ∧ p ≤ N ∧ ph N i / p = c ∧ c ≤ N ∧ ph N (i + 1) = c * (p - 1) ∧ c * (p - 1) ≤ N := by
  have hlen : (prs N).length = (fa N).length := by unfold prs; rw [List.length_map]
  have hi' : i < (prs N).length := by omega
  have hpm : (prs N)[i] ∈ prs N := List.getElem_mem hi'
  have hpe : ((fa N).getD i (0, 0)).1 = (prs N)[i] := by
    have : (prs N)[i]? = some ((fa N)[i].1) := by unfold prs; rw [List.getElem?_map, List.getElem?_eq_getElem hi]; rfl
    rw [List.getElem?_eq_getElem hi'] at this
    have e := Option.some.inj this
    rw [e]
    simp [List.getD, hi]
  have hnd : (prs N).Nodup := fl_nodup N (N + 1)
  have hne : ∀ q ∈ (prs N).take i, q ≠ (prs N)[i] := by
    intro q hq e
    obtain ⟨j, hj, rfl⟩ := List.getElem_of_mem hq
    rw [List.length_take] at hj
    rw [List.getElem_take] at e
    have := (List.getElem_inj hnd).1 e
    omega
  have htk : (prs N).take (i + 1) = (prs N).take i ++ [(prs N)[i]] := List.take_succ_eq_append_getElem hi'
  generalize (prs N)[i] = p at *
  obtain ⟨hp, hd⟩ := (prs_mem hN).1 hpm
  obtain ⟨M, hM⟩ := hd
  have hS : ∀ q ∈ (prs N).take i, isP q ∧ q ≠ p ∧ q ∣ M := by
    intro q hq
    obtain ⟨h1, h2⟩ := (prs_mem hN).1 (List.mem_of_mem_take hq)
    refine ⟨h1, hne q hq, ?_⟩
    rw [hM] at h2
    rcases h1.dvd_mul h2 with h | h
    · rcases hp.dvd h with e | e
      · have := h1.1; omega
      · exact absurd e (hne q hq)
    · exact h
  obtain ⟨e1, e2⟩ := phi_step hp hS
  rw [← hM] at e1 e2
  have hp2 := hp.1
  have hle := cf_le (good ((prs N).take i)) N
  refine ⟨p, cf (good ((prs N).take i)) M, hpe, hp2, ?_, ?_, ?_, ?_, ?_⟩
  · have : M ≠ 0 := fun e => by rw [e] at hM; omega
    have := Nat.le_mul_of_pos_right p (Nat.pos_of_ne_zero this)
    omega
  · unfold ph
    rw [e1, Nat.mul_div_cancel_left _ (by omega)]
  · have := Nat.le_mul_of_pos_left (cf (good ((prs N).take i)) M) (show 0 < p by omega)
    omega
  · unfold ph
    rw [htk, e2]
  · rw [← e2]; exact cf_le _ _
theorem ph_zero (N : Nat) : ph N 0 = N := by
  unfold ph
  have : ∀ n, cf (good ((prs N).take 0)) n = n := by
    intro n
    induction n with
    | zero => rfl
    | succ n ih => rw [cf, ih]; rfl
  exact this N
theorem ph_all {N : Nat} (hN : 1 ≤ N) : ph N (fa N).length = cf (cop N) N := by
  unfold ph
  rw [List.take_of_length_le (by unfold prs; rw [List.length_map]; exact Nat.le_refl _)]
  exact cf_congr N (fun i _ _ => cop_good hN i)
theorem cop_bd {N : Nat} (hN : 1 < N) : 1 ≤ cf (cop N) N ∧ cf (cop N) N < N := by
  constructor
  · obtain ⟨k, rfl⟩ : ∃ k, N = 1 + k := ⟨N - 1, by omega⟩
    have : cf (cop (1 + k)) 1 = 1 := by
      rw [cf, cf]
      unfold cop
      simp
    rw [cf_add, this]; omega
  · obtain ⟨k, rfl⟩ : ∃ k, N = k + 1 := ⟨N - 1, by omega⟩
    rw [cf]
    have := cf_le (cop (k + 1)) k
    have : cop (k + 1) (k + 1) = false := by
      unfold cop
      exact decide_eq_false (by rw [Nat.gcd_self]; omega)
    rw [this]
    simp; omega
end Go.Proofs.Ytcfmiflhhjoofaa
