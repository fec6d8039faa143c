/- The plans of a size are those that were reckoned. -/
import Derived.Test.YtfjioflggkmhcaaSizet
namespace Go.Proofs.Ytfjioflggkmhcaa
open Go.ChangeShapes Go.WideShapes Go.ChangeAt Go.RowKit
set_option linter.unusedVariables false
set_option linter.unusedSimpArgs false
theorem fa_C {n : Nat} (h1 : 1 ≤ n) (h2 : n ≤ 16777216) (hn : n ∣ 18446744069414584320) : fa n = faC n := by
  rw [fa_ps h1 hn]
  unfold faC
  refine List.map_congr_left (fun p hp => ?_)
  have hps : p ∈ PS := (List.mem_filter.1 hp).1
  rw [mu_C (ps_isP hps).1 25 n h1 (by omega)]
theorem last_C {n : Nat} (h1 : 1 ≤ n) (hn : n ∣ 18446744069414584320) : lastP n = lastC n := by
  unfold lastP lastC
  rw [fa_ps h1 hn, List.length_map]
  simp only [List.getD, List.getElem?_map]
  cases (dvs n)[(dvs n).length - 1]? <;> rfl
theorem ps_less {n : Nat} (h : PS.contains n = true) (h3 : 2 ≤ n) : pwb ((n - 1 : Nat) : Int) = true ∧ n - 1 ∣ 18446744069414584320 ∧ n ≤ 65537 := by
  rw [List.contains_iff_mem] at h
  unfold PS at h
  simp only [List.mem_cons, List.not_mem_nil, or_false] at h
  rcases h with rfl | rfl | rfl | rfl | rfl | rfl
  · exact ⟨by decide, ⟨18446744069414584320, by decide⟩, by decide⟩
  · exact ⟨by decide, ⟨9223372034707292160, by decide⟩, by decide⟩
  · exact ⟨by decide, ⟨4611686017353646080, by decide⟩, by decide⟩
  · exact ⟨by decide, ⟨1152921504338411520, by decide⟩, by decide⟩
  · exact ⟨by decide +kernel, ⟨72057594021150720, by decide⟩, by decide⟩
  · exact ⟨by decide +kernel, ⟨281474976645120, by decide⟩, by decide⟩
theorem pl_C (n : Nat) : ∀ f g : Nat, 1 ≤ n → n ≤ 16777216 → n ∣ 18446744069414584320 → n ≤ f → (n < 2 ^ g ∨ (pwb (n : Int) = true ∧ 1 ≤ g)) → plT f n = plC g n := by
  induction n using Nat.strongRecOn with
  | _ n ih =>
  intro f g h1 h2 hn hf hg
  obtain ⟨f, rfl⟩ : ∃ z, f = z + 1 := ⟨f - 1, by omega⟩
  obtain ⟨g, rfl⟩ : ∃ z, g = z + 1 := by
    rcases hg with hg | hg
    · exact ⟨g - 1, by rcases Nat.eq_zero_or_pos g with h | h; · subst h; simp at hg; omega
                       · omega⟩
    · exact ⟨g - 1, by omega⟩
  rw [plT, plC]
  by_cases c1 : 2 ≤ n ∧ n ≤ 5
  · rw [if_pos c1, if_pos c1]
  rw [if_neg c1, if_neg c1]
  by_cases c2 : n = 1 ∨ (n ≤ 64 ∧ pwb (n : Int) = false)
  · rw [if_pos c2, if_pos c2]
  rw [if_neg c2, if_neg c2]
  by_cases c3 : pwb (n : Int) = true
  · rw [if_pos c3, if_pos c3]
  rw [if_neg c3, if_neg c3, prb_ps h2 hn]
  have hg' : n < 2 ^ (g + 1) := by
    rcases hg with hg | hg
    · exact hg
    · exact absurd hg.1 c3
  have h65 : 65 ≤ n := by
    have : ¬ n ≤ 64 := fun h => c2 (.inr ⟨h, by simpa using c3⟩)
    omega
  by_cases c4 : PS.contains n = true
  · rw [if_pos c4, if_pos c4]
    obtain ⟨k1, k2, _⟩ := ps_less c4 (by omega)
    have hg1 : 1 ≤ g := by
      rcases Nat.eq_zero_or_pos g with h | h
      · subst h; simp at hg'; omega
      · exact h
    rw [ih (n - 1) (by omega) f g (by omega) (by omega) k2 (by omega) (.inr ⟨k1, hg1⟩)]
  rw [if_neg c4, if_neg c4]
  have hpr : ¬ prb (n : Int) = true := by rw [prb_ps h2 hn]; exact c4
  obtain ⟨_, q2, q3, q4⟩ := prb_fa h1 h2 hpr (by omega)
  rw [← last_C h1 hn]
  have hdv : lastP n * (n / lastP n) = n := Nat.mul_div_cancel' q3
  have hlt : n / lastP n < n := Nat.div_lt_self (by omega) (by omega)
  have hdq : n / lastP n ∣ n := ⟨lastP n, by rw [Nat.mul_comm]; exact hdv.symm⟩
  generalize n / lastP n = nq at *
  generalize lastP n = lp at *
  have hq : 2 ≤ nq := by
    rcases Nat.lt_or_ge nq 2 with h | h
    · have : nq = 0 ∨ nq = 1 := by omega
      rcases this with e | e
      · rw [e] at hdv; omega
      · rw [e] at hdv; omega
    · exact h
  have e1 : 2 * nq ≤ n := by have := Nat.mul_le_mul_right nq q2; omega
  have e2 : lp * 2 ≤ n := by have := Nat.mul_le_mul_left lp hq; omega
  rw [Nat.pow_succ] at hg'
  rw [ih lp q4 f g (by omega) (by omega) (Nat.dvd_trans q3 hn) (by omega) (.inl (by omega)), ih nq hlt f g (by omega) (by omega) (Nat.dvd_trans hdq hn) (by omega) (.inl (by omega))]
theorem pl_40 {n : Nat} (h1 : 1 ≤ n) (h2 : n ≤ 16777216) (hn : n ∣ 18446744069414584320) : plT 16777216 n = plC 40 n := pl_C n _ 40 h1 h2 hn h2 (.inl (by omega))
theorem two_C {k : Int} {n p : Nat} (h1 : 1 ≤ n) (h2 : n ≤ 16777216) (hn : n ∣ 18446744069414584320) (hp : 2 ≤ p) (hd : p ∣ n) : twoT k n p = twoC k n p := by
  have hle := Nat.le_of_dvd h1 hd
  unfold twoT twoC
  rw [pl_40 (by omega) (by omega) (Nat.dvd_trans hd hn), pl_40 (Nat.div_pos hle (by omega)) (Nat.le_trans (Nat.div_le_self _ _) h2) (Nat.dvd_trans ⟨p, by rw [Nat.mul_comm]; exact (Nat.mul_div_cancel' hd).symm⟩ hn)]
theorem prs_C {k : Int} {n : Nat} (h1 : 1 ≤ n) (h2 : n ≤ 16777216) (hn : n ∣ 18446744069414584320) : ∀ ps : List Nat, (∀ p, p ∈ ps → 2 ≤ p ∧ p ∣ n) → prsL k n ps = prsC k n ps
  | [], _ => rfl
  | p :: ps, h => by
    obtain ⟨g1, g2⟩ := h p (List.mem_cons_self ..)
    rw [prsL, prsC, prs_C h1 h2 hn ps (fun q hq => h q (List.mem_cons_of_mem _ hq)), two_C h1 h2 hn g1 g2]
theorem cand_C {n : Nat} (h1 : 1 ≤ n) (h2 : n ≤ 16777216) (hn : n ∣ 18446744069414584320) : candL n = candC n := by
  unfold candL candC
  rw [prs_C h1 h2 hn (prN n) (fun p hp => prN_in h1 hp), prs_C h1 h2 hn (pwN n) (fun p hp => pwN_in h1 hp)]
  have e1 : prN n = (faC n).map (·.1) := by unfold prN; rw [fa_C h1 h2 hn]
  have e2 : pwN n = (faC n).map (fun x => x.1 ^ x.2) := by unfold pwN; rw [fa_C h1 h2 hn]
  have e3 : opt (3 ≤ n ∧ prb (n : Int) = true) (oneT 6 n (n - 1)) = opt (3 ≤ n ∧ PS.contains n = true) (oneC 6 n (n - 1)) := by
    rw [prb_ps h2 hn]
    by_cases hc : 3 ≤ n ∧ PS.contains n = true
    · obtain ⟨_, k2, _⟩ := ps_less hc.2 (by omega)
      rw [opt_yes hc, opt_yes hc]
      unfold oneT oneC
      rw [pl_40 (by omega) (by omega) k2]
    · rw [opt_no hc, opt_no hc]
  have e4 : opt (2 ≤ n ∧ n ≤ 8388608) (oneT 7 n (abvN (2 * n - 1))) = opt (2 ≤ n ∧ n ≤ 8388608) (oneC 7 n (abvN (2 * n - 1))) := by
    by_cases hc : 2 ≤ n ∧ n ≤ 8388608
    · rw [opt_yes hc, opt_yes hc]
      have hi := abvN_is (n := 2 * n - 1) (by omega)
      have a1 := abv_pos hi
      have a2 := abv_le hi (by omega)
      unfold oneT oneC
      rw [pl_40 a1 a2 ?_]
      obtain ⟨j, e, _, h3⟩ := hi
      rw [e]
      have hj : j ≤ 24 := by
        by_cases hj : j ≤ 24
        · exact hj
        · have := h3 24 (by omega); omega
      exact Nat.dvd_trans (Nat.pow_dvd_pow 2 (show j ≤ 32 by omega)) ⟨4294967295, by decide⟩
    · rw [opt_no hc, opt_no hc]
  rw [e1, e2, e3, e4]
theorem right_all {n : Nat} (h1 : 1 ≤ n) (h2 : n ≤ 16777216) (hn : n ∣ 18446744069414584320) : rightB n = true := by
  obtain ⟨a, ha, b, hb, c, hc, d, hd, e, he, f, hf, rfl⟩ := size_form h1 h2 hn
  have h := all_right
  unfold allR at h
  simp only [List.all_eq_true, List.mem_range] at h
  have := h a ha b hb c hc d hd e he f hf
  rw [Bool.or_eq_true, decide_eq_true h2] at this
  rcases this with h | h
  · cases h
  · exact h
theorem wfB_wf : ∀ f : Fo, wfB f = true → f.wf
  | .nil, _ => trivial
  | .cons k n ks r, h => by
    simp only [wfB, inB, Bool.and_eq_true, decide_eq_true_eq] at h
    exact ⟨h.1.1.1, h.1.1.2, wfB_wf ks h.1.2, wfB_wf r h.2⟩
theorem okB_ok {n : Nat} {d : Nd} (h2 : n ≤ 16777216) (h : okB n d = true) : d.n = n ∧ chkd d.k d.n d.ks = 0 ∧ (-9223372036854775808 ≤ d.k ∧ d.k ≤ 9223372036854775807) ∧ (-9223372036854775808 ≤ d.n ∧ d.n ≤ 9223372036854775807) ∧ d.ks.wf ∧ d.ks.cnt ≤ 60 := by
  unfold okB at h
  rw [← chk_C] at h
  simp only [inB, Bool.and_eq_true, decide_eq_true_eq] at h
  obtain ⟨⟨⟨e1, e2⟩, e3⟩, e4⟩ := h
  refine ⟨e1, e2, e3, by omega, wfB_wf _ e4, ?_⟩
  by_cases hc : d.ks.cnt ≤ 60
  · exact hc
  · rw [chkd, if_pos (.inl (by omega))] at e2
    cases e2
theorem apart_at : ∀ (l : List Nd), apartB l = true → ∀ i j (hi : i < l.length) (hj : j < l.length), j < i → cmpN l[i].k l[i].n l[i].ks l[j].k l[j].n l[j].ks ≠ 0
  | [], _, i, _, hi, _, _ => by simp at hi
  | d :: l, h, i, j, hi, hj, hji => by
    simp only [apartB, Bool.and_eq_true, List.all_eq_true] at h
    obtain ⟨i, rfl⟩ : ∃ z, i = z + 1 := ⟨i - 1, by omega⟩
    cases j with
    | zero =>
      have hi' : i < l.length := by simpa using hi
      have := h.1 l[i] (List.getElem_mem hi')
      simpa using this
    | succ j => exact apart_at l h.2 i j (by simpa using hi) (by simpa using hj) (by omega)
end Go.Proofs.Ytfjioflggkmhcaa
