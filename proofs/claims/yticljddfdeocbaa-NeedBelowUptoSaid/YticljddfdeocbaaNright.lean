/- What a plan names are names of tables. -/
import Derived.Test.YticljddfdeocbaaTabl
namespace Go.Proofs.Yticljddfdeocbaa
open Go.ChangeShapes Go.WideShapes Go.ChangeAt Go.RowKit
set_option linter.unusedVariables false
theorem hasb_pow : ∀ a : Nat, a < 25 → hasb ((2 ^ a : Nat) : Int) = true := by decide +kernel
theorem pow_le {a : Nat} (h : 2 ^ a ≤ 16777216) : a < 25 := by
  refine Nat.lt_of_not_le fun hn => ?_
  have h1 : 2 ^ 25 ≤ 2 ^ a := Nat.pow_le_pow_right (by omega) hn
  have h2 : (2 : Nat) ^ 25 = 33554432 := by decide
  omega
theorem hasp_hasb {n : Int} (h : hasp n = true) : hasb n = true := by
  have h0 := h
  unfold hasp at h
  rw [Bool.and_eq_true, decide_eq_true_iff] at h
  obtain ⟨h1, h2⟩ := h
  obtain ⟨h3, h4⟩ := pwb_isp h2
  obtain ⟨a, ha⟩ := h4
  obtain ⟨m, rfl⟩ : ∃ m : Nat, n = m := ⟨n.toNat, by omega⟩
  have e : m = 2 ^ a := by simpa using ha
  subst e
  have h5 : ((2 ^ a : Nat) : Int) ≤ ((16777216 : Nat) : Int) := h1
  exact hasb_pow a (pow_le (Int.ofNat_le.1 h5))
theorem node_names {k n dir : Int} {m : Nat} {a b : Int} (h : nodeB k n m a b = true) (hd : dir = 0 ∨ dir = 1) : ∀ x ∈ namedL k n dir a, rightb x.k x.n x.m x.d = true := by
  intro x hx
  unfold namedL at hx
  unfold nodeB at h
  by_cases h1 : k = 1 ∨ k = 3 ∨ k = 4
  · rw [if_pos h1] at hx
    simp only [List.mem_singleton] at hx
    subst hx
    have hh : hasb n = true := by
      rcases h1 with rfl | rfl | rfl
      · rw [if_pos rfl] at h; simp only [Bool.and_eq_true] at h; exact h.2
      · rw [if_neg (by omega), if_neg (by omega), if_pos rfl] at h; simp only [Bool.and_eq_true] at h; exact hasp_hasb h.2
      · rw [if_neg (by omega), if_neg (by omega), if_neg (by omega), if_pos rfl] at h; simp only [Bool.and_eq_true] at h; exact h.1.2
    show rightb 1 n 0 dir = true
    rw [rightb_12 hh hd (.inl rfl)]; rfl
  · rw [if_neg h1] at hx
    by_cases h2 : k = 6
    · subst h2
      rw [if_pos rfl] at hx
      simp only [List.mem_singleton] at hx
      subst hx
      rw [if_neg (by omega), if_neg (by omega), if_neg (by omega), if_neg (by omega), if_neg (by omega), if_pos rfl] at h
      simp only [Bool.and_eq_true, decide_eq_true_eq] at h
      show rightb 3 n 0 dir = true
      rw [rightb_3 h.1.1.2 hd, h.1.2, decide_eq_true ⟨rfl, h.1.1.1.2⟩]; rfl
    · rw [if_neg h2] at hx
      by_cases h3 : k = 7
      · subst h3
        rw [if_pos rfl] at hx
        rw [if_neg (by omega), if_neg (by omega), if_neg (by omega), if_neg (by omega), if_neg (by omega), if_neg (by omega), if_pos rfl] at h
        simp only [Bool.and_eq_true, decide_eq_true_eq] at h
        simp only [List.mem_cons, List.not_mem_nil, or_false] at hx
        rcases hx with rfl | rfl
        · show rightb 2 n 0 dir = true
          rw [rightb_12 h.1.1.2 hd (.inr rfl)]; rfl
        · show rightb 4 n a dir = true
          rw [rightb_4 h.1.1.2 hd, h.1.2, decide_eq_true h.1.1.1.2, decide_eq_true h.2]; rfl
      · rw [if_neg h3] at hx; cases hx
theorem under_dir {k dir : Int} (hd : dir = 0 ∨ dir = 1) : under k dir = 0 ∨ under k dir = 1 := by unfold under; split <;> omega
theorem names_right : ∀ (f : Fo) (dir : Int), f.pre.all Nd.ok = true → (dir = 0 ∨ dir = 1) → ∀ x ∈ f.names dir, rightb x.k x.n x.m x.d = true
  | .nil, _, _, _, x, hx => by simp [Fo.names] at hx
  | .cons k n ks r, dir, h, hd, x, hx => by
    rw [Fo.pre, List.all_cons, List.all_append] at h
    simp only [Bool.and_eq_true] at h
    rw [Fo.names] at hx
    simp only [List.mem_append] at hx
    rcases hx with (hx | hx) | hx
    · exact node_names h.1 hd x hx
    · exact names_right ks _ h.2.1 (under_dir hd) x hx
    · exact names_right r dir h.2.2 hd x hx
theorem namesN_right {k n dir : Int} {ks : Fo} (h : ckd dir (chkd k n ks) = 0) : ∀ x ∈ namesN k n ks dir, rightb x.k x.n x.m x.d = true := by
  obtain ⟨hd, h0⟩ := ckd_dir h
  obtain ⟨h1, h2, _, _⟩ := chk_zero h0
  intro x hx
  rw [namesN, List.mem_append] at hx
  rcases hx with hx | hx
  · exact node_names h1 hd x hx
  · exact names_right ks _ h2 (under_dir hd) x hx
end Go.Proofs.Yticljddfdeocbaa
