/- All sizes up to a number, as package root goes through them: numbers. -/
import Derived.Test.YtcbiennifmfkgaaSizes
namespace Go.Proofs.Ytcbiennifmfkgaa
open Go.ChangeShapes Go.WideShapes Go.ChangeAt Go.RowKit
set_option linter.unusedVariables false
set_option linter.unusedSimpArgs false
/-- One prime more. -/
def stepP (m p : Nat) (L : List Nat) : List Nat := L ++ (L.filter fun n => decide (n * p ≤ m)).map fun n => n * p
def oddL (m : Nat) : List Nat := stepP m 65537 (stepP m 257 (stepP m 17 (stepP m 5 (stepP m 3 [1]))))
/-- A number, and its doubles, up to m. -/
def dblL (m : Nat) : Nat → Nat → List Nat
  | 0, _ => []
  | f + 1, n => if n ≤ m then n :: dblL m f (n * 2) else []
def sizL (m : Nat) : List Nat := (oddL m).flatMap fun n => dblL m 25 n
theorem step_old {m p y : Nat} {L : List Nat} (h : y ∈ L) : y ∈ stepP m p L := List.mem_append_left _ h
theorem step_new {m p y : Nat} {L : List Nat} (h : y ∈ L) (hm : y * p ≤ m) : y * p ∈ stepP m p L :=
  List.mem_append_right _ (List.mem_map.2 ⟨y, List.mem_filter.2 ⟨h, decide_eq_true hm⟩, rfl⟩)
theorem step_in {m p y : Nat} {L : List Nat} (h : y ∈ stepP m p L) : y ∈ L ∨ ∃ z, z ∈ L ∧ y = z * p := by
  rcases List.mem_append.1 h with h | h
  · exact .inl h
  · obtain ⟨z, hz, rfl⟩ := List.mem_map.1 h
    exact .inr ⟨z, (List.mem_filter.1 hz).1, rfl⟩
theorem step_dvd {m p D : Nat} {L : List Nat} (h : ∀ y ∈ L, y ∣ D) : ∀ y ∈ stepP m p L, y ∣ D * p := fun y hy => by
  rcases step_in hy with h1 | ⟨z, h1, rfl⟩
  · exact Nat.dvd_trans (h y h1) (Nat.dvd_mul_right _ _)
  · exact Nat.mul_dvd_mul (h z h1) (Nat.dvd_refl _)
theorem step_nodup {m p D : Nat} {L : List Nat} (h : ∀ y ∈ L, y ∣ D) (hn : L.Nodup) (hp : ¬ p ∣ D) (h0 : 0 < p) : (stepP m p L).Nodup := by
  unfold stepP
  refine List.nodup_append.2 ⟨hn, ?_, fun a ha b hb e => ?_⟩
  · have h2 : (L.filter fun n => decide (n * p ≤ m)).Nodup := List.Pairwise.filter _ hn
    exact List.Pairwise.map _ (fun a b hab e => hab (Nat.eq_of_mul_eq_mul_right h0 e)) h2
  · obtain ⟨z, hz, rfl⟩ := List.mem_map.1 hb
    subst e
    exact hp (Nat.dvd_trans (Nat.dvd_mul_left _ _) (h _ ha))
theorem odd_dvd (m : Nat) : ∀ y ∈ oddL m, y ∣ 4294967295 := by
  have h := step_dvd (m := m) (p := 65537) (step_dvd (m := m) (p := 257) (step_dvd (m := m) (p := 17) (step_dvd (m := m) (p := 5) (step_dvd (m := m) (p := 3) (D := 1) (L := [1]) (fun y hy => by rw [List.mem_singleton.1 hy]; exact Nat.dvd_refl 1)))))
  exact h
theorem odd_nodup (m : Nat) : (oddL m).Nodup := by
  have d0 : ∀ y ∈ [1], y ∣ 1 := fun y hy => by rw [List.mem_singleton.1 hy]; exact Nat.dvd_refl 1
  have d1 := step_dvd (m := m) (p := 3) d0
  have d2 := step_dvd (m := m) (p := 5) d1
  have d3 := step_dvd (m := m) (p := 17) d2
  have d4 := step_dvd (m := m) (p := 257) d3
  exact step_nodup d4 (step_nodup d3 (step_nodup d2 (step_nodup d1 (step_nodup d0 (by simp) (by decide) (by decide)) (by decide) (by decide)) (by decide) (by decide)) (by decide) (by decide)) (by decide) (by decide)
theorem step_two {m p y b : Nat} {L : List Nat} (h : y ∈ L) (hb : b < 2) (hm : y * p ^ b ≤ m) : y * p ^ b ∈ stepP m p L := by
  match b, hb with
  | 0, _ => rw [Nat.pow_zero, Nat.mul_one]; exact step_old h
  | 1, _ => rw [Nat.pow_one] at hm ⊢; exact step_new h hm
theorem odd_in {m b c d e f : Nat} (hb : b < 2) (hc : c < 2) (hd : d < 2) (he : e < 2) (hf : f < 2) (hm : 3 ^ b * (5 ^ c * (17 ^ d * (257 ^ e * 65537 ^ f))) ≤ m) : 3 ^ b * (5 ^ c * (17 ^ d * (257 ^ e * 65537 ^ f))) ∈ oddL m := by
  have e1 : 3 ^ b * (5 ^ c * (17 ^ d * (257 ^ e * 65537 ^ f))) = 1 * 3 ^ b * 5 ^ c * 17 ^ d * 257 ^ e * 65537 ^ f := by simp only [Nat.one_mul, Nat.mul_assoc]
  rw [e1] at hm ⊢
  have p5 := hm
  have p4 := Nat.le_trans (Nat.le_mul_of_pos_right (1 * 3 ^ b * 5 ^ c * 17 ^ d * 257 ^ e) (Nat.pow_pos (n := f) (show 0 < 65537 by decide))) p5
  have p3 := Nat.le_trans (Nat.le_mul_of_pos_right (1 * 3 ^ b * 5 ^ c * 17 ^ d) (Nat.pow_pos (n := e) (show 0 < 257 by decide))) p4
  have p2 := Nat.le_trans (Nat.le_mul_of_pos_right (1 * 3 ^ b * 5 ^ c) (Nat.pow_pos (n := d) (show 0 < 17 by decide))) p3
  have p1 := Nat.le_trans (Nat.le_mul_of_pos_right (1 * 3 ^ b) (Nat.pow_pos (n := c) (show 0 < 5 by decide))) p2
  exact step_two (step_two (step_two (step_two (step_two (List.mem_singleton.2 rfl) hb p1) hc p2) hd p3) he p4) hf p5
theorem dbl_in : ∀ (f m n x : Nat), x ∈ dblL m f n → ∃ a, x = 2 ^ a * n ∧ a < f ∧ x ≤ m
  | 0, m, n, x, h => by cases h
  | f + 1, m, n, x, h => by
    unfold dblL at h
    split at h
    · rename_i hn
      rcases List.mem_cons.1 h with rfl | h
      · exact ⟨0, by simp, by omega, hn⟩
      · obtain ⟨a, rfl, h1, h2⟩ := dbl_in f m _ x h
        exact ⟨a + 1, by rw [Nat.pow_succ, Nat.mul_assoc, Nat.mul_comm 2 n], by omega, h2⟩
    · cases h
theorem in_dbl : ∀ (f m n a : Nat), a < f → 2 ^ a * n ≤ m → 2 ^ a * n ∈ dblL m f n
  | 0, _, _, _, h, _ => by omega
  | f + 1, m, n, a, h, hm => by
    have hn : n ≤ m := Nat.le_trans (Nat.le_mul_of_pos_left n (Nat.two_pow_pos a)) hm
    unfold dblL
    rw [if_pos hn]
    cases a with
    | zero => rw [Nat.pow_zero, Nat.one_mul]; exact List.mem_cons_self ..
    | succ a =>
      have e : 2 ^ (a + 1) * n = 2 ^ a * (n * 2) := by rw [Nat.pow_succ, Nat.mul_assoc, Nat.mul_comm 2 n]
      rw [e] at hm ⊢
      exact List.mem_cons_of_mem _ (in_dbl f m _ a (by omega) hm)
theorem dbl_nodup : ∀ (f m n : Nat), 0 < n → (dblL m f n).Nodup
  | 0, _, _, _ => List.nodup_nil
  | f + 1, m, n, h => by
    unfold dblL
    split
    · refine List.nodup_cons.2 ⟨fun hm => ?_, dbl_nodup f m _ (by omega)⟩
      obtain ⟨a, e, _, _⟩ := dbl_in f m _ n hm
      have := Nat.le_mul_of_pos_left (n * 2) (Nat.two_pow_pos a)
      omega
    · exact List.nodup_nil
theorem odd_odd {m y : Nat} (h : y ∈ oddL m) : y % 2 = 1 := by
  obtain ⟨q, hq⟩ := odd_dvd m y h
  rcases Nat.mod_two_eq_zero_or_one y with h2 | h2
  · have : (y * q) % 2 = 0 := by rw [Nat.mul_mod, h2, Nat.zero_mul, Nat.zero_mod]
    rw [← hq] at this
    omega
  · exact h2
theorem two_odd : ∀ (a b x y : Nat), x % 2 = 1 → y % 2 = 1 → 2 ^ a * x = 2 ^ b * y → x = y
  | 0, 0, x, y, _, _, h => by simpa using h
  | 0, b + 1, x, y, hx, _, h => by rw [Nat.pow_succ, Nat.mul_comm (2 ^ b) 2, Nat.mul_assoc] at h; omega
  | a + 1, 0, x, y, _, hy, h => by rw [Nat.pow_succ, Nat.mul_comm (2 ^ a) 2, Nat.mul_assoc] at h; omega
  | a + 1, b + 1, x, y, hx, hy, h => by
    rw [Nat.pow_succ, Nat.pow_succ, Nat.mul_comm (2 ^ a) 2, Nat.mul_comm (2 ^ b) 2, Nat.mul_assoc, Nat.mul_assoc] at h
    exact two_odd a b x y hx hy (by omega)
theorem flat_nodup (m : Nat) : ∀ L : List Nat, L.Nodup → (∀ y ∈ L, y % 2 = 1) → (L.flatMap fun n => dblL m 25 n).Nodup
  | [], _, _ => List.nodup_nil
  | y :: L, h, ho => by
    rw [List.flatMap_cons]
    obtain ⟨h1, h2⟩ := List.nodup_cons.1 h
    have hy := ho y (List.mem_cons_self ..)
    refine List.nodup_append.2 ⟨dbl_nodup _ _ _ (by omega), flat_nodup m L h2 (fun z hz => ho z (List.mem_cons_of_mem _ hz)), fun a ha b hb e => ?_⟩
    subst e
    obtain ⟨z, hz, hb⟩ := List.mem_flatMap.1 hb
    obtain ⟨i, e1, _, _⟩ := dbl_in _ _ _ _ ha
    obtain ⟨j, e2, _, _⟩ := dbl_in _ _ _ _ hb
    have := two_odd i j y z hy (ho z (List.mem_cons_of_mem _ hz)) (e1.symm.trans e2)
    subst this
    exact h1 hz
theorem siz_nodup (m : Nat) : (sizL m).Nodup := flat_nodup m _ (odd_nodup m) (fun _ h => odd_odd h)
theorem siz_in {m x : Nat} (hm : m ≤ 16777216) (h : x ∈ sizL m) : 1 ≤ x ∧ x ≤ m ∧ x ∣ 18446744069414584320 := by
  obtain ⟨y, hy, hx⟩ := List.mem_flatMap.1 h
  obtain ⟨a, rfl, ha, hle⟩ := dbl_in _ _ _ _ hx
  have ho := odd_odd hy
  refine ⟨Nat.mul_pos (Nat.two_pow_pos a) (by omega), hle, ?_⟩
  have e : 18446744069414584320 = 2 ^ 32 * 4294967295 := by decide
  rw [e]
  exact Nat.mul_dvd_mul (Nat.pow_dvd_pow 2 (by omega)) (odd_dvd m y hy)
theorem in_siz {m x : Nat} (hm : m ≤ 16777216) (h1 : 1 ≤ x) (hx : x ≤ m) (hd : x ∣ 18446744069414584320) : x ∈ sizL m := by
  obtain ⟨a, ha, b, hb, c, hc, d, hd', e, he, f, hf, rfl⟩ := size_form h1 (Nat.le_trans hx hm) hd
  have ho := odd_in (m := m) hb hc hd' he hf (Nat.le_trans (Nat.le_mul_of_pos_left _ (Nat.two_pow_pos a)) hx)
  exact List.mem_flatMap.2 ⟨_, ho, in_dbl 25 m _ a ha hx⟩
/-- Two lists without repeats of the same numbers are of one length. -/
theorem len_le : ∀ (l l' : List Nat), l.Nodup → (∀ x ∈ l, x ∈ l') → l.length ≤ l'.length
  | [], _, _, _ => Nat.zero_le _
  | a :: l, l', h, hs => by
    obtain ⟨h1, h2⟩ := List.nodup_cons.1 h
    have ha := hs a (List.mem_cons_self ..)
    have := len_le l (l'.erase a) h2 (fun x hx => (List.mem_erase_of_ne (show x ≠ a from fun e => h1 (by subst e; exact hx))).2 (hs x (List.mem_cons_of_mem _ hx)))
    rw [List.length_erase_of_mem ha] at this
    have := List.length_pos_of_mem ha
    rw [List.length_cons]; omega
/-- How many of the numbers up to k are sizes. -/
def cntS : Nat → Nat
  | 0 => 0
  | k + 1 => cntS k + (if (k + 1) ∣ 18446744069414584320 then 1 else 0)
def lstS : Nat → List Nat
  | 0 => []
  | k + 1 => if (k + 1) ∣ 18446744069414584320 then (k + 1) :: lstS k else lstS k
theorem lst_len : ∀ k, (lstS k).length = cntS k
  | 0 => rfl
  | k + 1 => by unfold lstS cntS; split <;> simp [lst_len k]
theorem lst_in : ∀ (k x : Nat), x ∈ lstS k ↔ 1 ≤ x ∧ x ≤ k ∧ x ∣ 18446744069414584320
  | 0, x => by simp [lstS]; omega
  | k + 1, x => by
    unfold lstS
    split
    · rename_i h
      rw [List.mem_cons, lst_in k x]
      constructor
      · rintro (rfl | ⟨h1, h2, h3⟩)
        · exact ⟨by omega, Nat.le_refl _, h⟩
        · exact ⟨h1, by omega, h3⟩
      · rintro ⟨h1, h2, h3⟩
        by_cases e : x = k + 1
        · exact .inl e
        · exact .inr ⟨h1, by omega, h3⟩
    · rename_i h
      rw [lst_in k x]
      constructor
      · rintro ⟨h1, h2, h3⟩
        exact ⟨h1, by omega, h3⟩
      · rintro ⟨h1, h2, h3⟩
        refine ⟨h1, ?_, h3⟩
        by_cases e : x = k + 1
        · subst e; exact absurd h3 h
        · omega
theorem lst_nodup : ∀ k, (lstS k).Nodup
  | 0 => List.nodup_nil
  | k + 1 => by
    unfold lstS
    split
    · exact List.nodup_cons.2 ⟨fun h => by have := ((lst_in k _).1 h).2.1; omega, lst_nodup k⟩
    · exact lst_nodup k
theorem siz_len {m : Nat} (hm : m ≤ 16777216) : (sizL m).length = cntS m := by
  rw [← lst_len]
  refine Nat.le_antisymm (len_le _ _ (siz_nodup m) (fun x hx => ?_)) (len_le _ _ (lst_nodup m) (fun x hx => ?_))
  · obtain ⟨h1, h2, h3⟩ := siz_in hm hx
    exact (lst_in m x).2 ⟨h1, h2, h3⟩
  · obtain ⟨h1, h2, h3⟩ := (lst_in m x).1 hx
    exact in_siz hm h1 h2 h3
end Go.Proofs.Ytcbiennifmfkgaa
