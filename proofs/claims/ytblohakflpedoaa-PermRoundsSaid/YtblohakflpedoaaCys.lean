/- The sign of an order by its rounds, in plain numbers (for PermRounds). -/
import Derived.Test.YtblohakflpedoaaCyc
namespace Go.Proofs.Ytblohakflpedoaa
open Go.ChangeShapes Go.WideShapes Go.ChangeAt Go.RowKit
set_option linter.unusedVariables false
/-- What has been gone through stands still. -/
def fixd (p : Nat → Nat) (L : List Nat) : Nat → Int := fun i => if i ∈ L then (i : Int) else (p i : Int)
def chgs : List (List Nat) → Nat
  | [] => 0
  | r :: ls => (r.length - 1) + chgs ls
theorem chgs_snoc : ∀ (ls : List (List Nat)) (r : List Nat), chgs (ls ++ [r]) = chgs ls + (r.length - 1)
  | [], r => by simp [chgs]
  | s :: ls, r => by show _ + chgs (ls ++ [r]) = _; rw [chgs_snoc ls r]; simp only [chgs]; omega
theorem nodup_at9 {α : Type} {l : List α} (h : l.Nodup) {i j : Nat} {x : α} (hi : l[i]? = some x) (hj : l[j]? = some x) : i = j :=
  (List.getElem?_inj (List.getElem?_eq_some_iff.1 hi).1 h).1 (by rw [hi, hj])
/-- One round is gone through. -/
theorem fixd_round {p : Nat → Nat} {n : Nat} {L r : List Nat} (hr : ∀ x ∈ r, x < n ∧ x ∉ L) (hd : r.Nodup) (hne : r ≠ []) (hg : ∀ k x y, r[k]? = some x → r[(k + 1) % r.length]? = some y → p x = y) : Ch n (r.length - 1) (fixd p L) (fixd p (L ++ r)) := by
  obtain ⟨m, hm⟩ : ∃ m, r.length = m + 1 := ⟨r.length - 1, by have := List.length_pos_iff.2 hne; omega⟩
  have get : ∀ t, t < m + 1 → r[t]? = some (r.getD t 0) := fun t ht => by rw [List.getD_eq_getElem?_getD, List.getElem?_eq_getElem (by omega)]; rfl
  have hf : ∀ t, t < m + 1 → fixd p L (r.getD t 0) = (p (r.getD t 0) : Int) := fun t ht => by
    unfold fixd
    rw [if_neg (hr _ (List.mem_of_getElem? (get t ht))).2]
  have h := Ch.round (n := n) (m := m) (f := fixd p L) (c := fun t => r.getD t 0) (fun t ht => (hr _ (List.mem_of_getElem? (get t ht))).1)
    (fun s t hs ht e => by
      have h1 := get s (by omega)
      have h2 := get t ht
      have e2 : r.getD s 0 = r.getD t 0 := e
      rw [e2] at h1
      have := nodup_at9 hd h1 h2
      omega)
    (fun t ht => by
      rw [hf t (by omega), hg t _ _ (get t (by omega)) (by rw [Nat.mod_eq_of_lt (by omega)]; exact get (t + 1) (by omega))])
    (by rw [hf m (by omega), hg m _ _ (get m (by omega)) (by rw [hm, Nat.mod_self]; exact get 0 (by omega))])
  have e : still (fixd p L) (fun t => r.getD t 0) (m + 1) = fixd p (L ++ r) := by
    funext i
    unfold still fixd
    by_cases h1 : i ∈ r
    · obtain ⟨t, ht⟩ := List.mem_iff_getElem?.1 h1
      have lt := (List.getElem?_eq_some_iff.1 ht).1
      have e1 : i = r.getD t 0 := by rw [List.getD_eq_getElem?_getD, ht]; rfl
      rw [if_pos ⟨t, by omega, e1⟩, if_pos (List.mem_append_right _ h1)]
    · have hno : ¬ ∃ t, t < m + 1 ∧ i = r.getD t 0 := by
        rintro ⟨t, ht, e1⟩
        exact h1 (by rw [e1]; exact List.mem_of_getElem? (get t ht))
      rw [if_neg hno]
      by_cases h2 : i ∈ L
      · rw [if_pos h2, if_pos (List.mem_append_left _ h2)]
      · rw [if_neg h2, if_neg (fun e => (List.mem_append.1 e).elim h2 h1)]
  rw [hm, Nat.add_sub_cancel, ← e]
  exact h
theorem Rds.ch {p : Nat → Nat} {n i : Nat} {ls : List (List Nat)} (h : Rds p n i ls) : ∀ a, a ≤ ls.length → Ch n (chgs (ls.take a)) (fun x => (p x : Int)) (fixd p (ls.take a).flatten)
  | 0, _ => by simp only [List.take_zero, List.flatten_nil, chgs]; exact .nil (fun x _ => by unfold fixd; rw [if_neg (by simp)])
  | a + 1, ha => by
    have ih := h.ch a (by omega)
    obtain ⟨r, hr⟩ : ∃ r, ls[a]? = some r := ⟨_, List.getElem?_eq_getElem (by omega)⟩
    have hrm := List.mem_of_getElem? hr
    have ht : ls.take (a + 1) = ls.take a ++ [r] := by rw [List.take_add_one, hr]; rfl
    have hfl : (ls.take (a + 1)).flatten = (ls.take a).flatten ++ r := by rw [ht]; simp
    have hnd : ((ls.take a).flatten ++ r).Nodup := by
      rw [← hfl]
      have e : ls.flatten = (ls.take (a + 1)).flatten ++ (ls.drop (a + 1)).flatten := by rw [← List.flatten_append, List.take_append_drop]
      have := h.nd
      rw [e, List.nodup_append] at this
      exact this.1
    rw [List.nodup_append] at hnd
    rw [hfl, ht, chgs_snoc]
    exact ih.trans (fixd_round (fun x hx => ⟨h.lt x (List.mem_flatten.2 ⟨r, hrm, hx⟩), fun hl => hnd.2.2 x hl x hx rfl⟩) hnd.2.1 (h.ne r hrm) (h.go r hrm))
/-- The pairs that stand the other way round are as many, mod 2, as the changes of all rounds. -/
theorem Rds.sign {p : Nat → Nat} {n : Nat} {ls : List (List Nat)} (h : Rds p n n ls) (hp : apt (fun x => (p x : Int)) n) : invs (fun x => (p x : Int)) n % 2 = chgs ls % 2 := by
  have h1 := h.ch ls.length (Nat.le_refl _)
  rw [List.take_length] at h1
  have h2 := h1.parity hp
  have h3 : invs (fixd p ls.flatten) n = 0 := by
    rw [invs_congr (g := fun x => (x : Int)) n (fun x hx => by unfold fixd; rw [if_pos (h.all x hx)])]
    exact invs_id n
  omega
/-- What the program tells: it turns the sign at each round of even length. -/
def sgnL : List (List Nat) → Int
  | [] => 1
  | r :: ls => if r.length % 2 = 0 then - sgnL ls else sgnL ls
theorem sgnL_chgs : ∀ (ls : List (List Nat)), (∀ r ∈ ls, r ≠ []) → sgnL ls = 1 - 2 * ((chgs ls % 2 : Nat) : Int)
  | [], _ => rfl
  | r :: ls, h => by
    have ih := sgnL_chgs ls (fun s hs => h s (List.mem_cons_of_mem _ hs))
    have hl := List.length_pos_iff.2 (h r (List.mem_cons_self ..))
    simp only [sgnL, chgs, ih]
    split <;> omega
end Go.Proofs.Ytblohakflpedoaa
