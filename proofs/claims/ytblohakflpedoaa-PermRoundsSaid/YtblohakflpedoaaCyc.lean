/- The rounds of an order, in plain numbers (for PermRounds). -/
import Derived.Test.YtblohakflpedoaaSgn
namespace Go.Proofs.Ytblohakflpedoaa
open Go.ChangeShapes Go.WideShapes Go.ChangeAt Go.RowKit
set_option linter.unusedVariables false
/-- A path from i on, outside V. -/
structure Pth (p : Nat → Nat) (n i : Nat) (V : Nat → Prop) (r : List Nat) : Prop where
  lt : ∀ x ∈ r, x < n ∧ ¬ V x
  nd : r.Nodup
  st : ∀ k x y, r[k]? = some x → r[k + 1]? = some y → p x = y
  hd : ∀ x, r[0]? = some x → x = i
/-- Where it goes on. -/
def nxt (p : Nat → Nat) (i : Nat) (r : List Nat) : Nat := match r.getLast? with | some x => p x | none => i
theorem nxt_nil (p : Nat → Nat) (i : Nat) : nxt p i [] = i := rfl
theorem nxt_snoc (p : Nat → Nat) (i : Nat) (r : List Nat) (x : Nat) : nxt p i (r ++ [x]) = p x := by unfold nxt; rw [List.getLast?_append]; simp
theorem Pth.nil (p : Nat → Nat) (n i : Nat) (V : Nat → Prop) : Pth p n i V [] := ⟨fun x h => (by cases h), List.nodup_nil, fun k x y h => (by simp at h), fun x h => (by simp at h)⟩
theorem Pth.step {p : Nat → Nat} {n i : Nat} {V : Nat → Prop} {r : List Nat} (h : Pth p n i V r) (hi : i < n) (hp : ∀ x, x < n → p x < n) (hv : ¬ V (nxt p i r)) (hr : nxt p i r ∉ r) : Pth p n i V (r ++ [nxt p i r]) := by
  have hlt : nxt p i r < n := by
    unfold nxt
    cases hl : r.getLast? with
    | none => exact hi
    | some x => exact hp x (h.lt x (List.mem_of_getLast? hl)).1
  refine ⟨fun x hx => ?_, ?_, fun k x y hx hy => ?_, fun x hx => ?_⟩
  · rcases List.mem_append.1 hx with hx | hx
    · exact h.lt x hx
    · rw [List.mem_singleton] at hx; subst hx; exact ⟨hlt, hv⟩
  · rw [List.nodup_append]
    exact ⟨h.nd, by simp, fun a ha b hb e => by rw [List.mem_singleton] at hb; subst hb; subst e; exact hr ha⟩
  · have l2 := (List.getElem?_eq_some_iff.1 hy).1
    rw [List.length_append, List.length_singleton] at l2
    by_cases hk : k + 1 < r.length
    · rw [List.getElem?_append_left (by omega)] at hx
      rw [List.getElem?_append_left hk] at hy
      exact h.st k x y hx hy
    · have e : k + 1 = r.length := by omega
      rw [List.getElem?_append_right (by omega), e, Nat.sub_self] at hy
      rw [List.getElem?_append_left (by omega)] at hx
      simp at hy
      subst hy
      unfold nxt
      rw [List.getLast?_eq_getElem?, show r.length - 1 = k by omega, hx]
  · cases r with
    | nil => simp at hx; subst hx; rfl
    | cons a r => exact h.hd x (by simpa using hx)
/-- It ends where it began. -/
theorem Pth.close {p : Nat → Nat} {n i : Nat} {V : Nat → Prop} {r : List Nat} (h : Pth p n i V r) (hinj : ∀ x y, x < n → y < n → p x = p y → x = y) (hV : ∀ x, x < n → V (p x) → V x) (hne : r ≠ []) (he : V (nxt p i r) ∨ nxt p i r ∈ r) : nxt p i r = i := by
  obtain ⟨q, x, rfl⟩ : ∃ q x, r = q ++ [x] := ⟨r.dropLast, r.getLast hne, (List.dropLast_concat_getLast hne).symm⟩
  rw [nxt_snoc] at he ⊢
  have hx := h.lt x (List.mem_append_right _ (List.mem_singleton.2 rfl))
  rcases he with he | he
  · exact absurd (hV x hx.1 he) hx.2
  · obtain ⟨k, hk⟩ := List.mem_iff_getElem?.1 he
    cases k with
    | zero => exact h.hd _ hk
    | succ k =>
      exfalso
      have l2 := (List.getElem?_eq_some_iff.1 hk).1
      obtain ⟨y, hy⟩ : ∃ y, (q ++ [x])[k]? = some y := ⟨_, List.getElem?_eq_getElem (by omega)⟩
      have e := h.st k y _ hy hk
      have exy := hinj y x (h.lt y (List.mem_of_getElem? hy)).1 hx.1 e
      subst exy
      rw [List.length_append, List.length_singleton] at l2
      rw [List.getElem?_append_left (by omega)] at hy
      have := (List.nodup_append.1 h.nd).2.2 y (List.mem_of_getElem? hy) y (List.mem_singleton.2 rfl)
      exact this rfl
/-- All rounds so far: which places they hold, and that each one is whole. -/
structure Rds (p : Nat → Nat) (n i : Nat) (ls : List (List Nat)) : Prop where
  lt : ∀ x ∈ ls.flatten, x < n
  nd : ls.flatten.Nodup
  ne : ∀ r ∈ ls, r ≠ []
  go : ∀ r ∈ ls, ∀ k x y, r[k]? = some x → r[(k + 1) % r.length]? = some y → p x = y
  all : ∀ x, x < i → x ∈ ls.flatten
  hd : ∀ r ∈ ls, ∀ x ∈ r, r.getD 0 0 ≤ x
  up : ∀ a r s, ls[a]? = some r → ls[a + 1]? = some s → r.getD 0 0 < s.getD 0 0
  lo : ∀ r ∈ ls, r.getD 0 0 < i
theorem Rds.nil (p : Nat → Nat) (n : Nat) : Rds p n 0 [] := ⟨fun x h => (by simp at h), by simp, fun r h => (by cases h), fun r h => (by cases h), fun x h => (by omega), fun r h => (by cases h), fun a r s h => (by simp at h), fun r h => (by cases h)⟩
theorem Rds.skip {p : Nat → Nat} {n i : Nat} {ls : List (List Nat)} (h : Rds p n i ls) (hi : i ∈ ls.flatten) : Rds p n (i + 1) ls :=
  ⟨h.lt, h.nd, h.ne, h.go, fun x hx => by
    by_cases e : x = i
    · rw [e]; exact hi
    · exact h.all x (by omega), h.hd, h.up, fun r hr => by have := h.lo r hr; omega⟩
/-- The places of a round are closed: what goes into them lies in them. -/
theorem Rds.back {p : Nat → Nat} {n i : Nat} {ls : List (List Nat)} (h : Rds p n i ls) (hinj : ∀ x y, x < n → y < n → p x = p y → x = y) : ∀ x, x < n → p x ∈ ls.flatten → x ∈ ls.flatten := by
  intro x hx hp
  obtain ⟨r, hr, hm⟩ := List.mem_flatten.1 hp
  obtain ⟨k, hk⟩ := List.mem_iff_getElem?.1 hm
  have lk := (List.getElem?_eq_some_iff.1 hk).1
  -- the place ahead of it
  obtain ⟨j, hj, hjk⟩ : ∃ j, j < r.length ∧ (j + 1) % r.length = k := by
    cases k with
    | zero => exact ⟨r.length - 1, by omega, by rw [show r.length - 1 + 1 = r.length by omega, Nat.mod_self]⟩
    | succ k => exact ⟨k, by omega, Nat.mod_eq_of_lt lk⟩
  obtain ⟨y, hy⟩ : ∃ y, r[j]? = some y := ⟨_, List.getElem?_eq_getElem hj⟩
  have hym : y ∈ ls.flatten := List.mem_flatten.2 ⟨r, hr, List.mem_of_getElem? hy⟩
  have e := h.go r hr j y (p x) hy (by rw [hjk]; exact hk)
  rw [hinj x y hx (h.lt y hym) e.symm]
  exact hym
/-- One round more. -/
theorem Rds.add {p : Nat → Nat} {n i : Nat} {ls : List (List Nat)} {r : List Nat} (h : Rds p n i ls) (hi : i ∉ ls.flatten) (hP : Pth p n i (fun x => x ∈ ls.flatten) r) (hne : r ≠ []) (hc : nxt p i r = i) : Rds p n (i + 1) (ls ++ [r]) := by
  have h0 : r[0]? = some i := by
    cases r with
    | nil => exact absurd rfl hne
    | cons a r => rw [hP.hd a rfl]; rfl
  have hD : r.getD 0 0 = i := by rw [List.getD_eq_getElem?_getD, h0]; rfl
  have him : i ∈ r := List.mem_of_getElem? h0
  have fl : (ls ++ [r]).flatten = ls.flatten ++ r := by simp
  have ge : ∀ x, x ∉ ls.flatten → i ≤ x := fun x hx => Nat.le_of_not_lt (fun hlt => hx (h.all x hlt))
  refine ⟨fun x hx => ?_, ?_, fun s hs => ?_, fun s hs k x y hx hy => ?_, fun x hx => ?_, fun s hs x hx => ?_, fun a s t hs ht => ?_, fun s hs => ?_⟩
  · rw [fl] at hx
    rcases List.mem_append.1 hx with hx | hx
    · exact h.lt x hx
    · exact (hP.lt x hx).1
  · rw [fl, List.nodup_append]
    exact ⟨h.nd, hP.nd, fun a ha b hb e => (hP.lt b hb).2 (e ▸ ha)⟩
  · rcases List.mem_append.1 hs with hs | hs
    · exact h.ne s hs
    · rw [List.mem_singleton.1 hs]; exact hne
  · rcases List.mem_append.1 hs with hs | hs
    · exact h.go s hs k x y hx hy
    · rw [List.mem_singleton.1 hs] at hx hy
      have lk := (List.getElem?_eq_some_iff.1 hx).1
      by_cases hk : k + 1 < r.length
      · rw [Nat.mod_eq_of_lt hk] at hy
        exact hP.st k x y hx hy
      · have e : k + 1 = r.length := by omega
        rw [e, Nat.mod_self, h0] at hy
        cases hy
        unfold nxt at hc
        rw [List.getLast?_eq_getElem?, show r.length - 1 = k by omega, hx] at hc
        exact hc
  · rw [fl]
    by_cases e : x = i
    · rw [e]; exact List.mem_append_right _ him
    · exact List.mem_append_left _ (h.all x (by omega))
  · rcases List.mem_append.1 hs with hs | hs
    · exact h.hd s hs x hx
    · rw [List.mem_singleton.1 hs] at hx ⊢
      rw [hD]; exact ge x (hP.lt x hx).2
  · have lt2 := (List.getElem?_eq_some_iff.1 ht).1
    rw [List.length_append, List.length_singleton] at lt2
    by_cases ha : a + 1 < ls.length
    · rw [List.getElem?_append_left (by omega)] at hs
      rw [List.getElem?_append_left ha] at ht
      exact h.up a s t hs ht
    · have e : a + 1 = ls.length := by omega
      rw [List.getElem?_append_left (by omega)] at hs
      rw [List.getElem?_append_right (by omega), e, Nat.sub_self] at ht
      simp at ht
      subst ht
      rw [hD]
      exact h.lo s (List.mem_of_getElem? hs)
  · rcases List.mem_append.1 hs with hs | hs
    · have := h.lo s hs; omega
    · rw [List.mem_singleton.1 hs, hD]; omega
end Go.Proofs.Ytblohakflpedoaa
