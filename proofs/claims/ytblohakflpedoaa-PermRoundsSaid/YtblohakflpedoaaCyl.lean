/- perm.Cycles: the copy in which what has been gone through is marked, in numbers. -/
import Derived.Test.YtblohakflpedoaaCys
namespace Go.Proofs.Ytblohakflpedoaa
open Go.ChangeShapes Go.WideShapes Go.ChangeAt Go.RowKit
set_option linter.unusedVariables false
/-- The copy: -1 where a place is in L, else what p says. -/
structure Lft (p : Nat → Nat) (n : Nat) (L : List Nat) (lv : List Int) : Prop where
  len : lv.length = n
  at' : ∀ x, x < n → lv[x]? = some (if x ∈ L then -1 else (p x : Int))
theorem Lft.start {p : Nat → Nat} {n : Nat} {ps : List Int} (hl : ps.length = n) (hp : ∀ x, x < n → ps[x]? = some (p x : Int)) : Lft p n [] ps := ⟨hl, fun x hx => by rw [if_neg (by simp)]; exact hp x hx⟩
theorem Lft.set {p : Nat → Nat} {n : Nat} {L : List Nat} {lv : List Int} (h : Lft p n L lv) (x : Nat) : Lft p n (L ++ [x]) (lv.set x (-1)) := by
  refine ⟨by rw [List.length_set]; exact h.len, fun y hy => ?_⟩
  by_cases e : x = y
  · subst e
    rw [List.getElem?_set_self (by rw [h.len]; exact hy), if_pos (by simp)]
  · rw [List.getElem?_set_ne e, h.at' y hy]
    by_cases hm : y ∈ L
    · rw [if_pos hm, if_pos (List.mem_append_left _ hm)]
    · rw [if_neg hm, if_neg (fun c => (List.mem_append.1 c).elim hm (fun c => e (List.mem_singleton.1 c).symm))]
theorem Lft.same {p : Nat → Nat} {n : Nat} {L M : List Nat} {lv : List Int} (h : Lft p n L lv) (hm : ∀ x, x ∈ L ↔ x ∈ M) : Lft p n M lv := ⟨h.len, fun x hx => by
  rw [h.at' x hx]
  by_cases c : x ∈ L
  · rw [if_pos c, if_pos ((hm x).1 c)]
  · rw [if_neg c, if_neg (fun e => c ((hm x).2 e))]⟩
/-- What the test of the inner loop tells. -/
theorem Lft.go {p : Nat → Nat} {n : Nat} {L : List Nat} {lv : List Int} (h : Lft p n L lv) {x : Nat} (hx : x < n) : (x ∉ L ∧ lv[x]? = some (p x : Int)) ∨ (x ∈ L ∧ lv[x]? = some (-1)) := by
  by_cases c : x ∈ L
  · exact .inr ⟨c, by rw [h.at' x hx, if_pos c]⟩
  · exact .inl ⟨c, by rw [h.at' x hx, if_neg c]⟩
/-- A path never holds more places than there are. -/
theorem nodup_len : ∀ (n : Nat) (r : List Nat), r.Nodup → (∀ x ∈ r, x < n) → r.length ≤ n
  | 0, r, _, h => by
    cases r with
    | nil => simp
    | cons x r => have := h x (List.mem_cons_self ..); omega
  | n + 1, r, hd, h => by
    have ih := nodup_len n (r.erase n) (hd.erase n) (fun x hx => by
      have h1 := h x (List.mem_of_mem_erase hx)
      have h2 : x ≠ n := fun e => by rw [e] at hx; exact (List.Nodup.mem_erase_iff hd).1 hx |>.1 rfl
      omega)
    have := List.length_erase_le (a := n) (l := r)
    have h3 : r.length ≤ (r.erase n).length + 1 := by
      rw [List.length_erase]; split <;> omega
    omega
/-- One step of the path and of the copy. -/
theorem Pth.mark {p : Nat → Nat} {n i : Nat} {L r : List Nat} {lv : List Int} (hP : Pth p n i (fun x => x ∈ L) r) (h : Lft p n (L ++ r) lv) (hi : i < n) (hp : ∀ x, x < n → p x < n) (hx : nxt p i r ∉ L ++ r) :
    Pth p n i (fun x => x ∈ L) (r ++ [nxt p i r]) ∧ Lft p n (L ++ (r ++ [nxt p i r])) (lv.set (nxt p i r) (-1)) ∧ nxt p i (r ++ [nxt p i r]) = p (nxt p i r) :=
  ⟨hP.step hi hp (fun c => hx (List.mem_append_left _ c)) (fun c => hx (List.mem_append_right _ c)), by rw [← List.append_assoc]; exact h.set _, nxt_snoc p i r _⟩
theorem nxt_lt {p : Nat → Nat} {n i : Nat} {V : Nat → Prop} {r : List Nat} (hP : Pth p n i V r) (hi : i < n) (hp : ∀ x, x < n → p x < n) : nxt p i r < n := by
  unfold nxt
  cases hl : r.getLast? with
  | none => exact hi
  | some x => exact hp x (hP.lt x (List.mem_of_getLast? hl)).1
/-- The inner loop has ended: nothing, or one whole round. -/
theorem Pth.done {p : Nat → Nat} {n i : Nat} {ls : List (List Nat)} {r : List Nat} (hR : Rds p n i ls) (hP : Pth p n i (fun x => x ∈ ls.flatten) r) (hinj : ∀ x y, x < n → y < n → p x = p y → x = y) (hx : nxt p i r ∈ ls.flatten ++ r) :
    (r = [] ∧ Rds p n (i + 1) ls) ∨ (r ≠ [] ∧ Rds p n (i + 1) (ls ++ [r])) := by
  by_cases hr : r = []
  · subst hr
    rw [nxt_nil, List.append_nil] at hx
    exact .inl ⟨rfl, hR.skip hx⟩
  · refine .inr ⟨hr, ?_⟩
    have hc := hP.close hinj (hR.back hinj) hr (List.mem_append.1 hx)
    have hi : i ∈ r := by
      cases r with
      | nil => exact absurd rfl hr
      | cons a r => rw [hP.hd a rfl]; exact List.mem_cons_self ..
    exact hR.add (hP.lt i hi).2 hP hr hc
end Go.Proofs.Ytblohakflpedoaa
