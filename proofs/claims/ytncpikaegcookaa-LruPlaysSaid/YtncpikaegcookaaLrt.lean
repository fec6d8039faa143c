/- LruFront: the numbers. -/
import Derived.Test.YtncpikaegcookaaLrs
namespace Go.Proofs.Ytncpikaegcookaa
open Go.ChangeShapes Go.WideShapes Go.ChangeAt Go.RowKit
set_option linter.unusedVariables false
set_option linter.unusedSimpArgs false
/-- All keys, the one that came last ahead. -/
def recN (s : List Int) (k : Int) : List Int := k :: s.filter (fun x => decide (x ≠ k))
def recL (ks : List Int) : List Int := ks.foldl recN []
def uqs (l : List Int) (x : Int) : List Int := if x ∈ l then l else l ++ [x]
theorem uqs_cons (k : Int) : ∀ (r l : List Int), k ∉ l → r.foldl uqs (k :: l) = k :: (r.foldl uqs l).filter (fun x => decide (x ≠ k)) := by
  have key : ∀ (r l m : List Int), (m = l.filter (fun x => decide (x ≠ k))) → r.foldl uqs (k :: m) = k :: (r.foldl uqs l).filter (fun x => decide (x ≠ k)) := by
    intro r
    induction r with
    | nil => intro l m h; rw [h]; rfl
    | cons x r ih =>
      intro l m h
      rw [List.foldl_cons, List.foldl_cons]
      by_cases hx : x = k
      · subst hx
        rw [show uqs (x :: m) x = x :: m by unfold uqs; rw [if_pos (List.mem_cons_self ..)]]
        refine ih _ m ?_
        rw [h]
        unfold uqs
        split
        · rfl
        · rw [List.filter_append]; simp
      · have e1 : uqs (k :: m) x = k :: uqs m x := by
          unfold uqs
          by_cases hm : x ∈ m
          · rw [if_pos hm, if_pos (List.mem_cons_of_mem _ hm)]
          · rw [if_neg hm, if_neg (fun e => (List.mem_cons.1 e).elim hx hm)]; rfl
        rw [e1]
        refine ih _ _ ?_
        rw [h]
        unfold uqs
        by_cases hl : x ∈ l
        · rw [if_pos hl, if_pos (List.mem_filter.2 ⟨hl, by simp [hx]⟩)]
        · rw [if_neg hl, if_neg (fun e => hl (List.mem_filter.1 e).1), List.filter_append]
          simp [hx]
  intro r l hk
  refine key r l l ?_
  rw [List.filter_eq_self.2 (fun x hx => by simp; exact fun e => hk (e ▸ hx))]
theorem recL_uqs : ∀ (ks : List Int), recL ks = ks.reverse.foldl uqs [] := by
  intro ks
  have : ∀ r : List Int, recL r.reverse = r.foldl uqs [] := by
    intro r
    induction r with
    | nil => rfl
    | cons k r ih =>
      rw [List.reverse_cons, recL, List.foldl_append, List.foldl_cons, List.foldl_nil, List.foldl_cons, show uqs [] k = [k] by unfold uqs; rw [if_neg (by simp)]; rfl, uqs_cons k r [] (by simp), ← ih]
      rfl
  have h := this ks.reverse
  rwa [List.reverse_reverse] at h
theorem uqs_pre : ∀ (r l : List Int), ∃ m, r.foldl uqs l = l ++ m
  | [], l => ⟨[], by simp⟩
  | x :: r, l => by
    obtain ⟨m, hm⟩ := uqs_pre r (uqs l x)
    rw [List.foldl_cons, hm]
    unfold uqs
    split
    · exact ⟨m, rfl⟩
    · exact ⟨[x] ++ m, by rw [List.append_assoc]⟩
theorem recL_succ {ks : List Int} {i : Nat} {k : Int} (h : ks[i]? = some k) : recL (ks.take (i + 1)) = recN (recL (ks.take i)) k := by
  unfold recL
  rw [List.take_add_one, h, List.foldl_append]; rfl
theorem recL_nodup : ∀ (ks : List Int) (i : Nat), i ≤ ks.length → (recL (ks.take i)).Nodup
  | ks, 0, _ => List.nodup_nil
  | ks, i + 1, hi => by
    obtain ⟨k, hk⟩ : ∃ k, ks[i]? = some k := ⟨_, List.getElem?_eq_getElem (by omega)⟩
    rw [recL_succ hk, recN, List.nodup_cons]
    exact ⟨fun h => by simpa using (List.mem_filter.1 h).2, (recL_nodup ks i (by omega)).sublist List.filter_sublist⟩
theorem vidx_at {s : List (Int × Int)} {k : Int} : ∀ {j : Nat}, vidx s k = some j → (s.map Prod.fst)[j]? = some k := fun h => by
  obtain ⟨p, hp, hk⟩ := vidx_some h
  rw [List.getElem?_map, hp]; simp [hk]
theorem filter_take {k : Int} : ∀ (L : List Int) (n : Nat), L.Nodup → (∀ j, L[j]? = some k → j < n → ((L.filter (fun x => decide (x ≠ k))).take (n - 1) = (L.take n).eraseIdx j)) ∧ (k ∉ L.take n → (L.filter (fun x => decide (x ≠ k))).take (n - 1) = L.take (n - 1))
  | [], n, _ => ⟨fun j h => by simp at h, fun _ => by simp⟩
  | x :: L, 0, _ => ⟨fun j _ h => by omega, fun _ => by simp⟩
  | x :: L, n + 1, hn => by
    rw [List.nodup_cons] at hn
    obtain ⟨h1, h2⟩ := filter_take (k := k) L n hn.2
    rw [Nat.add_sub_cancel]
    by_cases hx : x = k
    · subst hx
      have hf : (x :: L).filter (fun y => decide (y ≠ x)) = L := by
        rw [List.filter_cons_of_neg (by simp), List.filter_eq_self.2 (fun y hy => by simp; exact fun e => hn.1 (e ▸ hy))]
      refine ⟨fun j hj hlt => ?_, fun h => absurd (by rw [List.take_succ_cons]; exact List.mem_cons_self ..) h⟩
      have : j = 0 := by
        cases j with
        | zero => rfl
        | succ j => rw [List.getElem?_cons_succ] at hj; exact absurd (List.mem_of_getElem? hj) hn.1
      subst this
      rw [hf, List.take_succ_cons, List.eraseIdx_cons_zero]
    · have hf : (x :: L).filter (fun y => decide (y ≠ k)) = x :: L.filter (fun y => decide (y ≠ k)) := List.filter_cons_of_pos (by simp [hx])
      refine ⟨fun j hj hlt => ?_, fun h => ?_⟩
      · cases j with
        | zero => simp at hj; exact absurd hj hx
        | succ j =>
          rw [List.getElem?_cons_succ] at hj
          have := h1 j hj (by omega)
          cases n with
          | zero => omega
          | succ n => rw [hf, List.take_succ_cons, List.take_succ_cons, List.eraseIdx_cons_succ, ← this]; rfl
      · cases n with
        | zero => simp
        | succ n =>
          rw [hf, List.take_succ_cons, List.take_succ_cons]
          have := h2 (fun e => h (by rw [List.take_succ_cons]; exact List.mem_cons_of_mem _ e))
          rw [Nat.add_sub_cancel] at this
          rw [this]
/-- What a list of room n holds: the keys that came last. -/
theorem put_keys {n : Nat} (hn : 1 ≤ n) {s : List (Int × Int)} {D : List Int} {k a : Int} (hD : D.Nodup) (h : s.map Prod.fst = D.take n) : (putL (n : Int) s k a).map Prod.fst = (recN D k).take n := by
  obtain ⟨m, rfl⟩ : ∃ m, n = m + 1 := ⟨n - 1, by omega⟩
  have hl : s.length = (D.take (m + 1)).length := by rw [← h, List.length_map]
  unfold recN
  rw [List.take_succ_cons]
  obtain ⟨h1, h2⟩ := filter_take (k := k) D (m + 1) hD
  rw [Nat.add_sub_cancel] at h1 h2
  cases hv : vidx s k with
  | some j =>
    have hj := vidx_at hv
    rw [h] at hj
    have hj2 : D[j]? = some k ∧ j < m + 1 := by
      rw [List.getElem?_take] at hj
      split at hj
      · rename_i hlt; exact ⟨hj, hlt⟩
      · cases hj
    rw [(putL_some (a := a) hv).1, List.map_cons, map_erase, h, h1 j hj2.1 hj2.2]
  | none =>
    have hno : k ∉ D.take (m + 1) := fun e => by
      rw [← h] at e
      obtain ⟨p, hp, hk⟩ := List.mem_map.1 e
      exact vidx_none hv p hp hk
    rw [h2 hno]
    by_cases hr : (s.length : Int) + 1 ≤ ((m + 1 : Nat) : Int)
    · rw [(putL_room hv hr).1, List.map_cons, h]
      have : D.length ≤ m := by
        rw [List.length_take] at hl; omega
      rw [List.take_of_length_le (by omega), List.take_of_length_le (by omega)]
    · rw [(putL_full hv hr).1, map_erase, List.map_cons, h]
      have hlm : s.length = m + 1 := by rw [List.length_take] at hl; omega
      rw [hlm, List.eraseIdx_cons_succ]
      congr 1
      have h9 : (D.take (m + 1)).length = m + 1 := by omega
      rw [List.eraseIdx_eq_take_drop_succ, List.take_take, Nat.min_eq_left (by omega), List.drop_of_length_le (by omega), List.append_nil]
theorem put_len {n : Nat} {s : List (Int × Int)} {k a : Int} (h : s.length ≤ n) : (putL (n : Int) s k a).length ≤ n ∨ n = 0 := by
  by_cases hn : n = 0
  · exact .inr hn
  · left
    cases hv : vidx s k with
    | some j =>
      obtain ⟨p, hp, -⟩ := vidx_some hv
      have := (List.getElem?_eq_some_iff.1 hp).1
      rw [(putL_some (a := a) hv).1, List.length_cons, List.length_eraseIdx, if_pos this]; omega
    | none =>
      by_cases hr : (s.length : Int) + 1 ≤ (n : Int)
      · rw [(putL_room hv hr).1, List.length_cons]; omega
      · rw [(putL_full hv hr).1, List.length_eraseIdx, List.length_cons, if_pos (by omega)]; omega
end Go.Proofs.Ytncpikaegcookaa
