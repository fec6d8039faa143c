/- LoadErrors: the numbers. -/
import Derived.Test.YtfilbdmenlhoiaaLof
namespace Go.Proofs.Ytfilbdmenlhoiaa
open Go.ChangeShapes Go.WideShapes Go.ChangeAt Go.RowKit
set_option linter.unusedVariables false
set_option linter.unusedSimpArgs false
theorem iget_iput : ∀ (m : List (Int × Int)) (k v k' : Int), iget (iput m k v) k' = if k = k' then v else iget m k'
  | [], k, v, k' => by simp [iput, iget]
  | p :: l, k, v, k' => by
    rw [iput]
    by_cases h : p.1 = k
    · rw [if_pos h, iget]
      by_cases h2 : k = k'
      · rw [if_pos h2, if_pos h2]
      · rw [if_neg h2, if_neg h2, iget, if_neg (by rw [h]; exact h2)]
    · rw [if_neg h, iget, iget_iput l k v k', iget]
      by_cases h2 : p.1 = k'
      · rw [if_pos h2, if_pos h2, if_neg (fun e => h (by rw [h2, e]))]
      · rw [if_neg h2, if_neg h2]
theorem sum_iput : ∀ (m : List (Int × Int)) (k v : Int), ((iput m k v).map Prod.snd).sum = (m.map Prod.snd).sum - iget m k + v
  | [], k, v => by simp [iput, iget]
  | p :: l, k, v => by
    rw [iput, iget]
    by_cases h : p.1 = k
    · rw [if_pos h, if_pos h]; simp; omega
    · rw [if_neg h, if_neg h]
      have := sum_iput l k v
      simp only [List.map_cons, List.sum_cons] at this ⊢
      omega
theorem iget_eTo (l : List Oi) (hn : l.length ≤ 10000) : ∀ i, i ≤ l.length → ∀ e, iget (eTo l i) e = if e = 0 then 0 else (toldN (l.take i) e : Int)
  | 0, _, e => by by_cases h : e = 0 <;> simp [h, eTo, iget, toldN]
  | i + 1, hi, e => by
    obtain ⟨x, hx⟩ : ∃ x, l[i]? = some x := ⟨_, List.getElem?_eq_getElem (by omega)⟩
    have ih := iget_eTo l hn i (by omega)
    have hle := toldN_le l x.e i
    rw [eTo_succ hx, toldN_succ hx, estep]
    by_cases hc : x.t ≠ -1 ∧ x.e ≠ 0
    · rw [if_pos hc, iget_iput, ih x.e, if_neg hc.2]
      by_cases h2 : x.e = e
      · subst h2
        rw [if_pos rfl, if_neg hc.2, show toldB x.e x = true by simp [toldB, hc.1], if_pos rfl]
        simp only [wrap64]
        omega
      · rw [if_neg h2, ih e, show toldB e x = false by simp [toldB, h2]]
        simp
    · rw [if_neg hc, ih e]
      by_cases h0 : e = 0
      · rw [if_pos h0, if_pos h0]
      · rw [if_neg h0, if_neg h0, show toldB e x = false by
          simp only [toldB, decide_eq_false_iff_not]
          intro h
          exact hc ⟨h.1, by rw [h.2]; exact h0⟩]
        simp
theorem mem_eTo (l : List Oi) : ∀ i, i ≤ l.length → ∀ e, e ∈ (eTo l i).map Prod.fst ↔ e ≠ 0 ∧ toldN (l.take i) e ≠ 0
  | 0, _, e => by simp [eTo, toldN]
  | i + 1, hi, e => by
    obtain ⟨x, hx⟩ : ∃ x, l[i]? = some x := ⟨_, List.getElem?_eq_getElem (by omega)⟩
    have ih := mem_eTo l i (by omega)
    rw [eTo_succ hx, toldN_succ hx, estep]
    by_cases hc : x.t ≠ -1 ∧ x.e ≠ 0
    · rw [if_pos hc, iput_keys]
      by_cases h2 : x.e = e
      · subst h2
        rw [show toldB x.e x = true by simp [toldB, hc.1], if_pos rfl]
        constructor
        · intro _; exact ⟨hc.2, by omega⟩
        · intro _
          by_cases hm : x.e ∈ (eTo l i).map Prod.fst
          · rw [if_pos hm]; exact hm
          · rw [if_neg hm]; simp
      · have hT : (toldN (l.take i) e + if toldB e x = true then 1 else 0) = toldN (l.take i) e := by simp [toldB, h2]
        rw [hT, ← ih e]
        by_cases hm : x.e ∈ (eTo l i).map Prod.fst
        · rw [if_pos hm]
        · rw [if_neg hm, List.mem_append, List.mem_singleton]
          exact ⟨fun h => h.resolve_right (fun e' => h2 e'.symm), .inl⟩
    · rw [if_neg hc, ih e]
      by_cases h0 : e = 0
      · simp [h0]
      · rw [show toldB e x = false by
          simp only [toldB, decide_eq_false_iff_not]
          intro h
          exact hc ⟨h.1, by rw [h.2]; exact h0⟩]
        simp
def errB (x : Oi) : Bool := decide (x.t ≠ -1 ∧ x.e ≠ 0)
theorem errB_succ {l : List Oi} {i : Nat} {x : Oi} (h : l[i]? = some x) : (l.take (i + 1)).countP errB = (l.take i).countP errB + (if errB x then 1 else 0) := by
  rw [List.take_add_one, h, List.countP_append]
  simp
theorem errB_le (l : List Oi) (i : Nat) : (l.take i).countP errB ≤ i := Nat.le_trans (List.countP_le_length ..) (by rw [List.length_take]; omega)
theorem sum_eTo (l : List Oi) (hn : l.length ≤ 10000) : ∀ i, i ≤ l.length → ((eTo l i).map Prod.snd).sum = ((l.take i).countP errB : Int)
  | 0, _ => by simp [eTo]
  | i + 1, hi => by
    obtain ⟨x, hx⟩ : ∃ x, l[i]? = some x := ⟨_, List.getElem?_eq_getElem (by omega)⟩
    have ih := sum_eTo l hn i (by omega)
    have hg := iget_eTo l hn i (by omega) x.e
    have hle := toldN_le l x.e i
    rw [eTo_succ hx, errB_succ hx, estep]
    by_cases hc : x.t ≠ -1 ∧ x.e ≠ 0
    · rw [if_neg hc.2] at hg
      rw [if_pos hc, sum_iput, ih, hg, show errB x = true by simp only [errB, decide_eq_true_eq]; exact hc]
      simp only [wrap64, if_pos]
      omega
    · rw [if_neg hc, ih, show errB x = false by simp only [errB, decide_eq_false_iff_not]; exact hc]
      simp
theorem ofN_e (l : List Oi) (hn : l.length ≤ 10000) : ∀ i, i ≤ l.length → (ofN (l.take i)).e = ((l.take i).countP errB : Int)
  | 0, _ => by simp [ofN]
  | i + 1, hi => by
    obtain ⟨x, hx⟩ : ∃ x, l[i]? = some x := ⟨_, List.getElem?_eq_getElem (by omega)⟩
    have ih := ofN_e l hn i (by omega)
    have hle := errB_le l i
    rw [ofN_succ hx, errB_succ hx, ofS]
    by_cases ht : x.t = -1
    · rw [if_pos ht, show errB x = false by simp [errB, ht]]
      simp [ih]
    · rw [if_neg ht]
      by_cases he : x.e = 0
      · rw [show errB x = false by simp [errB, he]]
        simp [he, ih]
      · rw [show errB x = true by simp [errB, he, ht]]
        simp only [if_neg he, ih, wrap64, if_pos]
        omega
/-- What the statement's loop sums up. -/
def sumK (l : List Oi) (i : Nat) : Int := (((eTo l i).map Prod.fst).map (iget (eTo l l.length))).sum
theorem keys_vals {m : List (Int × Int)} (h : (m.map Prod.fst).Nodup) : (m.map Prod.fst).map (iget m) = m.map Prod.snd := by
  apply List.ext_getElem?
  intro j
  rw [List.getElem?_map, List.getElem?_map, List.getElem?_map]
  cases hj : m[j]? with
  | none => rfl
  | some p => simp [(iget_some h hj).1]
theorem sumK_all (l : List Oi) (hn : l.length ≤ 10000) (hd : ((eTo l l.length).map Prod.fst).Nodup) : sumK l l.length = (ofN l).e := by
  unfold sumK
  rw [keys_vals hd, sum_eTo l hn l.length (Nat.le_refl _)]
  have := ofN_e l hn l.length (Nat.le_refl _)
  rw [List.take_length] at this ⊢
  exact this.symm
theorem step_in {l : List Oi} {i : Nat} {x : Oi} (h : l[i]? = some x) (hi : i ≤ l.length) (hc : x.t ≠ -1 ∧ x.e ≠ 0) (h0 : toldN (l.take i) x.e = 0) : sumK l (i + 1) = sumK l i + iget (eTo l l.length) x.e ∧ (eTo l (i + 1)).length = (eTo l i).length + 1 := by
  have hm : ¬ x.e ∈ (eTo l i).map Prod.fst := fun e => ((mem_eTo l i hi x.e).1 e).2 h0
  have hk : (eTo l (i + 1)).map Prod.fst = (eTo l i).map Prod.fst ++ [x.e] := by rw [eTo_succ h, estep, if_pos hc, iput_keys, if_neg hm]
  refine ⟨by unfold sumK; rw [hk]; simp, ?_⟩
  have := congrArg List.length hk
  simpa using this
theorem step_out {l : List Oi} {i : Nat} {x : Oi} (h : l[i]? = some x) (hi : i ≤ l.length) (hc : ¬ (x.t ≠ -1 ∧ x.e ≠ 0 ∧ toldN (l.take i) x.e = 0)) : sumK l (i + 1) = sumK l i ∧ (eTo l (i + 1)).length = (eTo l i).length := by
  have hk : (eTo l (i + 1)).map Prod.fst = (eTo l i).map Prod.fst := by
    rw [eTo_succ h, estep]
    by_cases h2 : x.t ≠ -1 ∧ x.e ≠ 0
    · have hm : x.e ∈ (eTo l i).map Prod.fst := (mem_eTo l i hi x.e).2 ⟨h2.2, fun e => hc ⟨h2.1, h2.2, e⟩⟩
      rw [if_pos h2, iput_keys, if_pos hm]
    · rw [if_neg h2]
  refine ⟨by unfold sumK; rw [hk], ?_⟩
  have := congrArg List.length hk
  simpa using this
theorem hits_told (l : List Oi) (e : Int) : toldN (l.filter (fun y => decide (kf y = 2))) e = l.countP (hitB e) := by
  unfold toldN
  rw [List.countP_filter]
  apply List.countP_congr
  intro x _
  have hk : kf x = 2 ↔ x.kind = 2 := by
    unfold kf
    split <;> constructor <;> intro h <;> omega
  simp only [toldB, hitB, Bool.and_eq_true, decide_eq_true_eq, hk]
  constructor
  · rintro ⟨⟨h1, h2⟩, h3⟩; exact ⟨h3, h1, h2⟩
  · rintro ⟨h3, h1, h2⟩; exact ⟨⟨h1, h2⟩, h3⟩
end Go.Proofs.Ytfilbdmenlhoiaa
