/- Maps of ints: what a look-up finds, what a store makes. -/
import Derived.Test.YtofgkhoemgimeaaLtm
namespace Go.Proofs.Ytofgkhoemgimeaa
open Go.ChangeShapes Go.WideShapes Go.ChangeAt Go.RowKit
set_option linter.unusedVariables false
open Go.WideMaps Go.MapKept Go.WideElems Go.ChangeMaps
set_option linter.unusedSimpArgs false
def iget : List (Int × Int) → Int → Int
  | [], _ => 0
  | p :: l, k => if p.1 = k then p.2 else iget l k
def iput : List (Int × Int) → Int → Int → List (Int × Int)
  | [], k, v => [(k, v)]
  | p :: l, k, v => if p.1 = k then (k, v) :: l else p :: iput l k v
def i64ok (k : Int) : Prop := -9223372036854775808 ≤ k ∧ k ≤ 9223372036854775807
/-- Keys in words' range, each just once. -/
structure IM (m : List (Int × Int)) : Prop where
  r : ∀ p ∈ m, i64ok p.1
  d : (m.map Prod.fst).Nodup
theorem IM.nil : IM [] := ⟨fun p h => (by cases h), List.nodup_nil⟩
theorem iget_none : ∀ {m : List (Int × Int)} {k : Int}, (∀ p ∈ m, p.1 ≠ k) → iget m k = 0 ∧ ∀ v, iput m k v = m ++ [(k, v)]
  | [], k, _ => ⟨rfl, fun v => rfl⟩
  | p :: l, k, h => by
    obtain ⟨h1, h2⟩ := iget_none (m := l) (k := k) (fun q hq => h q (List.mem_cons_of_mem _ hq))
    have := h p (List.mem_cons_self ..)
    exact ⟨by rw [iget, if_neg this, h1], fun v => by rw [iput, if_neg this, h2, List.cons_append]⟩
theorem iget_some : ∀ {m : List (Int × Int)} {j : Nat} {p : Int × Int}, (m.map Prod.fst).Nodup → m[j]? = some p → iget m p.1 = p.2 ∧ ∀ v, iput m p.1 v = m.set j (p.1, v)
  | [], j, p, _, h => by simp at h
  | q :: l, 0, p, hn, h => by
    simp at h; subst h
    exact ⟨by rw [iget, if_pos rfl], fun v => by rw [iput, if_pos rfl, List.set_cons_zero]⟩
  | q :: l, j + 1, p, hn, h => by
    rw [List.map_cons, List.nodup_cons] at hn
    rw [List.getElem?_cons_succ] at h
    obtain ⟨h1, h2⟩ := iget_some hn.2 h
    have hne : q.1 ≠ p.1 := fun e => hn.1 (by rw [e]; exact List.mem_map.2 ⟨p, List.mem_of_getElem? h, rfl⟩)
    exact ⟨by rw [iget, if_neg hne, h1], fun v => by rw [iput, if_neg hne, h2, List.set_cons_succ]⟩
theorem iput_keys : ∀ (m : List (Int × Int)) (k v : Int), (iput m k v).map Prod.fst = if k ∈ m.map Prod.fst then m.map Prod.fst else m.map Prod.fst ++ [k]
  | [], k, v => by simp [iput]
  | p :: l, k, v => by
    rw [iput]
    by_cases h : p.1 = k
    · rw [if_pos h]; subst h; simp
    · rw [if_neg h, List.map_cons, iput_keys l k v]
      have : k ∈ (p :: l).map Prod.fst ↔ k ∈ l.map Prod.fst := by
        rw [List.map_cons, List.mem_cons]
        exact ⟨fun e => e.resolve_left (fun e => h e.symm), .inr⟩
      by_cases h2 : k ∈ l.map Prod.fst
      · rw [if_pos h2, if_pos (this.2 h2), List.map_cons]
      · rw [if_neg h2, if_neg (fun e => h2 (this.1 e)), List.map_cons, List.cons_append]
theorem IM.put {m : List (Int × Int)} (h : IM m) {k : Int} (hk : i64ok k) (v : Int) : IM (iput m k v) := by
  have e := iput_keys m k v
  refine ⟨fun p hp => ?_, ?_⟩
  · have hp1 : p.1 ∈ (iput m k v).map Prod.fst := List.mem_map.2 ⟨p, hp, rfl⟩
    rw [e] at hp1
    have : p.1 ∈ m.map Prod.fst ∨ p.1 = k := by
      split at hp1
      · exact .inl hp1
      · rcases List.mem_append.1 hp1 with h1 | h1
        · exact .inl h1
        · rw [List.mem_singleton] at h1; exact .inr h1
    rcases this with h1 | h1
    · obtain ⟨q, hq, e2⟩ := List.mem_map.1 h1
      rw [← e2]; exact h.r q hq
    · rw [h1]; exact hk
  · rw [e]
    split
    · exact h.d
    · rename_i hn
      rw [List.nodup_append]
      exact ⟨h.d, by simp, fun a ha b hb e2 => by rw [List.mem_singleton] at hb; subst hb; subst e2; exact hn ha⟩
theorem iput_len (m : List (Int × Int)) (k v : Int) : (iput m k v).length ≤ m.length + 1 := by
  have := congrArg List.length (iput_keys m k v)
  rw [List.length_map] at this
  rw [this]
  split <;> simp
theorem int_key' {k : Int} (hk : i64ok k) : keyOf Try.prog 3 (.int .i64 k) = some (.int .i64 k) := by
  have hw : (Lit.int .i64 k).wf = true := by unfold i64ok at hk; simp [Lit.wf, IntKind.min, IntKind.max, IntKind.signed, IntKind.bits]; omega
  simp [keyOf, mapKey, Try.underlying3, hw]
theorem IM.keys {m : List (Int × Int)} (h : IM m) : GKeys Try.prog 3 (iMap m) := by
  refine ⟨fun p hp => ?_, fun i j x y hi hj e => ?_⟩
  · obtain ⟨q, hq, rfl⟩ := List.mem_map.1 hp
    exact ⟨_, int_key' (h.r q hq)⟩
  · obtain ⟨p, hp, rfl⟩ := iMap_get hi
    obtain ⟨q, hq, rfl⟩ := iMap_get hj
    simp only [Value.int.injEq, true_and] at e
    have h1 : (m.map Prod.fst)[i]? = some p.1 := by rw [List.getElem?_map, hp]; rfl
    have h2 : (m.map Prod.fst)[j]? = some q.1 := by rw [List.getElem?_map, hq]; rfl
    exact (List.getElem?_inj (List.getElem?_eq_some_iff.1 h1).1 h.d).1 (by rw [h1, h2, e])
theorem im_keyed : Go.Maps.Keyed Try.prog 3 := Go.Maps.int_keyed Try.underlying3
theorem zero_i (u : World) : (zeroValue 3).run Try.prog u = .ok (.int .i64 0) u := by kernel_rfl
theorem im_look {m : List (Int × Int)} (h : IM m) {k : Int} (hk : i64ok k) (w : World) (b : Nat) (hb : w.heap[b]? = some (gMap (iMap m))) :
    (Instr.lookup 72 (.map (some b)) (.int .i64 k) false).run Try.prog w = .ok (.int .i64 (iget m k)) w ∧
    ∀ v, (Instr.mapUpdate 72 (.map (some b)) (.int .i64 k) (.int .i64 v)).run Try.prog w = .ok () (setBlock w b (gMap (iMap (iput m k v)))) := by
  by_cases hc : ∃ p ∈ m, p.1 = k
  · obtain ⟨p, hp, rfl⟩ := hc
    obtain ⟨j, hj⟩ := List.mem_iff_getElem?.1 hp
    have hj2 : (iMap m)[j]? = some (.int .i64 p.1, .int .i64 p.2) := by unfold iMap; rw [List.getElem?_map, hj]; rfl
    obtain ⟨h1, _, _, _, h5⟩ := g_there im_keyed Try.underlying72 h.keys hj2 w b hb
    obtain ⟨e1, e2⟩ := iget_some h.d hj
    refine ⟨by rw [e1]; exact h1, fun v => ?_⟩
    rw [e2]
    have := h5 (.int .i64 v)
    have e3 : (iMap m).set j (.int .i64 p.1, .int .i64 v) = iMap (m.set j (p.1, v)) := by unfold iMap; rw [List.map_set]
    rw [← e3]; exact this
  · have hn : ∀ p ∈ m, p.1 ≠ k := fun p hp e => hc ⟨p, hp, e⟩
    obtain ⟨e1, e2⟩ := iget_none hn
    obtain ⟨h1, _, _, h4⟩ := g_gone im_keyed Try.underlying72 h.keys zero_i (int_key' hk) (fun p hp e => by
      obtain ⟨q, hq, rfl⟩ := List.mem_map.1 hp
      simp only [Value.int.injEq, true_and] at e
      exact hn q hq e) w b hb
    refine ⟨by rw [e1]; exact h1, fun v => ?_⟩
    rw [e2]
    have := h4 (.int .i64 v)
    have e3 : iMap m ++ [(.int .i64 k, .int .i64 v)] = iMap (m ++ [(k, v)]) := by unfold iMap; rw [List.map_append]; rfl
    rw [← e3]; exact this
end Go.Proofs.Ytofgkhoemgimeaa
