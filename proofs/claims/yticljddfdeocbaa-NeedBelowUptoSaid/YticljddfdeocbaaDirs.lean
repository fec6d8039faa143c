/- Directions of what a plan names: the direction 0 needs no more than 1, and what is below a plan is a plan. -/
import Derived.Test.YticljddfdeocbaaNright
namespace Go.Proofs.Yticljddfdeocbaa
open Go.ChangeShapes Go.WideShapes Go.ChangeAt Go.RowKit
set_option linter.unusedVariables false
def Nam.z (x : Nam) : Nam := ⟨x.k, x.n, x.m, 0⟩
theorem named_z (k n dir a : Int) : (namedL k n dir a).map Nam.z = namedL k n 0 a := by
  unfold namedL; split <;> (try split) <;> (try split) <;> rfl
theorem under_zero (k : Int) : under k 0 = 0 := by unfold under; split <;> rfl
theorem names_z : ∀ (f : Fo) (dir : Int), (f.names dir).map Nam.z = f.names 0
  | .nil, _ => rfl
  | .cons k n ks r, dir => by
    rw [Fo.names, Fo.names, List.map_append, List.map_append, named_z, names_z ks, names_z r, under_zero]
theorem namesN_z (k n : Int) (ks : Fo) (dir : Int) : (namesN k n ks dir).map Nam.z = namesN k n ks 0 := by
  rw [namesN, namesN, List.map_append, named_z, names_z, under_zero]
theorem onceA_map (f : Nam → Nam) : ∀ (l acc acc' : List Nam), (∀ y ∈ acc, f y ∈ acc') → acc'.length ≤ acc.length → (onceA acc' (l.map f)).length ≤ (onceA acc l).length
  | [], acc, acc', _, h => h
  | y :: r, acc, acc', hm, h => by
    rw [List.map_cons, onceA, onceA]
    by_cases hy : y ∈ acc
    · rw [if_pos hy, if_pos (hm y hy)]
      exact onceA_map f r acc acc' hm h
    · rw [if_neg hy]
      by_cases hf : f y ∈ acc'
      · rw [if_pos hf]
        refine onceA_map f r _ _ (fun x hx => ?_) (by rw [List.length_append, List.length_singleton]; omega)
        rcases List.mem_append.1 hx with hx | hx
        · exact hm x hx
        · simp only [List.mem_singleton] at hx; subst hx; exact hf
      · rw [if_neg hf]
        refine onceA_map f r _ _ (fun x hx => ?_) (by rw [List.length_append, List.length_append, List.length_singleton, List.length_singleton]; omega)
        rcases List.mem_append.1 hx with hx | hx
        · exact List.mem_append_left _ (hm x hx)
        · simp only [List.mem_singleton] at hx; subst hx; exact List.mem_append_right _ (by simp)
theorem once_dirs (k n : Int) (ks : Fo) : (once (namesN k n ks 0)).length ≤ (once (namesN k n ks 1)).length := by
  rw [← namesN_z k n ks 1]
  exact onceA_map Nam.z _ [] [] (fun y hy => by cases hy) (Nat.le_refl _)
theorem leaf_once (k n dir : Int) : (once (namesN k n .nil dir)).length = if k = 1 ∨ k = 3 ∨ k = 4 then 1 else if k = 6 then 1 else if k = 7 then 2 else 0 := by
  rw [namesN, Fo.names, List.append_nil, namedL]
  split
  · rfl
  · split
    · rfl
    · split
      · simp [once, onceA, Nam.eq_iff]
      · rfl
theorem pre_all (f : Fo) (i : Nat) (h : i < f.len) (ha : f.pre.all Nd.ok = true) : (Nd.mk (f.k i) (f.n i) (f.kids i)).ok = true ∧ (f.kids i).pre.all Nd.ok = true := by
  induction f generalizing i with
  | nil => simp [Fo.len] at h
  | cons k n ks r _ ih =>
    rw [Fo.pre, List.all_cons, List.all_append] at ha
    simp only [Bool.and_eq_true] at ha
    cases i with
    | zero => exact ⟨ha.1, ha.2.1⟩
    | succ i => exact ih i (by simp [Fo.len] at h; omega) ha.2.2
theorem chk_kid {k n : Int} {ks : Fo} (h : chkd k n ks = 0) (i : Nat) (hi : i < ks.len) : chkd (ks.k i) (ks.n i) (ks.kids i) = 0 := by
  obtain ⟨h1, h2, h3, h4⟩ := chk_zero h
  obtain ⟨h5, h6⟩ := pre_all ks i hi h2
  have := Fo.cnt_kids ks i hi
  have := Fo.depth_kids ks i hi
  unfold chkd
  rw [if_neg (by omega), List.all_cons, h5, h6]
  rfl
theorem names_kid (f : Fo) (dir : Int) (i : Nat) (h : i < f.len) : ∀ x ∈ namesN (f.k i) (f.n i) (f.kids i) dir, x ∈ f.names dir := by
  induction f generalizing i with
  | nil => simp [Fo.len] at h
  | cons k n ks r _ ih =>
    intro x hx
    rw [Fo.names, List.mem_append]
    cases i with
    | zero => exact .inl hx
    | succ i => exact .inr (ih i (by simp [Fo.len] at h; omega) x hx)
theorem once_kid {k n dir : Int} {ks : Fo} (i : Nat) (h : i < ks.len) : ∀ x ∈ once (namesN (ks.k i) (ks.n i) (ks.kids i) (under k dir)), x ∈ once (namesN k n ks dir) := by
  intro x hx
  rw [once_mem] at hx ⊢
  rw [namesN, List.mem_append]
  exact .inr (names_kid ks _ i h x hx)
theorem kind_top {k n : Int} {ks : Fo} (h : chkd k n ks = 0) : 1 ≤ k ∧ k ≤ 7 := by
  obtain ⟨h1, _⟩ := chk_zero h
  have h2 : nodeB k n ks.len (ks.n 0) (ks.n 1) = true := h1
  unfold nodeB at h2
  refine Classical.byContradiction fun hn => ?_
  rw [if_neg (by omega), if_neg (by omega), if_neg (by omega), if_neg (by omega), if_neg (by omega), if_neg (by omega), if_neg (by omega)] at h2
  cases h2
theorem under_law {k : Int} (h : 1 ≤ k ∧ k ≤ 7) : (if 5 < k then (0 : Int) else 1) = under k 1 := by
  unfold under
  by_cases h5 : 5 < k
  · rw [if_pos h5, if_pos (by omega)]
  · rw [if_neg h5, if_neg (by omega)]
end Go.Proofs.Yticljddfdeocbaa
