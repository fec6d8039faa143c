/- A stack of rows of nodes: a row of slices of the call's own that grows and is cut. -/
import Derived.Test.YtcbiennifmfkgaaRangeb
namespace Go.Proofs.Ytcbiennifmfkgaa
open Go.ChangeShapes Go.WideShapes Go.ChangeAt Go.RowKit
set_option linter.unusedVariables false
set_option linter.unusedSimpArgs false
/-- The number of all nodes of some rows. -/
def cntL : List Fo → Nat
  | [] => 0
  | f :: l => f.cnt + cntL l
theorem cntL_app : ∀ l m : List Fo, cntL (l ++ m) = cntL l + cntL m
  | [], m => by simp [cntL]
  | f :: l, m => by simp only [List.cons_append, cntL, cntL_app l m]; omega
theorem cntL_at : ∀ (l : List Fo) (f : Fo), f ∈ l → f.cnt ≤ cntL l
  | [], f, h => by cases h
  | g :: l, f, h => by
    simp only [cntL]
    rcases List.mem_cons.1 h with rfl | h
    · omega
    · have := cntL_at l f h; omega
/-- The rows of the kids of the first i of a row's nodes, but for the empty ones. -/
def kidsTo (f : Fo) : Nat → List Fo
  | 0 => []
  | i + 1 => kidsTo f i ++ (if 0 < (f.kids i).len then [f.kids i] else [])
theorem kidsTo_len (f : Fo) : ∀ i, (kidsTo f i).length ≤ i
  | 0 => Nat.le_refl _
  | i + 1 => by have := kidsTo_len f i; rw [kidsTo, List.length_append]; split <;> simp <;> omega
theorem cnt_none {f : Fo} (h : f.len = 0) : f.cnt = 0 := by cases f with
  | nil => rfl
  | cons k n ks r => simp [Fo.len] at h
def kcnt (f : Fo) : Nat → Nat
  | 0 => 0
  | i + 1 => kcnt f i + (f.kids i).cnt
theorem kidsTo_cnt (f : Fo) : ∀ i, cntL (kidsTo f i) = kcnt f i
  | 0 => rfl
  | i + 1 => by
    rw [kidsTo, cntL_app, kidsTo_cnt f i, kcnt]
    split
    · simp [cntL]
    · rename_i h
      rw [cnt_none (f := f.kids i) (by omega)]; simp [cntL]
theorem kcnt_cons (k n : Int) (ks r : Fo) : ∀ i, kcnt (.cons k n ks r) (i + 1) = ks.cnt + kcnt r i
  | 0 => by simp [kcnt, Fo.kids]
  | i + 1 => by
    rw [kcnt, kcnt_cons k n ks r i, kcnt]
    simp only [Fo.kids]; omega
theorem kcnt_all : ∀ f : Fo, f.cnt = f.len + kcnt f f.len
  | .nil => rfl
  | .cons k n ks r => by
    have := kcnt_all r
    rw [Fo.len, kcnt_cons, Fo.cnt]; omega
/-- The least of some numbers. -/
theorem least_ex (p : Nat → Prop) (h : ∃ k, p k) : ∃ k, p k ∧ ∀ j, p j → k ≤ j := by
  obtain ⟨k, hk⟩ := h
  induction k using Nat.strongRecOn with
  | _ k ih =>
    by_cases hj : ∃ j, j < k ∧ p j
    · obtain ⟨j, h1, h2⟩ := hj
      exact ih j h1 h2
    · exact ⟨k, hk, fun j hpj => Nat.le_of_not_lt fun hlt => hj ⟨j, hlt, hpj⟩⟩
noncomputable def leastN (p : Nat → Prop) : Nat := Classical.epsilon fun k => p k ∧ ∀ j, p j → k ≤ j
theorem leastN_is {p : Nat → Prop} (h : ∃ k, p k) : p (leastN p) ∧ ∀ j, p j → leastN p ≤ j := Classical.epsilon_spec (least_ex p h)
end Go.Proofs.Ytcbiennifmfkgaa
