/- A stack of rows of nodes: a row of slices of the call's own that grows and is cut. -/
import Derived.Test.YtfjioflggkmhcaaRangeb
namespace Go.Proofs.Ytfjioflggkmhcaa
open Go.ChangeShapes Go.WideShapes Go.ChangeAt Go.RowKit
set_option linter.unusedVariables false
set_option linter.unusedSimpArgs false
theorem info_rows : (Try.prog.info? 22).map (fun i => (i.zero, i.size, i.bytes)) = some (some (.slice none 0 0), 1, 24) := by kernel_rfl
/-- The number of all nodes of some rows. -/
def cntL : List Fo → Nat
  | [] => 0
  | f :: l => f.cnt + cntL l
theorem cntL_app : ∀ l m : List Fo, cntL (l ++ m) = cntL l + cntL m
  | [], m => by simp [cntL]
  | f :: l, m => by simp only [List.cons_append, cntL, cntL_app l m]; omega
theorem cntL_at : ∀ (l : List Fo) (f : Fo), f ∈ l → f.cnt ≤ cntL l
  | [], f, h => by cases h
  | g :: l, f, h => by
    simp only [cntL]
    rcases List.mem_cons.1 h with rfl | h
    · omega
    · have := cntL_at l f h; omega
/-- The rows of the kids of the first i of a row's nodes, but for the empty ones. -/
def kidsTo (f : Fo) : Nat → List Fo
  | 0 => []
  | i + 1 => kidsTo f i ++ (if 0 < (f.kids i).len then [f.kids i] else [])
theorem kidsTo_len (f : Fo) : ∀ i, (kidsTo f i).length ≤ i
  | 0 => Nat.le_refl _
  | i + 1 => by have := kidsTo_len f i; rw [kidsTo, List.length_append]; split <;> simp <;> omega
theorem cnt_none {f : Fo} (h : f.len = 0) : f.cnt = 0 := by cases f with
  | nil => rfl
  | cons k n ks r => simp [Fo.len] at h
def kcnt (f : Fo) : Nat → Nat
  | 0 => 0
  | i + 1 => kcnt f i + (f.kids i).cnt
theorem kidsTo_cnt (f : Fo) : ∀ i, cntL (kidsTo f i) = kcnt f i
  | 0 => rfl
  | i + 1 => by
    rw [kidsTo, cntL_app, kidsTo_cnt f i, kcnt]
    split
    · simp [cntL]
    · rename_i h
      rw [cnt_none (f := f.kids i) (by omega)]; simp [cntL]
theorem kcnt_cons (k n : Int) (ks r : Fo) : ∀ i, kcnt (.cons k n ks r) (i + 1) = ks.cnt + kcnt r i
  | 0 => by simp [kcnt, Fo.kids]
  | i + 1 => by
    rw [kcnt, kcnt_cons k n ks r i, kcnt]
    simp only [Fo.kids]; omega
theorem kcnt_all : ∀ f : Fo, f.cnt = f.len + kcnt f f.len
  | .nil => rfl
  | .cons k n ks r => by
    have := kcnt_all r
    rw [Fo.len, kcnt_cons, Fo.cnt]; omega
/-- The stack v holds the rows l, of trees before lim. -/
def Stk (w : World) (lim B : Nat) (v : Value) (l : List Fo) : Prop := ∃ xs : List Value, w.ownsRow B 22 1 v l.length xs ∧ ∀ (i : Nat) (f : Fo), l[i]? = some f → ∃ a n c, xs[i]? = some (.slice a n c) ∧ Kids w lim (.slice a n c) f
theorem Stk.one {W : World} {lim B m c : Nat} {p : Option Addr} {f : Fo} (hK : Kids W lim (.slice p m c) f) (hl : lim ≤ W.heap.size) (hB : B ≤ W.heap.size) : Stk (W.alloc (.cells #[.slice p m c] 22)) lim B (.slice (some ⟨W.heap.size, 0, none⟩) 1 1) [f] := by
  refine ⟨[.slice p m c], ⟨rfl, .inr ⟨W.heap.size, 1, _, rfl, hB, heap_alloc_new W _, Nat.le_refl _, by unfold maxLen; omega, rfl, rfl⟩⟩, fun i g h => ?_⟩
  cases i with
  | zero =>
    cases h
    exact ⟨p, m, c, rfl, hK.below hl ((Below.refl _ _).alloc (Nat.le_refl _) _)⟩
  | succ i => cases h
/-- What leaves the trees and the stack's block as they are. -/
theorem Stk.kept {w w' : World} {lim B : Nat} {v : Value} {l : List Fo} (h : Stk w lim B v l) (hb : Below lim w w') (hk : ∀ k o, B ≤ k → w.heap[k]? = some o → o.isCells = true → w'.heap[k]? = some o) : Stk w' lim B v l := by
  obtain ⟨xs, ⟨h0, h1⟩, h2⟩ := h
  refine ⟨xs, ⟨h0, h1.imp id (fun ⟨g, cap, cur, e, hB, hg, h3⟩ => ⟨g, cap, cur, e, hB, hk g _ hB hg rfl, h3⟩)⟩, fun i f hi => ?_⟩
  obtain ⟨a, n, c, e, hK⟩ := h2 i f hi
  exact ⟨a, n, c, e, hK.carry hb⟩
/-- The last is taken away. -/
theorem Stk.pop {w : World} {lim B : Nat} {v : Value} {l : List Fo} {f : Fo} (h : Stk w lim B v (l ++ [f])) : ∃ g cap a n c, v = .slice (some ⟨g, 0, none⟩) (l.length + 1) cap ∧ l.length + 1 ≤ cap ∧ cap ≤ 9223372036854775807 ∧
    w.cell? ⟨g, l.length, none⟩ = some (.slice a n c) ∧ Kids w lim (.slice a n c) f ∧ Stk w lim B (.slice (some ⟨g, 0, none⟩) l.length cap) l := by
  obtain ⟨xs, ⟨h0, h1⟩, h2⟩ := h
  have hL : (l ++ [f]).length = l.length + 1 := by simp
  rw [hL] at h0 h1
  rcases h1 with ⟨-, hn⟩ | ⟨g, cap, cur, rfl, hB, hg, h3, h4, h5, h6⟩
  · omega
  · obtain ⟨a, n, c, e, hK⟩ := h2 l.length f (by simp)
    have hcur : ∀ j, j < l.length + 1 → cur[j]? = xs[j]? := fun j hj => by
      rw [← h6, List.getElem?_take, if_pos (by omega)]; simp
    refine ⟨g, cap, a, n, c, rfl, h3, by unfold maxLen at h4; omega, ?_, hK, xs.take l.length, ⟨by simp; omega, .inr ⟨g, cap, cur, rfl, hB, hg, by omega, h4, h5, ?_⟩⟩, fun i f' hi => ?_⟩
    · rw [cell_of_row w g l.length _ _ _ hg, hcur _ (by omega)]; exact e
    · rw [← h6, List.take_take]; congr 1; omega
    · have hlt : i < l.length := by
        rcases Nat.lt_or_ge i l.length with h | h
        · exact h
        · rw [List.getElem?_eq_none h] at hi; cases hi
      obtain ⟨a', n', c', e', hK'⟩ := h2 i f' (by rw [List.getElem?_append_left hlt]; exact hi)
      exact ⟨a', n', c', by rw [List.getElem?_take, if_pos hlt]; exact e', hK'⟩
/-- One row more. -/
theorem stk_push {F : Fence} {n : Nat} {ops : Array Oper} {rest : List Oper} {o : Oper} {a : Act} {Q : Exit → Act → World → Prop} {W : World} {lim B : Nat} {v : Value} {l : List Fo} {f : Fo} {p : Option Addr} {m c : Nat} (hgd : o.guard = none) (s x : Operand)
    (ho : o.op = .call { callee := .builtin .append, args := #[s, x], argTypes := #[85, 85] }) (hs : a.eval s = v) (hS : Stk W lim B v l) (hx : a.eval x = .slice (some ⟨W.heap.size, 0, none⟩) 1 1) (hK : Kids W lim (.slice p m c) f)
    (hl : lim ≤ B) (hB : B ≤ W.heap.size) (hlen : l.length < 1099511627776)
    (h : ∀ v' w', Stk w' lim B v' (l ++ [f]) → Below B W w' → (∃ g n c, v' = .slice (some g) n c) → wpListIn F n Try.prog ops Q rest (a.put o.dst v') w') : wpListIn F n Try.prog ops Q (o :: rest) a (W.alloc (.cells #[.slice p m c] 22)) := by
  have hn := heap_alloc_new W (.cells #[.slice p m c] 22)
  have bb := (Below.refl W.heap.size W).alloc (Nat.le_refl _) (.cells #[.slice p m c] 22)
  have hsz := World.size_alloc W (.cells #[.slice p m c] 22)
  obtain ⟨xs, hown, h2⟩ := hS
  have hown2 := hown.alloc (.cells #[.slice p m c] 22)
  generalize W.alloc (.cells #[.slice p m c] 22) = u at *
  obtain ⟨i0, hi⟩ : ∃ i, Try.prog.info? 22 = some i := by
    cases h0 : Try.prog.info? 22 with
    | none => have := info_rows; rw [h0] at this; cases this
    | some i => exact ⟨i, rfl⟩
  have h1 := info_rows
  rw [hi] at h1
  simp only [Option.map_some, Option.some.injEq, Prod.mk.injEq] at h1
  obtain ⟨hz, hsz1, hby⟩ := h1
  refine wpListIn_append_own u hgd s x 85 ho B 22 i0 (.slice none 0 0) 1 24 Try.underlying85 hi hz hsz1 hby rfl (by decide) v l.length xs hs hown2 ⟨W.heap.size, 0, none⟩ 1 1 [.slice p m c] hx rfl ?_ ?_ (by unfold maxLen; omega) (by omega) (by omega) ?_
  · intro j y hj
    cases j with
    | zero =>
      cases hj
      rw [show (⟨W.heap.size, 0, none⟩ : Addr).add 0 = ⟨W.heap.size, 0, none⟩ from rfl, cell_of_row _ _ _ _ _ _ hn]; rfl
    | succ j => cases hj
  · intro y hy
    simp only [List.mem_singleton] at hy
    subst hy; rfl
  · intro v' w' g1 g2 g3
    have hb2 : Below B u w' := ⟨g2.os, g2.tape, g2.output, g2.size, fun k hk => g2.block k (by omega) (fun e => by have := (World.ownsRow.lt hown2 k e.symm).1; omega)⟩
    have hb3 : Below B W w' := (bb.mono hB).trans hb2
    refine h v' w' ⟨xs ++ [.slice p m c], by rw [List.length_append]; exact g1, fun i f' hi' => ?_⟩ hb3 ?_
    · rcases Nat.lt_trichotomy i l.length with hlt | rfl | hgt
      · rw [List.getElem?_append_left hlt] at hi'
        obtain ⟨a', n', c', e', hK'⟩ := h2 i f' hi'
        exact ⟨a', n', c', by rw [List.getElem?_append_left (by have := hown.1; omega)]; exact e', hK'.carry (hb3.mono hl)⟩
      · rw [List.getElem?_append_right (Nat.le_refl _), Nat.sub_self] at hi'
        cases hi'
        exact ⟨p, m, c, by rw [List.getElem?_append_right (by have := hown.1; omega), show l.length - xs.length = 0 by have := hown.1; omega]; rfl, hK.carry (hb3.mono hl)⟩
      · rw [List.getElem?_eq_none (by simp; omega)] at hi'; cases hi'
    · rcases g1.2 with ⟨_, hn0⟩ | ⟨g, cap, cur, e, _⟩
      · omega
      · exact ⟨_, _, _, e⟩
/-- The least of some numbers. -/
theorem least_ex (p : Nat → Prop) (h : ∃ k, p k) : ∃ k, p k ∧ ∀ j, p j → k ≤ j := by
  obtain ⟨k, hk⟩ := h
  induction k using Nat.strongRecOn with
  | _ k ih =>
    by_cases hj : ∃ j, j < k ∧ p j
    · obtain ⟨j, h1, h2⟩ := hj
      exact ih j h1 h2
    · exact ⟨k, hk, fun j hpj => Nat.le_of_not_lt fun hlt => hj ⟨j, hlt, hpj⟩⟩
noncomputable def leastN (p : Nat → Prop) : Nat := Classical.epsilon fun k => p k ∧ ∀ j, p j → k ≤ j
theorem leastN_is {p : Nat → Prop} (h : ∃ k, p k) : p (leastN p) ∧ ∀ j, p j → leastN p ≤ j := Classical.epsilon_spec (least_ex p h)
end Go.Proofs.Ytfjioflggkmhcaa
