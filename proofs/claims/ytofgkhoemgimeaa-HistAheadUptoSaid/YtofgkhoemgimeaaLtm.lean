/- load: times. -/
import Derived.Test.YtofgkhoemgimeaaGmp
import Derived.Test.YtofgkhoemgimeaaSortl
import Derived.Maps.RangeWalk
namespace Go.Proofs.Ytofgkhoemgimeaa
open Go.ChangeShapes Go.WideShapes Go.ChangeAt Go.RowKit
set_option linter.unusedVariables false
open Go.WideMaps Go.MapKept Go.WideElems Go.ChangeMaps
set_option linter.unusedSimpArgs false
/-- A map of ints, as values. -/
def iMap (l : List (Int × Int)) : List (Value × Value) := l.map fun p => (.int .i64 p.1, .int .i64 p.2)
theorem iMap_len (l : List (Int × Int)) : (iMap l).length = l.length := List.length_map ..
theorem iMap_get {l : List (Int × Int)} {j : Nat} {x : Value × Value} (h : (iMap l)[j]? = some x) : ∃ p : Int × Int, l[j]? = some p ∧ x = (.int .i64 p.1, .int .i64 p.2) := by
  unfold iMap at h
  rw [List.getElem?_map] at h
  obtain ⟨p, hp, rfl⟩ := Option.map_eq_some_iff.1 h
  exact ⟨p, hp, rfl⟩
/-- The maps of a row. -/
def MapsAt (w : World) (lim b : Nat) (ms : List (List (Int × Int))) : Prop := b < lim ∧ ∀ (i : Nat) m, ms[i]? = some m → ∃ G, w.cell? ⟨b, i, none⟩ = some (.map (some G)) ∧ G < lim ∧ w.heap[G]? = some (gMap (iMap m))
theorem MapsAt.below {w w' : World} {lim b : Nat} {ms : List (List (Int × Int))} (h : MapsAt w lim b ms) (hb : Below lim w w') : MapsAt w' lim b ms :=
  ⟨h.1, fun i m hm => by
    obtain ⟨G, h1, h2, h3⟩ := h.2 i m hm
    exact ⟨G, (hb.cell h.1).trans h1, h2, (hb.block G h2).trans h3⟩⟩
/-- The keys that have come. -/
def kcame (m : List (Int × Int)) (sn : List Nat) : List Int := sn.filterMap (fun j => m[j]?.map Prod.fst)
theorem kcame_snoc {m : List (Int × Int)} {sn : List Nat} {j : Nat} {p : Int × Int} (h : m[j]? = some p) : kcame m (sn ++ [j]) = kcame m sn ++ [p.1] := by
  unfold kcame; rw [List.filterMap_append]; simp [h]
theorem kcame_range (m : List (Int × Int)) : ∀ n, (List.range n).filterMap (fun j => m[j]?.map Prod.fst) = (m.map Prod.fst).take n
  | 0 => rfl
  | n + 1 => by
    rw [List.range_succ, List.filterMap_append, kcame_range m n, List.take_add_one]
    congr 1
    rw [List.getElem?_map]
    cases h : m[n]? <;> simp [h]
theorem kcame_all {m : List (Int × Int)} {sn : List Nat} (hd : sn.Nodup) (hl : ∀ j ∈ sn, j < m.length) (ha : ∀ j, j < m.length → j ∈ sn) : (kcame m sn).Perm (m.map Prod.fst) := by
  have hp : sn.Perm (List.range m.length) := by
    rw [List.perm_ext_iff_of_nodup hd List.nodup_range]
    intro a
    rw [List.mem_range]
    exact ⟨hl a, ha a⟩
  have h2 := hp.filterMap (fun j => m[j]?.map Prod.fst)
  have h3 : (List.range m.length).filterMap (fun j => m[j]?.map Prod.fst) = m.map Prod.fst := by
    rw [kcame_range, List.take_of_length_le (by simp)]
  rw [h3] at h2
  exact h2
theorem kcame_len {m : List (Int × Int)} {sn : List Nat} : (kcame m sn).length ≤ sn.length := List.length_filterMap_le ..
/-- The keys of all maps of a row. -/
def keysOf (ms : List (List (Int × Int))) : List Int := (ms.map (fun m => m.map Prod.fst)).flatten
theorem keysOf_take {ms : List (List (Int × Int))} {i : Nat} {m : List (Int × Int)} (h : ms[i]? = some m) : keysOf (ms.take (i + 1)) = keysOf (ms.take i) ++ m.map Prod.fst := by
  unfold keysOf
  rw [List.take_add_one, h]
  simp
theorem keysOf_le {ms : List (List (Int × Int))} {i : Nat} {m : List (Int × Int)} (h : ms[i]? = some m) : (keysOf (ms.take i)).length + m.length ≤ (keysOf ms).length := by
  have h1 := congrArg List.length (keysOf_take h)
  have h2 : keysOf ms = keysOf (ms.take (i + 1)) ++ keysOf (ms.drop (i + 1)) := by
    unfold keysOf
    rw [← List.flatten_append, ← List.map_append, List.take_append_drop]
  rw [h2, List.length_append, h1, List.length_append, List.length_map]
  omega
theorem perm_sorted {l m : List Int} (h : l.Perm m) : (l.mergeSort fun x y => decide (x ≤ y)) = (m.mergeSort fun x y => decide (x ≤ y)) := by
  have tr : ∀ a b c : Int, decide (a ≤ b) = true → decide (b ≤ c) = true → decide (a ≤ c) = true := fun a b c h1 h2 => by simp only [decide_eq_true_eq] at *; omega
  have to : ∀ a b : Int, (decide (a ≤ b) || decide (b ≤ a)) = true := fun a b => by simp only [Bool.or_eq_true, decide_eq_true_eq]; omega
  have hp : (l.mergeSort fun x y => decide (x ≤ y)).Perm (m.mergeSort fun x y => decide (x ≤ y)) := (List.mergeSort_perm l _).trans (h.trans (List.mergeSort_perm m _).symm)
  have s1 := List.pairwise_mergeSort tr to l
  have s2 := List.pairwise_mergeSort tr to m
  exact hp.eq_of_pairwise (fun a b _ _ h1 h2 => by simp only [decide_eq_true_eq] at h1 h2; omega) s1 s2
theorem owns_kept {w w' : World} {B : Nat} {E : TypeId} {k : IntKind} {v : Value} {ys : List Int} (h : Owns w B E k v ys) (hb : ∀ X, B ≤ X → X < w.heap.size → v.ownBlock = some X → w'.heap[X]? = w.heap[X]?) : Owns w' B E k v ys := by
  obtain ⟨h0, h1 | ⟨g, cap, cur, rfl, hB, hg, h3, h4, h5, h6⟩⟩ := h
  · exact ⟨h0, .inl h1⟩
  · exact ⟨h0, .inr ⟨g, cap, cur, rfl, hB, (hb g hB (g_lt hg) rfl).trans hg, h3, h4, h5, h6⟩⟩
theorem owns_cells {w : World} {B : Nat} {E : TypeId} {k : IntKind} {v : Value} {ys : List Int} (h : Owns w B E k v ys) {X : Nat} (hX : v.ownBlock = some X) : ∃ cur T fr, w.heap[X]? = some (.cells cur T fr) := by
  obtain ⟨h0, ⟨rfl, _⟩ | ⟨g, cap, cur, rfl, hB, hg, h3, h4, h5, h6⟩⟩ := h
  · cases hX
  · cases hX; exact ⟨_, _, _, hg⟩
theorem owns_own {w : World} {B : Nat} {E : TypeId} {k : IntKind} {v : Value} {ys : List Int} (h : Owns w B E k v ys) : ∀ X, v.ownBlock = some X → B ≤ X := by
  obtain ⟨h0, ⟨rfl, _⟩ | ⟨g, cap, cur, rfl, hB, hg, h3, h4, h5, h6⟩⟩ := h
  · intro X hX; cases hX
  · intro X hX; cases hX; exact hB
theorem info_int : (Try.prog.info? 3).map (fun i => (i.zero, i.size, i.bytes)) = some (some (.int .i64 0), 1, 8) := by kernel_rfl
/-- One number more, and what else is the same. -/
theorem append_onek {ops : Array Oper} {rest : List Oper} {o : Oper} {a : Act} {Q : Exit → Act → World → Prop} {W : World} {B : Nat} {v : Value} {ys : List Int} {y : Int}
    (hgd : o.guard = none) (s x : Operand)
    (ho : o.op = .call { callee := .builtin .append, args := #[s, x], argTypes := #[54, 54] }) (hs : a.eval s = v) (hown : Owns W B 3 .i64 v ys) (hx : a.eval x = .slice (some ⟨W.heap.size, 0, none⟩) 1 1) (hB : B ≤ W.heap.size) (hlen : ys.length < 17592186044415)
    (h : ∀ v' w', Owns w' B 3 .i64 v' (ys ++ [y]) → (W.alloc (.cells #[.int .i64 y] 3)).grownBy w' v.ownBlock → wpList Try.prog ops Q rest (a.put o.dst v') w') : wpList Try.prog ops Q (o :: rest) a (W.alloc (.cells #[.int .i64 y] 3)) := by
  obtain ⟨i0, hi, hz0, hz1, hz2⟩ := info_parts info_int
  refine wpList_append_own _ hgd s x 54 ho B 3 i0 (.int .i64 0) 1 8 Try.underlying54 hi hz0 hz1 hz2 rfl (by decide) v ys.length (ys.map (Value.int .i64)) hs (hown.alloc _) ⟨W.heap.size, 0, none⟩ 1 1 [.int .i64 y] hx rfl ?_ ?_ ?_ ?_ ?_ ?_
  · intro j u hj
    match j, hj with
    | 0, hj => simp at hj; subst hj; simp [Addr.add, go_sem]
  · intro u hu; simp at hu; subst hu; rfl
  · unfold maxLen; omega
  · omega
  · simp; omega
  · intro v' w' h1 h2 _
    exact h v' w' (owns_snoc h1) h2
end Go.Proofs.Ytofgkhoemgimeaa
