/- Maps of the call's own, whatever the keys are: entries with their numbers; none is ever struck out. -/
import Derived.Test.YtofgkhoemgimeaaD11
import Derived.WideKeyEntry
import Derived.DeepKeys4
import Derived.Maps.Keyed
import Derived.Maps.RangeRun
namespace Go.Proofs.Ytofgkhoemgimeaa
open Go.ChangeShapes Go.WideShapes Go.ChangeAt Go.RowKit
set_option linter.unusedVariables false
open Go.WideMaps Go.MapKept Go.WideElems Go.ChangeMaps Go.Maps
set_option linter.unusedSimpArgs false
/-- The entries of a map, one by one. -/
def gEnts : Nat → List (Value × Value) → List MapEntry
  | _, [] => []
  | j, p :: l => ⟨p.1, p.2, j⟩ :: gEnts (j + 1) l
/-- The map's block. -/
def gMap (l : List (Value × Value)) : Obj := .map (gEnts 0 l).toArray l.length
theorem gEnts_len : ∀ (j : Nat) (l : List (Value × Value)), (gEnts j l).length = l.length
  | _, [] => rfl
  | j, p :: l => by simp [gEnts, gEnts_len (j + 1) l]
theorem gEnts_get : ∀ (j : Nat) (l : List (Value × Value)) (i : Nat), (gEnts j l)[i]? = l[i]?.map (fun p => ⟨p.1, p.2, j + i⟩)
  | _, [], _ => by simp [gEnts]
  | j, p :: l, 0 => rfl
  | j, p :: l, i + 1 => by
    rw [gEnts, List.getElem?_cons_succ, List.getElem?_cons_succ, gEnts_get (j + 1) l i, show j + 1 + i = j + (i + 1) by omega]
theorem gEnts_snoc (p : Value × Value) : ∀ (j : Nat) (l : List (Value × Value)), gEnts j (l ++ [p]) = gEnts j l ++ [⟨p.1, p.2, j + l.length⟩]
  | j, [] => by simp [gEnts]
  | j, q :: l => by
    rw [List.cons_append, gEnts, gEnts_snoc p (j + 1) l, gEnts, List.length_cons, show j + 1 + l.length = j + (l.length + 1) by omega]
    rfl
theorem gEnts_set (v : Value) : ∀ (j : Nat) (l : List (Value × Value)) (i : Nat) (p : Value × Value), l[i]? = some p → (gEnts j l).modify i (fun e => { e with val := v }) = gEnts j (l.set i (p.1, v))
  | _, [], _, _, h => by simp at h
  | j, q :: l, 0, p, h => by
    simp at h; subst h
    rw [gEnts, List.modify_zero_cons, List.set_cons_zero, gEnts]
  | j, q :: l, i + 1, p, h => by
    rw [List.getElem?_cons_succ] at h
    rw [gEnts, List.modify_succ_cons, List.set_cons_succ, gEnts, gEnts_set v (j + 1) l i p h]
theorem gEnts_mem {l : List (Value × Value)} {x : MapEntry} (h : x ∈ gEnts 0 l) : ∃ j p, l[j]? = some p ∧ x = ⟨p.1, p.2, j⟩ := by
  obtain ⟨i, hi⟩ := List.mem_iff_getElem?.1 h
  rw [gEnts_get] at hi
  obtain ⟨p, hp, rfl⟩ := Option.map_eq_some_iff.1 hi
  exact ⟨i, p, hp, by rw [Nat.zero_add]⟩
theorem gEnts_nodup (l : List (Value × Value)) : ((gEnts 0 l).map (·.born)).Nodup := by
  have : (gEnts 0 l).map (·.born) = List.range l.length := by
    apply List.ext_getElem?
    intro i
    rw [List.getElem?_map, gEnts_get]
    by_cases hi : i < l.length
    · rw [List.getElem?_eq_getElem hi, List.getElem?_range hi]
      simp
    · rw [List.getElem?_eq_none (by omega), List.getElem?_eq_none (by simp; omega)]; rfl
  rw [this]; exact List.nodup_range
/-- Keys that may be, each just once. -/
structure GKeys (P : Program) (k : TypeId) (l : List (Value × Value)) : Prop where
  k : ∀ p ∈ l, ∃ kl, keyOf P k p.1 = some kl
  d : ∀ (i j : Nat) (x y : Value × Value), l[i]? = some x → l[j]? = some y → x.1 = y.1 → i = j
theorem GKeys.nil (P : Program) (k : TypeId) : GKeys P k [] := ⟨fun p h => (by cases h), fun i j x y h => (by simp at h)⟩
theorem GKeys.set {P : Program} {k : TypeId} {l : List (Value × Value)} (h : GKeys P k l) {i : Nat} {p : Value × Value} (hp : l[i]? = some p) (v : Value) : GKeys P k (l.set i (p.1, v)) := by
  have hget : ∀ (j : Nat) (x : Value × Value), (l.set i (p.1, v))[j]? = some x → ∃ y, l[j]? = some y ∧ y.1 = x.1 := fun j x hx => by
    by_cases hj : i = j
    · subst hj
      rw [List.getElem?_set_self (List.getElem?_eq_some_iff.1 hp).1] at hx
      cases hx
      exact ⟨p, hp, rfl⟩
    · rw [List.getElem?_set_ne hj] at hx
      exact ⟨x, hx, rfl⟩
  refine ⟨fun x hx => ?_, fun a b x y ha hb e => ?_⟩
  · obtain ⟨j, hj⟩ := List.mem_iff_getElem?.1 hx
    obtain ⟨y, hy, e⟩ := hget j x hj
    rw [← e]
    exact h.k y (List.mem_of_getElem? hy)
  · obtain ⟨x', hx', ex⟩ := hget a x ha
    obtain ⟨y', hy', ey⟩ := hget b y hb
    exact h.d a b x' y' hx' hy' (by rw [ex, ey, e])
theorem GKeys.snoc {P : Program} {k : TypeId} {l : List (Value × Value)} (h : GKeys P k l) {q : Value × Value} {kl : Lit} (hq : keyOf P k q.1 = some kl) (hn : ∀ p ∈ l, p.1 ≠ q.1) : GKeys P k (l ++ [q]) := by
  refine ⟨fun p hp => ?_, fun i j x y hi hj e => ?_⟩
  · rcases List.mem_append.1 hp with hp | hp
    · exact h.k p hp
    · rw [List.mem_singleton] at hp; subst hp; exact ⟨kl, hq⟩
  · have l1 := (List.getElem?_eq_some_iff.1 hi).1
    have l2 := (List.getElem?_eq_some_iff.1 hj).1
    rw [List.length_append, List.length_singleton] at l1 l2
    by_cases h1 : i < l.length
    · rw [List.getElem?_append_left h1] at hi
      by_cases h2 : j < l.length
      · rw [List.getElem?_append_left h2] at hj
        exact h.d i j x y hi hj e
      · rw [List.getElem?_append_right (by omega), show j - l.length = 0 by omega] at hj
        simp at hj; subst hj
        exact absurd e (hn x (List.mem_of_getElem? hi))
    · rw [List.getElem?_append_right (by omega), show i - l.length = 0 by omega] at hi
      simp at hi; subst hi
      by_cases h2 : j < l.length
      · rw [List.getElem?_append_left h2] at hj
        exact absurd e.symm (hn y (List.mem_of_getElem? hj))
      · omega
theorem g_self {w : World} {b : Nat} {o : Obj} (h : w.heap[b]? = some o) : setBlock w b o = w := by
  unfold setBlock
  have hb : b < w.heap.size := Nat.lt_of_not_le fun hn => by rw [Array.getElem?_eq_none hn] at h; cases h
  have : w.heap.setIfInBounds b o = w.heap := by
    apply Array.ext_getElem?
    intro i
    rw [Array.getElem?_setIfInBounds]
    by_cases hi : b = i
    · subst hi; rw [if_pos rfl, if_pos hb, h]
    · rw [if_neg hi]
  first | rw [this] | (cases w; simp_all)
theorem g_born : ∀ (l : List (Value × Value)) (j0 j : Nat), j < l.length → (gEnts j0 l).findIdx? (fun x => ((x.born : Nat) : Int) == ((j0 + j : Nat) : Int)) = some j
  | [], _, _, h => by simp at h
  | p :: l, j0, 0, _ => by simp [gEnts, List.findIdx?_cons]
  | p :: l, j0, j + 1, h => by
    have := g_born l (j0 + 1) j (by simpa using h)
    rw [gEnts, List.findIdx?_cons, if_neg (by simp; omega), show j0 + (j + 1) = j0 + 1 + j by omega, this]
    rfl
theorem g_arr {α : Type} (p : α → Bool) (l : List α) : l.toArray.findIdx? p = l.findIdx? p := by simp
section
variable {P : Program} {k e t : TypeId} {l : List (Value × Value)}
/-- A key that is there. -/
theorem g_there (K : Keyed P k) (ht : P.underlying t = some (.map k e)) (h : GKeys P k l) {j : Nat} {p : Value × Value} (hj : l[j]? = some p) (w : World) (b : Nat) (hb : w.heap[b]? = some (gMap l)) :
    (Instr.lookup t (.map (some b)) p.1 false).run P w = .ok p.2 w ∧ (Instr.lookup t (.map (some b)) p.1 true).run P w = .ok (.tuple #[p.2, .bool true]) w ∧
    (Instr.mapEntry t (.map (some b)) p.1).run P w = .ok (.tuple #[p.2, goInt j]) w ∧
    (∀ val, (Instr.entryStore t (.map (some b)) (goInt j) val).run P w = .ok () (setBlock w b (gMap (l.set j (p.1, val))))) ∧
    ∀ val, (Instr.mapUpdate t (.map (some b)) p.1 val).run P w = .ok () (setBlock w b (gMap (l.set j (p.1, val)))) := by
  have hk : ∀ x ∈ gEnts 0 l, ∃ l, keyOf P k x.key = some l := fun x hx => by
    obtain ⟨i, q, hq, rfl⟩ := gEnts_mem hx
    exact h.k q (List.mem_of_getElem? hq)
  obtain ⟨kl, hkey⟩ := h.k p (List.mem_of_getElem? hj)
  have hjl := (List.getElem?_eq_some_iff.1 hj).1
  have hb' : w.heap[b]? = some (.map (gEnts 0 l).toArray l.length) := hb
  rcases K.find w hkey (gEnts 0 l) hk with ⟨_, h2⟩ | ⟨i, x, h1, h2, h3⟩
  · have hx : (⟨p.1, p.2, 0 + j⟩ : MapEntry) ∈ gEnts 0 l := List.mem_of_getElem? (i := j) (by rw [gEnts_get, hj]; rfl)
    exact absurd rfl (h2 _ hx)
  · rw [gEnts_get] at h2
    obtain ⟨q, hq, rfl⟩ := Option.map_eq_some_iff.1 h2
    obtain rfl : i = j := h.d i j q p hq hj h3
    rw [hj] at hq
    cases hq
    simp only at h1 h3
    have hsame : (gEnts 0 l).modify i (fun e => { key := p.1, val := e.val, born := e.born }) = gEnts 0 l := by
      apply List.ext_getElem?
      intro a
      rw [List.getElem?_modify, gEnts_get]
      by_cases hai : i = a
      · subst hai; rw [hj]; simp
      · simp [hai]
    have e2 := g_self hb'
    simp only [setBlock] at e2
    have hm2 : ∀ val : Value, (gEnts 0 l).modify i (fun e => { key := p.1, val := val, born := e.born }) = gEnts 0 (l.set i (p.1, val)) := fun val => by
      rw [← gEnts_set val 0 l i p hj]
      apply List.ext_getElem?
      intro a
      rw [List.getElem?_modify, List.getElem?_modify, gEnts_get]
      by_cases hai : i = a
      · subst hai; rw [hj]; simp
      · simp [hai]
    have hjj : (gEnts 0 l)[i]? = some ⟨p.1, p.2, i⟩ := by rw [gEnts_get, hj, Nat.zero_add]; rfl
    have hl : ∀ val : Value, (l.set i (p.1, val)).length = l.length := fun val => List.length_set
    refine ⟨?_, ?_, ?_, fun val => ?_, fun val => ?_⟩
    · simp [Instr.lookup, run_underlying ht, MapKept.run_getObj_map hb', K.check w _ hkey, h1, Result.andThen]
    · simp [Instr.lookup, run_underlying ht, MapKept.run_getObj_map hb', K.check w _ hkey, h1, Result.andThen]
    · simp [Instr.mapEntry, run_underlying ht, MapKept.run_getObj_map hb', K.check w false hkey, h1, hjj, K.stays w hkey, hsame, MapKept.run_setObj_map _ hb', Result.andThen, e2]
    · have hf := g_born l 0 i hjl
      rw [Nat.zero_add] at hf
      have hm : (gEnts 0 l).toArray.modify i (fun x => { x with val := val }) = (gEnts 0 (l.set i (p.1, val))).toArray := by
        apply Array.ext'
        rw [Array.toList_modify]
        exact gEnts_set val 0 l i p hj
      simp [Instr.entryStore, MapKept.run_getObj_map hb', asInt, asIntOf, goInt, g_arr, hf, MapKept.run_setObj_map _ hb', Result.andThen, setBlock, gMap, hm, hl]
    · simp [Instr.mapUpdate, run_underlying ht, MapKept.run_getObj_map hb', K.check w false hkey, h1, hjj, K.stays w hkey, MapKept.run_setObj_map _ hb', Result.andThen, setBlock, gMap, hm2, hl]
/-- A key that is not there. -/
theorem g_gone (K : Keyed P k) (ht : P.underlying t = some (.map k e)) (h : GKeys P k l) {z : Value} (hz : ∀ u : World, (zeroValue e).run P u = .ok z u) {key : Value} {kl : Lit} (hkey : keyOf P k key = some kl) (hn : ∀ p ∈ l, p.1 ≠ key) (w : World) (b : Nat) (hb : w.heap[b]? = some (gMap l)) :
    (Instr.lookup t (.map (some b)) key false).run P w = .ok z w ∧ (Instr.lookup t (.map (some b)) key true).run P w = .ok (.tuple #[z, .bool false]) w ∧
    (Instr.mapEntry t (.map (some b)) key).run P w = .ok (.tuple #[z, goInt l.length]) (setBlock w b (gMap (l ++ [(key, z)]))) ∧
    ∀ val, (Instr.mapUpdate t (.map (some b)) key val).run P w = .ok () (setBlock w b (gMap (l ++ [(key, val)]))) := by
  have hk : ∀ x ∈ gEnts 0 l, ∃ l, keyOf P k x.key = some l := fun x hx => by
    obtain ⟨i, q, hq, rfl⟩ := gEnts_mem hx
    exact h.k q (List.mem_of_getElem? hq)
  have hb' : w.heap[b]? = some (.map (gEnts 0 l).toArray l.length) := hb
  have hp : ∀ val, (gEnts 0 l).toArray.push ⟨key, val, l.length⟩ = (gEnts 0 (l ++ [(key, val)])).toArray := fun val => by
    apply Array.ext'
    rw [Array.toList_push, gEnts_snoc, Nat.zero_add]
  rcases K.find w hkey (gEnts 0 l) hk with ⟨h1, h2⟩ | ⟨i, x, h1, h2, h3⟩
  · refine ⟨?_, ?_, ?_, fun val => ?_⟩
    · simp [Instr.lookup, run_underlying ht, MapKept.run_getObj_map hb', K.check w _ hkey, h1, hz, Result.andThen]
    · simp [Instr.lookup, run_underlying ht, MapKept.run_getObj_map hb', K.check w _ hkey, h1, hz, Result.andThen]
    · have := hp z
      simp only [Instr.mapEntry, Sem.run_bind, Sem.run_pure, run_underlying ht, MapKept.run_getObj_map hb', K.check w false hkey, h1, hz, MapKept.run_setObj_map _ hb', Result.andThen, this, gMap, List.length_append, List.length_singleton, setBlock]
    · have := hp val
      simp only [Instr.mapUpdate, Sem.run_bind, Sem.run_pure, run_underlying ht, MapKept.run_getObj_map hb', K.check w false hkey, h1, MapKept.run_setObj_map _ hb', Result.andThen, this, gMap, List.length_append, List.length_singleton, setBlock]
  · rw [gEnts_get] at h2
    obtain ⟨q, hq, rfl⟩ := Option.map_eq_some_iff.1 h2
    exact absurd h3 (hn q (List.mem_of_getElem? hq))
end
theorem gs_heap {w : World} {b : Nat} {o : Obj} {X : Nat} (h : X ≠ b) : (setBlock w b o).heap[X]? = w.heap[X]? := by
  unfold setBlock
  rw [Array.getElem?_setIfInBounds, if_neg (fun e => h e.symm)]
theorem gs_at {w : World} {b : Nat} {o : Obj} (h : b < w.heap.size) : (setBlock w b o).heap[b]? = some o := by
  unfold setBlock
  rw [Array.getElem?_setIfInBounds, if_pos rfl, if_pos h]
theorem gs_size {w : World} {b : Nat} {o : Obj} : (setBlock w b o).heap.size = w.heap.size := by
  unfold setBlock; simp
theorem gs_below {w : World} {b H : Nat} {o : Obj} (h : H ≤ b) : Below H w (setBlock w b o) := ⟨rfl, rfl, rfl, by rw [gs_size]; exact Nat.le_refl _, fun X hX => gs_heap (by omega)⟩
/-- The iterator of a range in block r: these have come. -/
structure GIt (w : World) (r G : Nat) (vs : List (Value × Value)) (sn : List Nat) : Prop where
  r : w.heap[r]? = some (.mapIter (some G) vs.length sn.toArray vs.length)
  g : w.heap[G]? = some (gMap vs)
  d : sn.Nodup
  l : ∀ j ∈ sn, j < vs.length
theorem g_lt {w : World} {b : Nat} {o : Obj} (h : w.heap[b]? = some o) : b < w.heap.size := Nat.lt_of_not_le fun hn => by rw [Array.getElem?_eq_none hn] at h; cases h
theorem GIt.next {P : Program} {w : World} {r G : Nat} {vs : List (Value × Value)} {sn : List Nat} (h : GIt w r G vs sn) (ty : TypeId) :
    ((∀ j, j < vs.length → j ∈ sn) ∧ (Instr.next (.pointer (some ⟨r, 0, none⟩)) false ty).run P w = .ok (.tuple #[.bool false]) w) ∨
    ∃ j p w', vs[j]? = some p ∧ j ∉ sn ∧ (Instr.next (.pointer (some ⟨r, 0, none⟩)) false ty).run P w = .ok (.tuple #[.bool true, p.1, p.2]) w' ∧ GIt w' r G vs (sn ++ [j]) ∧ (∀ k, k < w.heap.size → k ≠ r → w'.heap[k]? = w.heap[k]?) ∧ (∀ H, H ≤ r → H ≤ w.heap.size → Below H w w') ∧ w'.heap.size = w.heap.size ∧
      (Instr.entry (.pointer (some ⟨r, 0, none⟩))).run P w' = .ok (.tuple #[p.1, p.2]) w' := by
  have hold : ∀ x ∈ (gEnts 0 vs).toArray.toList, x.born < vs.length := fun x hx => by
    obtain ⟨j, p, hp, rfl⟩ := gEnts_mem (show x ∈ gEnts 0 vs from hx)
    exact (List.getElem?_eq_some_iff.1 hp).1
  have hne : r ≠ G := fun e => by have := h.r; rw [e, h.g] at this; cases this
  rcases run_next_at (P := P) w ty r G vs.length vs.length sn.toArray (gEnts 0 vs).toArray vs.length h.r h.g hold (Nat.le_refl _) with ⟨h0, hrun⟩ | ⟨e, he, w1, hal, hrun⟩
  · refine .inl ⟨fun j hj => ?_, hrun⟩
    obtain ⟨p, hp⟩ : ∃ p, vs[j]? = some p := ⟨vs[j], List.getElem?_eq_getElem hj⟩
    have hm : (⟨p.1, p.2, j⟩ : MapEntry) ∈ gEnts 0 vs := List.mem_of_getElem? (i := j) (by rw [gEnts_get, hp, Nat.zero_add]; rfl)
    by_cases hc : j ∈ sn
    · exact hc
    · have : (⟨p.1, p.2, j⟩ : MapEntry) ∈ leftOf (gEnts 0 vs).toArray sn.toArray := by
        unfold leftOf
        rw [Array.mem_filter]
        exact ⟨by simpa using hm, by simp [hc]⟩
      have h3 := Array.size_pos_of_mem this
      omega
  · have he2 : e ∈ leftOf (gEnts 0 vs).toArray sn.toArray := by simpa using he
    unfold leftOf at he2
    rw [Array.mem_filter] at he2
    obtain ⟨hm, hs⟩ := he2
    obtain ⟨j, p, hp, rfl⟩ := gEnts_mem (show e ∈ gEnts 0 vs by simpa using hm)
    have hj : j ∉ sn := by simpa using hs
    have hw1 : w1.heap = w.heap := by rcases hal with rfl | rfl <;> rfl
    have lr : r < w1.heap.size := by rw [hw1]; exact g_lt h.r
    have hmi : GIt (setBlock w1 r (.mapIter (some G) vs.length (sn.toArray.push j) vs.length)) r G vs (sn ++ [j]) := by
      refine ⟨?_, ?_, ?_, ?_⟩
      · rw [gs_at lr]; simp
      · rw [gs_heap (fun e => hne e.symm), hw1]; exact h.g
      · rw [List.nodup_append]
        exact ⟨h.d, by simp, fun a ha b hb e => by simp at hb; subst hb; subst e; exact hj ha⟩
      · intro i hi
        rcases List.mem_append.1 hi with hi | hi
        · exact h.l i hi
        · simp at hi; subst hi; exact (List.getElem?_eq_some_iff.1 hp).1
    have hB1 : Below w.heap.size w w1 := by rcases hal with rfl | rfl; exact Below.refl _ _; exact (Below.refl _ _).drew
    refine .inr ⟨j, p, _, hp, hj, hrun, hmi, fun k hk hkr => by rw [gs_heap hkr, hw1], fun H h1 h2 => (hB1.mono h2).trans (gs_below h1), by rw [gs_size, hw1], ?_⟩
    have := run_entry_at (P := P) (setBlock w1 r (.mapIter (some G) vs.length (sn.toArray.push j) vs.length)) r G vs.length sn.toArray (gEnts 0 vs).toArray vs.length ⟨p.1, p.2, j⟩ (by rw [gs_at lr]) hmi.g (by simpa using hm) (by simpa using gEnts_nodup vs)
    exact this
theorem GIt.but {w w' : World} {r G : Nat} {vs : List (Value × Value)} {sn : List Nat} (h : GIt w r G vs sn) (hr : w'.heap[r]? = w.heap[r]?) (hG : w'.heap[G]? = w.heap[G]?) : GIt w' r G vs sn := ⟨hr.trans h.r, hG.trans h.g, h.d, h.l⟩
theorem GIt.start {w : World} {G : Nat} {vs : List (Value × Value)} (hg : w.heap[G]? = some (gMap vs)) : GIt (w.alloc (.mapIter (some G) vs.length #[] vs.length)) w.heap.size G vs [] :=
  ⟨heap_alloc_new _ _, (((Below.refl w.heap.size w).alloc (Nat.le_refl _) _).block _ (g_lt hg)).trans hg, List.nodup_nil, fun j hj => by cases hj⟩
/-- Those that have come. -/
def gcame (vs : List (Value × Value)) (sn : List Nat) : List (Value × Value) := sn.filterMap (fun j => vs[j]?)
theorem gcame_snoc {vs : List (Value × Value)} {sn : List Nat} {j : Nat} {p : Value × Value} (h : vs[j]? = some p) : gcame vs (sn ++ [j]) = gcame vs sn ++ [p] := by
  unfold gcame; rw [List.filterMap_append]; simp [h]
theorem gcame_range (vs : List (Value × Value)) : ∀ n, (List.range n).filterMap (fun j => vs[j]?) = vs.take n
  | 0 => rfl
  | n + 1 => by
    rw [List.range_succ, List.filterMap_append, gcame_range vs n, List.take_add_one]
    congr 1
theorem gcame_all {vs : List (Value × Value)} {sn : List Nat} (hd : sn.Nodup) (hl : ∀ j ∈ sn, j < vs.length) (ha : ∀ j, j < vs.length → j ∈ sn) : (gcame vs sn).Perm vs := by
  have hp : sn.Perm (List.range vs.length) := by
    rw [List.perm_ext_iff_of_nodup hd List.nodup_range]
    intro a
    rw [List.mem_range]
    exact ⟨hl a, ha a⟩
  have h2 := hp.filterMap (fun j => vs[j]?)
  have h3 : (List.range vs.length).filterMap (fun j => vs[j]?) = vs := by rw [gcame_range, List.take_length]
  rw [h3] at h2
  exact h2
theorem gsn_len {vs : List (Value × Value)} {sn : List Nat} (hd : sn.Nodup) (hl : ∀ j ∈ sn, j < vs.length) : sn.length ≤ vs.length := by
  have h2 : sn.length ≤ (List.range vs.length).length := List.Nodup.length_le_of_subset hd (fun j hj => List.mem_range.2 (hl j hj))
  simpa using h2
/-- How many have come, read off the iterator. -/
def gcnt (w : World) (r : Nat) : Nat := match w.heap[r]? with
  | some (.mapIter _ _ seen _) => seen.size
  | _ => 0
theorem GIt.cnt {w : World} {r G : Nat} {vs : List (Value × Value)} {sn : List Nat} (h : GIt w r G vs sn) : gcnt w r = sn.length := by
  unfold gcnt; rw [h.r]; simp
end Go.Proofs.Ytofgkhoemgimeaa
