/- Put together by program (merge.py): Wrong Rowset Samei Ownm. -/
import Derived.Deep.AppendSrc
import Derived.Test.YtofgkhoemgimeaaD2
import Derived.Test.YtofgkhoemgimeaaD3
import Derived.Test.YtofgkhoemgimeaaD5
import Derived.Test.YtofgkhoemgimeaaD9
/- Package valid: Wrong, Check, For. -/
namespace Go.Proofs.Ytofgkhoemgimeaa
open Go.ChangeShapes Go.WideShapes Go.ChangeAt Go.RowKit
set_option linter.unusedVariables false
/-- The path of the first node of a row that is not right; the row's first node has number i. -/
def wrongF : Fo → Nat → Option (List Int)
  | .nil, _ => none
  | .cons k n ks r, i => if (Nd.mk k n ks).ok = false then some [(i : Int)] else match wrongF ks 0 with
    | some p => some ((i : Int) :: p)
    | none => wrongF r (i + 1)
/-- The same of one node. -/
def wrongN (k n : Int) (ks : Fo) : Option (List Int) := if (Nd.mk k n ks).ok = false then some [] else wrongF ks 0
theorem wrongF_cons (k n : Int) (ks r : Fo) (i : Nat) : wrongF (.cons k n ks r) i = match wrongN k n ks with
    | some p => some ((i : Int) :: p)
    | none => wrongF r (i + 1) := by
  rw [wrongF, wrongN]
  by_cases h : (Nd.mk k n ks).ok = false
  · rw [if_pos h, if_pos h]
  · rw [if_neg h, if_neg h]
theorem wrongF_some {f : Fo} {i : Nat} {p : List Int} (h : i < f.len) (hp : wrongN (f.k i) (f.n i) (f.kids i) = some p) : wrongF (f.drop i) i = some ((i : Int) :: p) := by
  rw [Fo.drop_at f i h, wrongF_cons, hp]
theorem wrongF_none {f : Fo} {i : Nat} (h : i < f.len) (hp : wrongN (f.k i) (f.n i) (f.kids i) = none) : wrongF (f.drop i) i = wrongF (f.drop (i + 1)) (i + 1) := by
  rw [Fo.drop_at f i h, wrongF_cons, hp]
theorem wrongF_end (f : Fo) (i : Nat) : wrongF (f.drop f.len) i = none := by rw [Fo.drop_len, wrongF]
theorem wrongN_bad {k n : Int} {ks : Fo} (h : (Nd.mk k n ks).ok = false) : wrongN k n ks = some [] := if_pos h
theorem wrongN_go {k n : Int} {ks : Fo} (h : (Nd.mk k n ks).ok = true) : wrongN k n ks = wrongF ks 0 := if_neg (by simp [h])
theorem wrongF_len : ∀ (f : Fo) (i : Nat) (p : List Int), wrongF f i = some p → p.length ≤ f.cnt
  | .nil, i, p, h => by simp [wrongF] at h
  | .cons k n ks r, i, p, h => by
    rw [wrongF] at h
    simp only [Fo.cnt]
    by_cases h1 : (Nd.mk k n ks).ok = false
    · rw [if_pos h1] at h; cases h; simp
    · rw [if_neg h1] at h
      cases h2 : wrongF ks 0 with
      | some q => rw [h2] at h; cases h; have := wrongF_len ks 0 q h2; simp; omega
      | none => rw [h2] at h; have := wrongF_len r (i + 1) p h; omega
/-- There is one just where not all are right. -/
theorem wrongF_all : ∀ (f : Fo) (i : Nat), (wrongF f i).isNone = f.pre.all Nd.ok
  | .nil, i => rfl
  | .cons k n ks r, i => by
    rw [wrongF, Fo.pre, List.all_cons, List.all_append, ← wrongF_all ks 0, ← wrongF_all r (i + 1)]
    by_cases h1 : (Nd.mk k n ks).ok = false
    · rw [if_pos h1, h1]; rfl
    · rw [if_neg h1]
      simp only [Bool.not_eq_false] at h1
      rw [h1]
      cases h2 : wrongF ks 0 <;> simp
theorem wrongN_all (k n : Int) (ks : Fo) : (wrongN k n ks).isNone = (Nd.mk k n ks :: ks.pre).all Nd.ok := by
  rw [List.all_cons, ← wrongF_all ks 0, wrongN]
  by_cases h1 : (Nd.mk k n ks).ok = false
  · rw [if_pos h1, h1]; rfl
  · rw [if_neg h1]
    simp only [Bool.not_eq_false] at h1
    rw [h1]; simp
theorem Owns.front {w : World} {B : Nat} {E : TypeId} {k : IntKind} {a : Option Addr} {m c : Nat} {ys zs : List Int} (h : Owns w B E k (.slice a m c) (ys ++ zs)) : Owns w B E k (.slice a ys.length c) ys := by
  obtain ⟨hl, h | ⟨g, cap, cur, e, hb, hh, hn, hm, hs, ht⟩⟩ := h
  · obtain ⟨e, hn⟩ := h
    simp only [Value.slice.injEq] at e
    obtain ⟨rfl, rfl, rfl⟩ := e
    rw [List.length_append] at hn
    have h0 : ys = [] := List.length_eq_zero_iff.1 (by omega)
    subst h0
    exact ⟨by simp, .inl ⟨rfl, rfl⟩⟩
  · simp only [Value.slice.injEq] at e
    obtain ⟨rfl, _, rfl⟩ := e
    rw [List.length_append] at hn
    refine ⟨by simp, .inr ⟨g, c, cur, rfl, hb, hh, by omega, hm, hs, ?_⟩⟩
    have := congrArg (List.take (ys.length * 1)) ht
    rw [List.take_take, List.map_append] at this
    rw [show min (ys.length * 1) ((ys ++ zs).length * 1) = ys.length * 1 by rw [List.length_append]; omega] at this
    rw [this]
    simp
theorem Owns.setCell {w : World} {B Q : Nat} {E : TypeId} {k : IntKind} {v : Value} {ys : List Int} (h : Owns w B E k v ys) (hQ : Q < B) (u : Value) : Owns (w.setCell ⟨Q, 0, none⟩ u) B E k v ys := ownsRow_setCell_below h hQ u
theorem Owns.kind {w : World} {B : Nat} {E : TypeId} {k : IntKind} {v : Value} {ys : List Int} (h : Owns w B E k v ys) : (v = .slice none 0 0 ∧ ys = []) ∨ ∃ g c, v = .slice (some ⟨g, 0, none⟩) ys.length c ∧ ys.length ≤ c ∧ c ≤ maxLen := by
  obtain ⟨hl, h | ⟨g, cap, cur, rfl, hb, hh, hn, hm, hs, ht⟩⟩ := h
  · exact .inl ⟨h.1, List.length_eq_zero_iff.1 h.2⟩
  · exact .inr ⟨g, cap, rfl, hn, hm⟩
/-- One number more, and just which blocks may have turned. -/
theorem append_one_g {ops : Array Oper} {rest : List Oper} {o : Oper} {a : Act} {Q : Exit → Act → World → Prop} {W : World} {T E : TypeId} {k : IntKind} {B : Nat} {v : Value} {ys : List Int} {y : Int}
    (hT : Try.prog.underlying T = some (.slice E)) (hI : (Try.prog.info? E).map (fun i => (i.zero, i.size, i.bytes)) = some (some (.int k 0), 1, 8)) (hgd : o.guard = none) (s x : Operand)
    (ho : o.op = .call { callee := .builtin .append, args := #[s, x], argTypes := #[T, T] }) (hs : a.eval s = v) (hown : Owns W B E k v ys) (hx : a.eval x = .slice (some ⟨W.heap.size, 0, none⟩) 1 1) (hB : B ≤ W.heap.size) (hlen : ys.length < 17592186044415)
    (h : ∀ v' w', Owns w' B E k v' (ys ++ [y]) → Below B W w' → (∀ X, X < W.heap.size → v.ownBlock ≠ some X → w'.heap[X]? = W.heap[X]?) → wpList Try.prog ops Q rest (a.put o.dst v') w') : wpList Try.prog ops Q (o :: rest) a (W.alloc (.cells #[.int k y] E)) := by
  obtain ⟨i0, hi, hz0, hz1, hz2⟩ := info_parts hI
  refine wpList_append_own _ hgd s x T ho B E i0 (.int k 0) 1 8 hT hi hz0 hz1 hz2 rfl (by decide) v ys.length (ys.map (Value.int k)) hs (hown.alloc _) ⟨W.heap.size, 0, none⟩ 1 1 [.int k y] hx rfl ?_ ?_ ?_ ?_ ?_ ?_
  · intro j u hj
    match j, hj with
    | 0, hj => simp at hj; subst hj; simp [Addr.add, go_sem]
  · intro u hu; simp at hu; subst hu; rfl
  · unfold maxLen; omega
  · omega
  · simp; omega
  · intro v' w' h1 h2 _
    exact h v' w' (owns_snoc h1) (below_grow (Below.refl _ _) hown hB _ h2) (fun X hX hne => (h2.block X (by simp; omega) (fun e => hne e.symm)).trans (Below.heap_alloc _ _ _ hX))
/-- What a call of valid.wrong leaves: whether there is one, and the path. -/
def WrongOk (W : World) (Q B : Nat) (ys : List Int) (o : Option (List Int)) (e : Ending) (w' : World) : Prop :=
  ∃ s', e = .returned (.bool o.isSome) ∧ Bx w' Q 54 s' ∧ Owns w' B 3 .i64 s' (ys ++ o.getD []) ∧ Below Q W w'
end Go.Proofs.Ytofgkhoemgimeaa
/- Rows of ints: as they are read, and written in place. -/
namespace Go.Proofs.Ytofgkhoemgimeaa
open Go.ChangeShapes Go.WideShapes Go.ChangeAt Go.RowKit
set_option linter.unusedVariables false
/-- What a slice of ints is: what it reads as, that each is in order, how many. -/
structure RowI (w : World) (a : Option Addr) (n : Nat) (xs : List Int) : Prop where
  len : xs.length = n
  reads : Reads .i64 w a xs
  wf : ∀ x ∈ xs, (Lit.int .i64 x).wf = true
  small : n ≤ 17592186044415
theorem readsI_below {k : IntKind} {w w' : World} {a : Option Addr} {xs : List Int} (h : Reads k w a xs) (hb : Below w.heap.size w w') : Reads k w' a xs := by
  rcases h with h | ⟨b, off, rfl, hlt, hc⟩
  · exact .inl h
  · exact .inr ⟨b, off, rfl, by have := hb.size; omega, fun i hi => by rw [hb.cell (p := ⟨b, off + i, none⟩) hlt]; exact hc i hi⟩
theorem RowI.below {w w' : World} {a : Option Addr} {n : Nat} {xs : List Int} (h : RowI w a n xs) (hb : Below w.heap.size w w') : RowI w' a n xs := ⟨h.len, readsI_below h.reads hb, h.wf, h.small⟩
theorem RowI.alloc {w : World} {a : Option Addr} {n : Nat} {xs : List Int} (h : RowI w a n xs) (o : Obj) : RowI (w.alloc o) a n xs := h.below ((Below.refl _ _).alloc (Nat.le_refl _) o)
theorem RowI.bd {w : World} {a : Option Addr} {n : Nat} {xs : List Int} (h : RowI w a n xs) {k : Nat} (hk : k < n) : -9223372036854775808 ≤ xs.getD k 0 ∧ xs.getD k 0 ≤ 9223372036854775807 := by
  have hl := h.len
  have e : xs.getD k 0 = xs[k]'(by omega) := by simp [List.getD, show k < xs.length by omega]
  rw [e]; exact bounds_i64 (h.wf _ (List.getElem_mem _))
theorem RowI.cell {w : World} {a : Option Addr} {n : Nat} {xs : List Int} (h : RowI w a n xs) {k : Nat} (hk : k < n) : ∃ b off, a = some ⟨b, off, none⟩ ∧ b < w.heap.size ∧ w.cell? ⟨b, off + k, none⟩ = some (.int .i64 (xs.getD k 0)) ∧ -9223372036854775808 ≤ xs.getD k 0 ∧ xs.getD k 0 ≤ 9223372036854775807 := by
  rcases h.reads with hn | ⟨b, off, e, hb, hc⟩
  · have := h.len; rw [hn] at this; simp at this; omega
  · exact ⟨b, off, e, hb, hc k (by rw [h.len]; exact hk), h.bd hk⟩
theorem RowI.of_isRow {w : World} {a : Option Addr} {n c : Nat} (h : IsRow .i64 w a n c) (hs : n ≤ 17592186044415) : ∃ xs, RowI w a n xs := by
  obtain ⟨xs, hn, _, _, hr, hw⟩ := h
  exact ⟨xs, hn, hr, hw, hs⟩
theorem RowI.of_at {w : World} {B : Nat} {ys : List Int} {T : TypeId} (h : RowAtI w B T ys) (hw : ∀ x ∈ ys, (Lit.int .i64 x).wf = true) {n : Nat} (hn : ys.length = n) (hs : n ≤ 17592186044415) : RowI w (some ⟨B, 0, none⟩) n ys := ⟨hn, h.reads, hw, hs⟩
/-- The answer is a slice of n ints that reads as ys; nothing that was there has turned. -/
def GivesI (w : World) (n : Nat) (ys : List Int) (e : Ending) (w' : World) : Prop := ∃ a c, e = .returned (.slice a n c) ∧ RowI w' a n ys ∧ Below w.heap.size w w'
def GivesIOk (w : World) (n : Nat) (ys : List Int) (e : Ending) (w' : World) : Prop := ∃ a c, e = .returned (.tuple #[.slice a n c, .int .i64 0]) ∧ RowI w' a n ys ∧ Below w.heap.size w w'
theorem givesI_own {w w' : World} {n B : Nat} {T : TypeId} {ys : List Int} {e : Ending} {v : Value} (he : e = .returned v) (h : Owns w' B T .i64 v ys) (hb : Below w.heap.size w w') (hw : ∀ x ∈ ys, (Lit.int .i64 x).wf = true) (hn : ys.length = n) (hs : n ≤ 17592186044415) : GivesI w n ys e w' := by
  obtain ⟨a, c, hv, hr, _, _⟩ := h.shape
  exact ⟨a, c, by rw [he, hv, hn], ⟨hn, hr, hw, hs⟩, hb⟩

/-- One place written. -/
theorem RowAtI.set {w : World} {B : Nat} {T : TypeId} {ys : List Int} (h : RowAtI w B T ys) (k : Nat) (y : Int) : RowAtI (w.setCell ⟨B, k, none⟩ (.int .i64 y)) B T (ys.set k y) := by
  unfold RowAtI
  rw [heap_setCell_same w B k _ T _ h]
  congr 2
  rw [List.setIfInBounds_toArray]
  congr 1
  rw [List.map_set]
theorem RowAtI.other {w : World} {B : Nat} {T : TypeId} {ys : List Int} (h : RowAtI w B T ys) {p : Addr} (hp : p.block ≠ B) (v : Value) : RowAtI (w.setCell p v) B T ys := by
  unfold RowAtI at *
  rw [← h]
  exact heap_setCell_other w p B v (fun e => hp e.symm)
theorem RowAtI.cell {w : World} {B : Nat} {T : TypeId} {ys : List Int} (h : RowAtI w B T ys) {k : Nat} (hk : k < ys.length) : w.cell? ⟨B, k, none⟩ = some (.int .i64 (ys.getD k 0)) := by
  rw [cell_of_row w B k _ _ _ h]
  simp [List.getD, hk]
theorem RowAtI.free {w : World} {B : Nat} {T : TypeId} {ys : List Int} (h : RowAtI w B T ys) (j : Nat) : w.frozen? ⟨B, j, none⟩ = false := frozen_of_row w B j _ _ h
theorem RowAtI.made (w : World) (T : TypeId) (n : Nat) : RowAtI (w.alloc (.cells (Array.replicate n (.int .i64 0)) T)) w.heap.size T (List.replicate n 0) := by
  unfold RowAtI; rw [heap_alloc_new]; simp
theorem RowAtI.drewN {w : World} {B : Nat} {T : TypeId} {ys : List Int} (h : RowAtI w B T ys) (q : Nat) : RowAtI (w.drewN q) B T ys := h
theorem RowAtI.drew {w : World} {B : Nat} {T : TypeId} {ys : List Int} (h : RowAtI w B T ys) : RowAtI w.drew B T ys := h
/-- A function's values, one by one. -/
def tab (n : Nat) (f : Nat → Int) : List Int := (List.range n).map f
theorem tab_len (n : Nat) (f : Nat → Int) : (tab n f).length = n := by unfold tab; simp
theorem tab_at (n : Nat) (f : Nat → Int) (k : Nat) (h : k < n) : (tab n f).getD k 0 = f k := by unfold tab; simp [List.getD, h]
theorem tab_set (n : Nat) (f g : Nat → Int) (k : Nat) (y : Int) (h : ∀ j, j < n → g j = if j = k then y else f j) : (tab n f).set k y = tab n g := by
  unfold tab
  apply List.ext_getElem
  · simp
  · intro i h1 h2
    have hi : i < n := by simpa using h2
    rw [List.getElem_set]
    simp only [List.getElem_map, List.getElem_range, h i hi]
    by_cases e : k = i
    · subst e; simp
    · rw [if_neg e, if_neg (fun x => e x.symm)]
theorem tab_congr (n : Nat) (f g : Nat → Int) (h : ∀ j, j < n → g j = f j) : tab n f = tab n g := by
  unfold tab
  apply List.map_congr_left
  intro i hi
  exact (h i (by simpa using hi)).symm
theorem tab_rep (n : Nat) (v : Int) : List.replicate n v = tab n (fun _ => v) := by
  unfold tab
  apply List.ext_getElem
  · simp
  · intro i h1 h2; simp
end Go.Proofs.Ytofgkhoemgimeaa
/- The reference's Same of ints: are two rows one? -/
namespace Go.Proofs.Ytofgkhoemgimeaa
open Go.ChangeShapes Go.WideShapes Go.ChangeAt Go.RowKit
set_option linter.unusedVariables false
theorem r3_samei (p q : Option Addr) (c d : Nat) (xs ys : List Int) (w : World) (hr : Reads .i64 w p xs) (hr2 : Reads .i64 w q ys) (hl : xs.length ≤ 9223372036854775807) :
    Calls Try.prog 42 #[.slice p xs.length c, .slice q ys.length d] w fun e w' => e = .returned (.bool (decide (xs = ys))) ∧ Below w.heap.size w w' := by
  by_cases hne : xs.length = ys.length
  · obtain ⟨n, hn⟩ : ∃ n, xs.length = n := ⟨_, rfl⟩
    have hny : ys.length = n := by rw [← hne, hn]
    rw [hn] at hl ⊢
    rw [hny]
    have HN := Lib.hid hn
    have HNY := Lib.hid hny
    have HR := Lib.hid hr
    have HR2 := Lib.hid hr2
    have hq : ((n : Int) != (n : Int)) = false := by simp
    clear hn hny hr hr2 hne
    go_enter Try.func42, Try.ntmps42
    go_wp2_with fail
    go_loopw [5] (fun i wr => ∃ k : Nat, k ≤ n ∧ i = .int .i64 k ∧ Hid (xs.take k = ys.take k) ∧ Below w.heap.size w wr) (fun i _ => n - (intOf i).toNat)
    case atStart => exact ⟨0, Nat.zero_le _, rfl, Lib.hid rfl, Below.refl _ _⟩
    case round =>
      obtain ⟨k, hk, rfl, HT, hB⟩ := hrel
      by_cases hlt : k < n
      · rcases HR.out with hnil | ⟨b, off, rfl, hb, hcell⟩
        · have := HN.out; rw [hnil] at this; simp at this; omega
        rcases HR2.out with hnil | ⟨b', off', rfl, hb', hcell'⟩
        · have := HNY.out; rw [hnil] at this; simp at this; omega
        have hc0 := hcell k (by rw [HN.out]; exact hlt)
        have hc0' := hcell' k (by rw [HNY.out]; exact hlt)
        have HS := Lib.hid (fun e => take_eq_step HT.out (by rw [HN.out]; exact hlt) (by rw [HNY.out]; exact hlt) e)
        have HD := Lib.hid (ne_of_at (xs := xs) (ys := ys) (k := k))
        clear hcell hcell'
        generalize xs.getD k 0 = x at *
        generalize ys.getD k 0 = y at *
        have hc : wr.cell? ⟨b, off + k, none⟩ = some (.int .i64 x) := (hB.cell (p := ⟨b, off + k, none⟩) hb).trans hc0
        have hc' : wr.cell? ⟨b', off' + k, none⟩ = some (.int .i64 y) := (hB.cell (p := ⟨b', off' + k, none⟩) hb').trans hc0'
        clear hc0 hc0'
        by_cases hxy : x = y
        · have HG := Lib.hid (HS.out hxy)
          have hq2 : (x != y) = false := by simpa using hxy
          clear hxy
          go_wp2_with fail
          go_quiet (fail)
          go_wp2_with fail
          go_roundw
          case rel => exact ⟨k + 1, by omega, by go_num, HG, below_drewN hB _⟩
          case measure => (first | (simp [intOf]; done) | (simp [intOf]; omega) | (simp only [intOf]; omega))
        · have HG := Lib.hid (HD.out hxy)
          have hq2 : (x != y) = true := by simpa using hxy
          clear hxy
          go_wp2_with fail
          go_quiet (fail)
          go_wp2_with fail
          go_ret
          exact ⟨ret_bool (by simp [HG.out]), below_drewN hB _⟩
      · obtain rfl : k = n := by omega
        have hfin : xs = ys := by
          have := HT.out
          rwa [List.take_of_length_le (by rw [HN.out]; exact Nat.le_refl _), List.take_of_length_le (by rw [HNY.out]; exact Nat.le_refl _)] at this
        have HG := Lib.hid hfin
        clear hfin
        go_wp2_with fail
        go_ret
        exact ⟨ret_bool (by simp [HG.out]), hB⟩
  · have hq : ((xs.length : Int) != (ys.length : Int)) = true := by simp; omega
    have HG := Lib.hid (show xs ≠ ys from fun e => hne (by rw [e]))
    clear hne
    go_enter Try.func42, Try.ntmps42
    go_wp2_with fail
    go_ret
    exact ⟨ret_bool (by simp [HG.out]), Below.refl _ _⟩

/-- Two rows of ints. -/
theorem c_samei {w : World} {p q : Option Addr} {n c d : Nat} {xs : List Int} (h : RowI w p n xs) (k : RowI w q n xs) : Calls Try.prog 42 #[.slice p n c, .slice q n d] w fun e w' => e = .returned (.bool true) ∧ Below w.heap.size w w' := by
  obtain ⟨rfl, hr, hw, hs⟩ := h
  obtain ⟨_, kr, kw, _⟩ := k
  have := r3_samei p q c d xs xs w hr kr (by omega)
  rwa [decide_eq_true rfl] at this
end Go.Proofs.Ytofgkhoemgimeaa
/- 'append(l, m...)' onto a row of the call's own. -/
namespace Go.Proofs.Ytofgkhoemgimeaa
open Go.ChangeShapes Go.WideShapes Go.ChangeAt Go.RowKit
set_option linter.unusedVariables false
theorem append_many {ops : Array Oper} {rest : List Oper} {o : Oper} {a : Act} {Q : Exit → Act → World → Prop} {W : World} {T E : TypeId} {k : IntKind} {B : Nat} {v : Value} {ys zs : List Int} {p : Option Addr} {m c : Nat}
    (hT : Try.prog.underlying T = some (.slice E)) (hI : (Try.prog.info? E).map (fun i => (i.zero, i.size, i.bytes)) = some (some (.int k 0), 1, 8)) (hgd : o.guard = none) (s x : Operand)
    (ho : o.op = .call { callee := .builtin .append, args := #[s, x], argTypes := #[T, T] }) (hs : a.eval s = v) (hown : Owns W B E k v ys) (hx : a.eval x = .slice p m c) (hm : zs.length = m) (hr : Reads k W p zs) (hB : B ≤ W.heap.size) (hlen : ys.length + m ≤ 17592186044415) (hne : 0 < m)
    (h : ∀ v' w', Owns w' B E k v' (ys ++ zs) → Below B W w' → wpList Try.prog ops Q rest (a.put o.dst v') w') : wpList Try.prog ops Q (o :: rest) a W := by
  obtain ⟨i0, hi, hz0, hz1, hz2⟩ := info_parts hI
  rcases hr with hnil | ⟨b, off, rfl, hb, hcell⟩
  · rw [hnil] at hm; simp at hm; omega
  refine wpList_append_lies _ hgd s x T ho B E i0 (.int k 0) 1 8 hT hi hz0 hz1 hz2 rfl (by decide) v ys.length (ys.map (Value.int k)) hs hown ⟨b, off, none⟩ m c (zs.map (Value.int k)) hx (by simpa using hm) ?_ ?_ hne ?_ ?_ hB _ rfl ?_
  · intro j u hj
    have hj' : j < zs.length := by
      by_cases hlt : j < zs.length
      · exact hlt
      · have : (zs.map (Value.int k))[j]? = none := by simp; omega
        rw [this] at hj; cases hj
    have e : (zs.map (Value.int k))[j]? = some (.int k (zs.getD j 0)) := by simp [List.getD, hj']
    rw [e] at hj
    cases hj
    have hadd : (⟨b, off, none⟩ : Addr).add j = ⟨b, off + j, none⟩ := by unfold Addr.add; split <;> simp_all
    rw [hadd]
    exact hcell j hj'
  · intro u hu
    obtain ⟨z, _, rfl⟩ := List.mem_map.1 hu
    rfl
  · unfold maxLen; omega
  · omega
  · intro g cap w' h1 h2 _ _
    refine h _ w' ?_ ((Below.refl _ _).grown h2 hB (fun i hi => (World.ownsRow.lt hown i hi).1))
    unfold Owns
    rw [List.length_append, hm, List.map_append]
    exact h1
theorem append_nought {ops : Array Oper} {rest : List Oper} {o : Oper} {a : Act} {Q : Exit → Act → World → Prop} {W : World} {T E : TypeId} {k : IntKind} {B : Nat} {v : Value} {ys : List Int} {p : Option Addr} {c : Nat}
    (hT : Try.prog.underlying T = some (.slice E)) (hI : (Try.prog.info? E).map (fun i => (i.zero, i.size, i.bytes)) = some (some (.int k 0), 1, 8)) (hgd : o.guard = none) (s x : Operand)
    (ho : o.op = .call { callee := .builtin .append, args := #[s, x], argTypes := #[T, T] }) (hs : a.eval s = v) (hown : Owns W B E k v ys) (hx : a.eval x = .slice p 0 c) (hne : 0 < ys.length)
    (h : wpList Try.prog ops Q rest (a.put o.dst v) W) : wpList Try.prog ops Q (o :: rest) a W := by
  obtain ⟨i0, hi, hz0, hz1, hz2⟩ := info_parts hI
  obtain ⟨q, cap, hv, hr, hcap, _⟩ := hown.shape
  rcases hr with hnil | ⟨b, off, rfl, hb, hcell⟩
  · rw [hnil] at hne; simp at hne
  have hsrc : Src Try.prog i0.size T (.slice p 0 c) 0 [] W := by
    cases p with
    | none => exact Src.ofNil W hT c
    | some ad => exact Src.ofSlice W hT ad 0 c [] (by simp) (fun j u hj => by simp at hj) (fun u hu => by cases hu)
  have hrun := run_append_room_src (P := Try.prog) W T T o.type E i0 hT hi b off ys.length cap _ 0 [] hsrc (by omega) (fun j hj => by simp at hj) (fun j hj => by simp at hj)
  have hset : W.setCells b (off + ys.length * i0.size) [] = W := rfl
  rw [hset] at hrun
  refine wpList_plain hgd fun _ hK => ?_
  unfold Oper.wp execOp
  rw [← hs] at h
  simp only [ho, resolve, invoke, builtin, Sem.run_bind, Sem.run_pure, Result.andThen_ok, List.map_toArray, List.map_cons, List.map_nil, hx]
  rw [hs, hv, hrun]
  rw [hs, hv] at h
  exact hK _ _ h

theorem getD_ext {xs ys : List Int} (hl : xs.length = ys.length) (h : ∀ i, i < xs.length → xs.getD i 0 = ys.getD i 0) : xs = ys := by
  apply List.ext_getElem hl
  intro i h1 h2
  have := h i h1
  simpa [List.getD, h1, h2] using this
theorem revrev (xs : List Int) : revl (revl xs) = redl xs := by
  apply getD_ext (by rw [revl_len, revl_len, redl_len])
  intro i hi
  rw [revl_len, revl_len] at hi
  rw [revl_at _ i (by rw [revl_len]; exact hi), redl_at xs i hi, revl_len, revl_at xs _ (back_lt _ _ hi), back_back _ _ hi, fm_fm]
theorem turn_turn (xs : List Int) (a b c : Nat) (h : (a + b) % xs.length = c) : turnl (turnl xs a) b = turnl xs c := by
  apply getD_ext (by rw [turnl_len, turnl_len, turnl_len])
  intro i hi
  rw [turnl_len, turnl_len] at hi
  rw [turnl_at _ b i (by rw [turnl_len]; exact hi), turnl_len, turnl_at xs c i hi, turnl_at xs a _ (Nat.mod_lt _ (by omega)), fm_fm]
  congr 2
  rw [← h, Nat.mod_add_mod, Nat.add_mod_mod]
  congr 1
  omega
theorem tpos_add (k m : Int) (n : Nat) (h : 0 < n) : (tpos k n + tpos m n) % n = tpos (k + m) n := by
  have h1 := Int.emod_nonneg k (show (n : Int) ≠ 0 by omega)
  have h2 := Int.emod_nonneg m (show (n : Int) ≠ 0 by omega)
  have h3 := Int.emod_nonneg (k + m) (show (n : Int) ≠ 0 by omega)
  have e := Int.add_emod k m n
  unfold tpos
  have e1 : ((k % n).toNat : Int) = k % n := by omega
  have e2 : ((m % n).toNat : Int) = m % n := by omega
  have e3 : (((k + m) % n).toNat : Int) = (k + m) % n := by omega
  have : (((k % n).toNat + (m % n).toNat) % n : Nat) = (((k + m) % n).toNat : Int) := by
    rw [Int.natCast_emod, Int.natCast_add, e1, e2, e3, e]
  exact_mod_cast this
theorem turn_split (xs : List Int) (t : Nat) (h : t < xs.length) : redl (xs.drop t) ++ redl (xs.take t) = turnl xs t := by
  apply getD_ext
  · rw [List.length_append, redl_len, redl_len, turnl_len, List.length_drop, List.length_take]; omega
  · intro i hi
    rw [List.length_append, redl_len, redl_len, List.length_drop, List.length_take] at hi
    rw [turnl_at xs t i (by omega)]
    by_cases h1 : i < xs.length - t
    · have e : (i + t) % xs.length = t + i := by rw [Nat.mod_eq_of_lt (by omega)]; omega
      have l1 : i < (redl (xs.drop t)).length := by rw [redl_len, List.length_drop]; exact h1
      rw [e, List.getD_eq_getElem?_getD, List.getElem?_append_left l1, ← List.getD_eq_getElem?_getD, redl_at _ i (by rw [List.length_drop]; exact h1)]
      congr 1
      simp [List.getD]
    · have e : (i + t) % xs.length = i - (xs.length - t) := by
        rw [show i + t = (i - (xs.length - t)) + xs.length by omega, Nat.add_mod_right, Nat.mod_eq_of_lt (by omega)]
      have l1 : (redl (xs.drop t)).length = xs.length - t := by rw [redl_len, List.length_drop]
      have hlt : i - (xs.length - t) < t := by omega
      rw [e, List.getD_eq_getElem?_getD, List.getElem?_append_right (by omega), ← List.getD_eq_getElem?_getD, l1, redl_at _ _ (by rw [List.length_take]; omega)]
      congr 1
      simp [List.getD, hlt]
end Go.Proofs.Ytofgkhoemgimeaa
