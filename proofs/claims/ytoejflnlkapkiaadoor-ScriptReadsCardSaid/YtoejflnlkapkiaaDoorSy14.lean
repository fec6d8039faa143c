/- Put together by program (merge2.py): Sqe Sqh Sqi. -/
import Derived.Test.YtoejflnlkapkiaaDoorSy13
/- Scripts: rows of rows of calls that grow. -/
namespace Go.Proofs.YtoejflnlkapkiaaDoor
open Go.ChangeShapes Go.WideShapes Go.ChangeAt Go.RowKit
set_option linter.unusedVariables false
set_option linter.unusedSimpArgs false
/-- Blocks of a kind stay. -/
def Ex (K : Nat → Prop) (w w' : World) : Prop := w.heap.size ≤ w'.heap.size ∧ ∀ t, t < w.heap.size → K t → w'.heap[t]? = w.heap[t]?
theorem Ex.refl (K : Nat → Prop) (w : World) : Ex K w w := ⟨Nat.le_refl _, fun _ _ _ => rfl⟩
theorem Ex.of_below {K : Nat → Prop} {w w' : World} (h : Below w.heap.size w w') : Ex K w w' := ⟨h.size, fun t ht _ => h.block t ht⟩
theorem Ex.of_below' {w w' : World} {B : Nat} (h : Below B w w') : Ex (fun t => t < B) w w' := ⟨h.size, fun t _ ht => h.block t ht⟩
theorem Ex.trans {K : Nat → Prop} {w w1 w2 : World} (h : Ex K w w1) (g : Ex K w1 w2) : Ex K w w2 := ⟨Nat.le_trans h.1 g.1, fun t ht hk => (g.2 t (Nat.lt_of_lt_of_le ht h.1) hk).trans (h.2 t ht hk)⟩
theorem Ex.mono {K K' : Nat → Prop} {w w' : World} (h : Ex K w w') (hk : ∀ t, t < w.heap.size → K' t → K t) : Ex K' w w' := ⟨h.1, fun t ht h2 => h.2 t ht (hk t ht h2)⟩
theorem Ex.set {K : Nat → Prop} {w : World} {b o : Nat} {u : Value} (h : ¬ K b) : Ex K w (w.setCell ⟨b, o, none⟩ u) := ⟨by simp, fun t _ ht => heap_setCell_other _ _ _ _ (by intro e; have e2 : t = b := e; subst e2; exact h ht)⟩
theorem Ex.grown {K : Nat → Prop} {w w' : World} {row : Option Nat} (h : w.grownBy w' row) (hr : ∀ k, row = some k → ¬ K k) : Ex K w w' := ⟨h.size, fun t ht hk => h.block t ht (fun e => hr t e.symm hk)⟩
theorem Ex.alloc {K : Nat → Prop} (w : World) (o : Obj) : Ex K w (w.alloc o) := ⟨by simp, fun t ht _ => ((Below.refl w.heap.size w).alloc (Nat.le_refl _) o).block t ht⟩
theorem Ex.cell {K : Nat → Prop} {w w' : World} (h : Ex K w w') {b o : Nat} {v : Value} (hK : K b) (hc : w.cell? ⟨b, o, none⟩ = some v) : w'.cell? ⟨b, o, none⟩ = some v :=
  (World.cell?_of_block (a := ⟨b, o, none⟩) (h.2 b (World.block_lt_of_cell? w _ hc) hK)).trans hc
/-- Rows in blocks of a kind. -/
def XK (K : Nat → Prop) (w : World) (v : Value) (xs : List Int) : Prop := RowX w v xs ∧ (xs = [] ∨ ∀ b, v.ownBlock = some b → K b)
theorem XK.mono {K K' : Nat → Prop} {w : World} {v : Value} {xs : List Int} (h : XK K w v xs) (hk : ∀ t, t < w.heap.size → K t → K' t) : XK K' w v xs := by
  obtain ⟨⟨p, k, rfl, hr⟩, hb⟩ := h
  refine ⟨⟨p, k, rfl, hr⟩, ?_⟩
  rcases hb with h0 | hb
  · exact .inl h0
  · rcases hr.reads with h0 | ⟨g, off, rfl, hl, -⟩
    · exact .inl h0
    · refine .inr fun b hbb => ?_
      have hbb' : b = g := by simpa [Value.ownBlock] using hbb.symm
      subst hbb'
      exact hk _ hl (hb _ hbb)
theorem XK.keep {K : Nat → Prop} {w w' : World} {v : Value} {xs : List Int} (h : XK K w v xs) (he : Ex K w w') : XK K w' v xs := by
  obtain ⟨⟨p, k, rfl, hr⟩, hb⟩ := h
  refine ⟨⟨p, k, rfl, hr.len, ?_, hr.wf, hr.small⟩, hb⟩
  rcases hr.reads with h0 | ⟨g, off, rfl, hl, hc⟩
  · exact .inl h0
  · rcases hb with h0 | hb
    · exact .inl h0
    · exact .inr ⟨g, off, rfl, Nat.lt_of_lt_of_le hl he.1, fun i hi => he.cell (hb g rfl) (hc i hi)⟩
theorem xk_own {w : World} {B : Nat} {v : Value} {xs : List Int} (h : Owns w B 78 .u64 v xs) (hw : ∀ x ∈ xs, (Lit.int .u64 x).wf = true) (hs : xs.length ≤ 17592186044415) : XK (fun t => B ≤ t) w v xs := by
  obtain ⟨a, c, rfl, hr, -, -⟩ := h.shape
  refine ⟨⟨a, c, rfl, rfl, hr, hw, hs⟩, .inr fun b hb => ?_⟩
  exact (World.ownsRow.lt h b hb).1
def ClK (K : Nat → Prop) (w : World) (b o : Nat) (c : Cl) : Prop := c.ok ∧ w.cell? ⟨b, o, none⟩ = some (.int .i64 c.kd) ∧ w.cell? ⟨b, o + 1, none⟩ = some (.int .i64 c.n) ∧ w.cell? ⟨b, o + 2, none⟩ = some (.int .i64 c.dir) ∧ w.cell? ⟨b, o + 3, none⟩ = some (.string c.s)
  ∧ w.cell? ⟨b, o + 4, none⟩ = some (.int .i64 c.who) ∧ w.cell? ⟨b, o + 5, none⟩ = some (.int .i64 c.at') ∧ ∃ v, w.cell? ⟨b, o + 6, none⟩ = some v ∧ XK K w v c.xs
theorem ClK.at {K : Nat → Prop} {w : World} {b o : Nat} {c : Cl} (h : ClK K w b o c) : ClAt w b o c := by
  obtain ⟨h0, h1, h2, h3, h4, h5, h6, v, h7, h8⟩ := h
  exact ⟨h0, h1, h2, h3, h4, h5, h6, v, h7, h8.1⟩
theorem ClK.keep {K : Nat → Prop} {w w' : World} {b o : Nat} {c : Cl} (h : ClK K w b o c) (hb : K b) (he : Ex K w w') : ClK K w' b o c := by
  obtain ⟨h0, h1, h2, h3, h4, h5, h6, v, h7, h8⟩ := h
  exact ⟨h0, he.cell hb h1, he.cell hb h2, he.cell hb h3, he.cell hb h4, he.cell hb h5, he.cell hb h6, v, he.cell hb h7, h8.keep he⟩
theorem ClK.mono {K K' : Nat → Prop} {w : World} {b o : Nat} {c : Cl} (h : ClK K w b o c) (hk : ∀ t, t < w.heap.size → K t → K' t) : ClK K' w b o c := by
  obtain ⟨h0, h1, h2, h3, h4, h5, h6, v, h7, h8⟩ := h
  exact ⟨h0, h1, h2, h3, h4, h5, h6, v, h7, h8.mono hk⟩
def RCK (K : Nat → Prop) (w : World) (v : Value) (l : List Cl) : Prop := ∃ p c, v = .slice p l.length c ∧ (l = [] ∨ ∃ b o, p = some ⟨b, o, none⟩ ∧ b < w.heap.size ∧ K b ∧ ∀ (j : Nat) x, l[j]? = some x → ClK K w b (o + j * 7) x)
theorem RCK.row {K : Nat → Prop} {w : World} {v : Value} {l : List Cl} (h : RCK K w v l) : RowC w v l := by
  obtain ⟨p, c, rfl, h⟩ := h
  refine ⟨p, c, rfl, ?_⟩
  rcases h with h | ⟨b, o, hp, hl, -, h⟩
  · exact .inl h
  · exact .inr ⟨b, o, hp, hl, fun j x hj => (h j x hj).at⟩
theorem RCK.keep {K : Nat → Prop} {w w' : World} {v : Value} {l : List Cl} (h : RCK K w v l) (he : Ex K w w') : RCK K w' v l := by
  obtain ⟨p, c, rfl, h⟩ := h
  refine ⟨p, c, rfl, ?_⟩
  rcases h with h | ⟨b, o, hp, hl, hK, h⟩
  · exact .inl h
  · exact .inr ⟨b, o, hp, Nat.lt_of_lt_of_le hl he.1, hK, fun j x hj => (h j x hj).keep hK he⟩
theorem RCK.mono {K K' : Nat → Prop} {w : World} {v : Value} {l : List Cl} (h : RCK K w v l) (hk : ∀ t, t < w.heap.size → K t → K' t) : RCK K' w v l := by
  obtain ⟨p, c, rfl, h⟩ := h
  refine ⟨p, c, rfl, ?_⟩
  rcases h with h | ⟨b, o, hp, hl, hK, h⟩
  · exact .inl h
  · exact .inr ⟨b, o, hp, hl, hk b hl hK, fun j x hj => (h j x hj).mono hk⟩
/-- The cells of calls, with their rows. -/
def clCells (c : Cl) (x : Value) : List Value := [.int .i64 c.kd, .int .i64 c.n, .int .i64 c.dir, .string c.s, .int .i64 c.who, .int .i64 c.at', x]
def encP : List (Cl × Value) → List Value
  | [] => []
  | p :: r => clCells p.1 p.2 ++ encP r
theorem encP_len : ∀ L : List (Cl × Value), (encP L).length = L.length * 7
  | [] => rfl
  | p :: r => by rw [encP, List.length_append, encP_len r, List.length_cons]; simp only [clCells, List.length_cons, List.length_nil]; omega
theorem encP_app : ∀ (L M : List (Cl × Value)), encP (L ++ M) = encP L ++ encP M
  | [], _ => rfl
  | p :: r, M => by rw [List.cons_append, encP, encP, encP_app r M, List.append_assoc]
theorem encP_at : ∀ (L : List (Cl × Value)) (j i : Nat) (p : Cl × Value), L[j]? = some p → i < 7 → (encP L)[j * 7 + i]? = (clCells p.1 p.2)[i]?
  | q :: r, 0, i, p, h, hi => by
    simp at h; subst h
    rw [encP, List.getElem?_append_left (by simp only [clCells, List.length_cons, List.length_nil]; omega)]
    simp
  | q :: r, j + 1, i, p, h, hi => by
    rw [encP, List.getElem?_append_right (by simp only [clCells, List.length_cons, List.length_nil]; omega)]
    have e : (j + 1) * 7 + i - (clCells q.1 q.2).length = j * 7 + i := by simp only [clCells, List.length_cons, List.length_nil]; omega
    rw [e]
    exact encP_at r j i p (by simpa using h) hi
/-- An own row of calls, as one to read. -/
theorem own_rck {K K' : Nat → Prop} {w : World} {B : Nat} {v : Value} {L : List (Cl × Value)} (h : w.ownsRow B 49 7 v L.length (encP L)) (hL : ∀ p ∈ L, p.1.ok ∧ XK K w p.2 p.1.xs) (hk : ∀ t, t < w.heap.size → K t → K' t) (hv : ∀ t, v.ownBlock = some t → K' t) :
    RCK K' w v (L.map Prod.fst) := by
  rcases own_form h with ⟨rfl, h0, -⟩ | ⟨g, c, rfl, hB, hg, -, -, hc⟩
  · have : L = [] := List.length_eq_zero_iff.1 h0
    subst this
    exact ⟨none, 0, rfl, .inl rfl⟩
  · refine ⟨some ⟨g, 0, none⟩, c, by rw [List.length_map], .inr ⟨g, 0, rfl, hg, hv g rfl, fun j x hj => ?_⟩⟩
    rw [List.getElem?_map] at hj
    cases hp : L[j]? with
    | none => rw [hp] at hj; simp at hj
    | some p =>
      rw [hp] at hj
      obtain rfl : p.1 = x := by simpa using hj
      obtain ⟨hjl, -⟩ := List.getElem?_eq_some_iff.1 hp
      obtain ⟨hok, hx⟩ := hL p (List.mem_of_getElem? hp)
      have hcell : ∀ (i : Nat) (u : Value), i < 7 → (clCells p.1 p.2)[i]? = some u → w.cell? ⟨g, 0 + j * 7 + i, none⟩ = some u := fun i u hi hu => by
        obtain ⟨u', h1, h2, -⟩ := hc (j * 7 + i) (by omega)
        rw [encP_at L j i p hp hi, hu] at h1
        obtain rfl := Option.some.inj h1
        rw [Nat.zero_add]; exact h2
      exact ⟨hok, hcell 0 _ (by omega) rfl, hcell 1 _ (by omega) rfl, hcell 2 _ (by omega) rfl, hcell 3 _ (by omega) rfl, hcell 4 _ (by omega) rfl, hcell 5 _ (by omega) rfl, p.2, hcell 6 _ (by omega) rfl, hx.mono hk⟩
/-- All clients in memory: the last one's row grows. -/
def KS (B : Nat) (cv ul : Value) (t : Nat) : Prop := B ≤ t ∧ cv.ownBlock ≠ some t ∧ ul.ownBlock ≠ some t
structure ScM (B : Nat) (w : World) (cv : Value) (cs : List (List Cl)) (us : List Value) (ul : Value) (L : List (Cl × Value)) : Prop where
  own : w.ownsRow B 55 1 cv cs.length us
  two : ∀ t, ul.ownBlock = some t → cv.ownBlock ≠ some t
  last : cs ≠ [] → us[cs.length - 1]? = some ul ∧ cs[cs.length - 1]? = some (L.map Prod.fst)
  row : w.ownsRow B 49 7 ul L.length (encP L)
  cl : ∀ p ∈ L, p.1.ok ∧ XK (KS B cv ul) w p.2 p.1.xs
  rest : ∀ j u l, us[j]? = some u → cs[j]? = some l → j + 1 < cs.length → RCK (KS B cv ul) w u l
theorem ScM.len {B : Nat} {w : World} {cv : Value} {cs : List (List Cl)} {us : List Value} {ul : Value} {L : List (Cl × Value)} (h : ScM B w cv cs us ul L) : us.length = cs.length := by have := h.own.1; omega
theorem ScM.nil (B : Nat) (w : World) : ScM B w (.slice none 0 0) [] [] (.slice none 0 0) [] :=
  ⟨World.ownsRow_nil _ _ _ _, fun t h => by simp [Value.ownBlock] at h, fun h => absurd rfl h, World.ownsRow_nil _ _ _ _, fun p h => (by cases h), fun j u l _ h => by simp at h⟩
theorem own_ex {w w' : World} {B : Nat} {E : TypeId} {sz : Nat} {v : Value} {n : Nat} {xs : List Value} (h : w.ownsRow B E sz v n xs) {K : Nat → Prop} (he : Ex K w w') (hk : ∀ t, v.ownBlock = some t → K t) : w'.ownsRow B E sz v n xs := by
  obtain ⟨hl, h | ⟨g, cap, cur, hv, hg, hh, r⟩⟩ := h
  · exact ⟨hl, .inl h⟩
  · have hgl : g < w.heap.size := (Array.getElem?_eq_some_iff.1 hh).1
    exact ⟨hl, .inr ⟨g, cap, cur, hv, hg, (he.2 g hgl (hk g (by rw [hv]; rfl))).trans hh, r⟩⟩
theorem ScM.keep {B : Nat} {w w' : World} {cv : Value} {cs : List (List Cl)} {us : List Value} {ul : Value} {L : List (Cl × Value)} (h : ScM B w cv cs us ul L) (he : Ex (fun t => B ≤ t) w w') : ScM B w' cv cs us ul L :=
  have h2 : Ex (KS B cv ul) w w' := he.mono (fun _ _ hk => hk.1)
  ⟨own_ex h.own he (fun t ht => (World.ownsRow.lt h.own t ht).1), h.two, h.last, own_ex h.row he (fun t ht => (World.ownsRow.lt h.row t ht).1), fun p hp => ⟨(h.cl p hp).1, (h.cl p hp).2.keep h2⟩, fun j u l hu hl hj => (h.rest j u l hu hl hj).keep h2⟩
/-- The last row as one to read. -/
theorem ScM.lastR {B : Nat} {w : World} {cv : Value} {cs : List (List Cl)} {us : List Value} {ul : Value} {L : List (Cl × Value)} (h : ScM B w cv cs us ul L) : RCK (fun t => B ≤ t ∧ cv.ownBlock ≠ some t) w ul (L.map Prod.fst) :=
  own_rck h.row h.cl (fun t _ hk => ⟨hk.1, hk.2.1⟩) (fun t ht => ⟨(World.ownsRow.lt h.row t ht).1, h.two t ht⟩)
theorem ScM.at {B : Nat} {w : World} {cv : Value} {cs : List (List Cl)} {us : List Value} {ul : Value} {L : List (Cl × Value)} (h : ScM B w cv cs us ul L) {j : Nat} {u : Value} {l : List Cl} (hu : us[j]? = some u) (hl : cs[j]? = some l) : RCK (fun t => B ≤ t ∧ cv.ownBlock ≠ some t) w u l := by
  obtain ⟨hj, -⟩ := List.getElem?_eq_some_iff.1 hl
  by_cases h1 : j + 1 < cs.length
  · exact (h.rest j u l hu hl h1).mono (fun t _ hk => ⟨hk.1, hk.2.1⟩)
  · have e : cs.length - 1 = j := by omega
    obtain ⟨h2, h3⟩ := h.last (by intro e; rw [e] at hj; simp at hj)
    rw [e] at h2 h3
    rw [hu] at h2
    rw [hl] at h3
    obtain rfl := Option.some.inj h2
    obtain rfl := Option.some.inj h3
    exact h.lastR
theorem ScM.rowCC {B : Nat} {w : World} {cv : Value} {cs : List (List Cl)} {us : List Value} {ul : Value} {L : List (Cl × Value)} (h : ScM B w cv cs us ul L) : RowCC w cv cs := by
  rcases own_form h.own with ⟨rfl, h0, -⟩ | ⟨g, c, rfl, hB, hg, -, -, hc⟩
  · have : cs = [] := List.length_eq_zero_iff.1 h0
    subst this
    exact ⟨none, 0, rfl, .inl rfl⟩
  · refine ⟨some ⟨g, 0, none⟩, c, rfl, .inr ⟨g, 0, rfl, hg, fun j l hl => ?_⟩⟩
    obtain ⟨hj, -⟩ := List.getElem?_eq_some_iff.1 hl
    obtain ⟨u, h1, h2, -⟩ := hc j (by omega)
    exact ⟨u, by rw [Nat.zero_add]; exact h2, (h.at h1 hl).row⟩
/-- One client more. -/
theorem ScM.client {B : Nat} {w w' : World} {cv cv' : Value} {cs : List (List Cl)} {us : List Value} {ul : Value} {L : List (Cl × Value)} (h : ScM B w cv cs us ul L) (ho : w'.ownsRow B 55 1 cv' (cs.length + 1) (us ++ [.slice none 0 0]))
    (he : Ex (fun t => B ≤ t ∧ cv.ownBlock ≠ some t) w w') (hc : ∀ t, cv'.ownBlock = some t → cv.ownBlock = some t ∨ w.heap.size ≤ t) : ScM B w' cv' (cs ++ [[]]) (us ++ [.slice none 0 0]) (.slice none 0 0) [] := by
  have hL := h.len
  refine ⟨by simpa using ho, fun t ht => by simp [Value.ownBlock] at ht, fun _ => ⟨?_, ?_⟩, World.ownsRow_nil _ _ _ _, fun p h => (by cases h), fun j u l hu hl hj => ?_⟩
  · simp [hL]
  · simp
  · have hj' : j < cs.length := by simpa using hj
    rw [List.getElem?_append_left (by omega)] at hu
    rw [List.getElem?_append_left hj'] at hl
    have h1 := (h.at hu hl).mono (K' := fun t => (B ≤ t ∧ cv.ownBlock ≠ some t) ∧ t < w.heap.size) (fun t ht hk => ⟨hk, ht⟩)
    have h2 := h1.keep (he.mono (fun t _ hk => hk.1))
    exact h2.mono (fun t _ hk => ⟨hk.1.1, fun e => by
      rcases hc t e with e | e
      · exact hk.1.2 e
      · have := hk.2; omega, by simp [Value.ownBlock]⟩)
/-- One call more. -/
theorem ScM.call {B : Nat} {w w1 w' : World} {cv ul' : Value} {cs : List (List Cl)} {us : List Value} {ul : Value} {L : List (Cl × Value)} {c : Cl} {x : Value} (h : ScM B w cv cs us ul L) (hne : cs ≠ [])
    (hc : c.ok) (hx : XK (KS B cv ul) w x c.xs)
    (ho : w1.ownsRow B 49 7 ul' (L.length + 1) (encP L ++ clCells c x)) (he : Ex (fun t => B ≤ t ∧ ul.ownBlock ≠ some t) w w1) (hn : ∀ t, ul'.ownBlock = some t → ul.ownBlock = some t ∨ w.heap.size ≤ t)
    (hs : w'.ownsRow B 55 1 cv cs.length (us.set (cs.length - 1) ul')) (he2 : Ex (fun t => cv.ownBlock ≠ some t) w1 w') :
    ScM B w' cv (addC cs c) (us.set (cs.length - 1) ul') ul' (L ++ [(c, x)]) := by
  have hlen := h.len
  have hpos : 0 < cs.length := List.length_pos_iff.2 hne
  obtain ⟨hu, hl⟩ := h.last hne
  have hal : (addC cs c).length = cs.length := by unfold addC; simp
  have KK : ∀ t, t < w.heap.size → KS B cv ul t → KS B cv ul' t := fun t ht hk => ⟨hk.1, hk.2.1, fun e => by
    rcases hn t e with e | e
    · exact hk.2.2 e
    · omega⟩
  have hEx : ∀ K : Nat → Prop, (∀ t, K t → KS B cv ul t) → Ex K w w' := fun K hK =>
    (he.mono (fun t _ hk => ⟨(hK t hk).1, (hK t hk).2.2⟩)).trans (he2.mono (fun t _ hk => (hK t hk).2.1))
  have hxk : ∀ (v : Value) (xs : List Int), XK (KS B cv ul) w v xs → XK (KS B cv ul') w' v xs := fun v xs hv =>
    ((hv.mono (K' := fun t => KS B cv ul t ∧ t < w.heap.size) (fun t ht hk => ⟨hk, ht⟩)).keep (hEx _ (fun t hk => hk.1))).mono (fun t _ hk => KK t hk.2 hk.1)
  refine ⟨by rw [hal]; exact hs, fun t ht e => ?_, fun _ => ⟨?_, ?_⟩, ?_, fun p hp => ?_, fun j u l hju hjl hj => ?_⟩
  · rcases hn t ht with e2 | e2
    · exact h.two t e2 e
    · have := (World.ownsRow.lt h.own t e).2; omega
  · rw [hal, List.getElem?_set_self (by omega)]
  · have e : cs.getD (cs.length - 1) [] = L.map Prod.fst := by rw [List.getD_eq_getElem?_getD, hl]; rfl
    rw [hal]
    unfold addC
    rw [List.getElem?_set_self (by omega), e]; simp
  · have h1 : w1.ownsRow B 49 7 ul' (L ++ [(c, x)]).length (encP (L ++ [(c, x)])) := by
      rw [encP_app, List.length_append]
      simpa [encP] using ho
    refine own_ex h1 he2 (fun t ht e => ?_)
    rcases hn t ht with e2 | e2
    · exact h.two t e2 e
    · have := (World.ownsRow.lt h.own t e).2; omega
  · rcases List.mem_append.1 hp with hp | hp
    · exact ⟨(h.cl p hp).1, hxk _ _ (h.cl p hp).2⟩
    · simp only [List.mem_cons, List.not_mem_nil, or_false] at hp
      subst hp
      exact ⟨hc, hxk _ _ hx⟩
  · rw [hal] at hj
    have hjne : cs.length - 1 ≠ j := by omega
    unfold addC at hjl
    rw [List.getElem?_set_ne hjne] at hju hjl
    have h1 := (h.rest j u l hju hjl hj).mono (K' := fun t => KS B cv ul t ∧ t < w.heap.size) (fun t ht hk => ⟨hk, ht⟩)
    exact (h1.keep (hEx _ (fun t hk => hk.1))).mono (fun t _ hk => KK t hk.2 hk.1)
end Go.Proofs.YtoejflnlkapkiaaDoor
/- script.add: the first three lines. -/
namespace Go.Proofs.YtoejflnlkapkiaaDoor
open Go.ChangeShapes Go.WideShapes Go.ChangeAt Go.RowKit
set_option linter.unusedVariables false
set_option linter.unusedSimpArgs false
def PK (K : Nat → Prop) (w : World) (v : Value) (xs : List Int) : Prop := ∃ p k, v = .slice p xs.length k ∧ RowI w p xs.length xs ∧ (xs = [] ∨ ∀ b, v.ownBlock = some b → K b)
theorem PK.mono {K K' : Nat → Prop} {w : World} {v : Value} {xs : List Int} (h : PK K w v xs) (hk : ∀ t, t < w.heap.size → K t → K' t) : PK K' w v xs := by
  obtain ⟨p, k, rfl, hr, hb⟩ := h
  refine ⟨p, k, rfl, hr, ?_⟩
  rcases hb with h0 | hb
  · exact .inl h0
  · rcases hr.reads with h0 | ⟨g, off, rfl, hl, -⟩
    · exact .inl h0
    · refine .inr fun b hbb => ?_
      have hbb' : b = g := by simpa [Value.ownBlock] using hbb.symm
      subst hbb'
      exact hk _ hl (hb _ hbb)
theorem PK.keep {K : Nat → Prop} {w w' : World} {v : Value} {xs : List Int} (h : PK K w v xs) (he : Ex K w w') : PK K w' v xs := by
  obtain ⟨p, k, rfl, hr, hb⟩ := h
  refine ⟨p, k, rfl, ⟨hr.len, ?_, hr.wf, hr.small⟩, hb⟩
  rcases hr.reads with h0 | ⟨g, off, rfl, hl, hc⟩
  · exact .inl h0
  · rcases hb with h0 | hb
    · exact .inl h0
    · exact .inr ⟨g, off, rfl, Nat.lt_of_lt_of_le hl he.1, fun i hi => he.cell (hb g rfl) (hc i hi)⟩
theorem PK.nil (K : Nat → Prop) (w : World) : PK K w (.slice none 0 0) [] := ⟨none, 0, rfl, rowI_nil w, .inl rfl⟩
theorem i64r_wf {z : Int} (h : i64r z) : (Lit.int .i64 z).wf = true := by
  have h1 := h.1; have h2 := h.2
  simp [Lit.wf, IntKind.min, IntKind.max, IntKind.signed, IntKind.bits]; omega
theorem pk_own {w : World} {B : Nat} {v : Value} {xs : List Int} (h : Owns w B 3 .i64 v xs) (hw : ∀ x ∈ xs, i64r x) (hs : xs.length ≤ 17592186044415) : PK (fun t => B ≤ t) w v xs := by
  obtain ⟨a, c, rfl, hr, -, -⟩ := h.shape
  exact ⟨a, c, rfl, ⟨rfl, hr, fun x hx => i64r_wf (hw x hx), hs⟩, .inr fun b hb => (World.ownsRow.lt h b hb).1⟩
/-- A script that is being read, in memory. -/
structure ScB (B b : Nat) (w : World) (s : Sc) (cv pv tv : Value) (us : List Value) (ul : Value) (L : List (Cl × Value)) : Prop where
  box : w.heap[b]? = some (.cells #[.int .i64 s.st, .int .i64 s.rm, cv, pv, tv] 25 (0, 0))
  lt : b < B
  sz : B ≤ w.heap.size
  m : ScM B w cv s.cs us ul L
  p : PK (KS B cv ul) w pv s.ps
  t : PK (KS B cv ul) w tv s.ts
  r : i64r s.st ∧ i64r s.rm
def ScS (B b : Nat) (w : World) (s : Sc) : Prop := ∃ cv pv tv us ul L, ScB B b w s cv pv tv us ul L
theorem ScB.keep {B b : Nat} {w w' : World} {s : Sc} {cv pv tv : Value} {us : List Value} {ul : Value} {L : List (Cl × Value)} (h : ScB B b w s cv pv tv us ul L) (he : Ex (fun t => B ≤ t ∨ t = b) w w') : ScB B b w' s cv pv tv us ul L :=
  have h1 : Ex (fun t => B ≤ t) w w' := he.mono (fun _ _ hk => .inl hk)
  have h2 : Ex (KS B cv ul) w w' := he.mono (fun _ _ hk => .inl hk.1)
  ⟨(he.2 b (by have := h.lt; have := h.sz; omega) (.inr rfl)).trans h.box, h.lt, Nat.le_trans h.sz he.1, h.m.keep h1, h.p.keep h2, h.t.keep h2, h.r⟩
theorem ScB.below {B b : Nat} {w w' : World} {s : Sc} {cv pv tv : Value} {us : List Value} {ul : Value} {L : List (Cl × Value)} (h : ScB B b w s cv pv tv us ul L) (hb : Below w.heap.size w w') : ScB B b w' s cv pv tv us ul L := h.keep (Ex.of_below hb)
theorem frz5 {w : World} {b : Nat} {T : TypeId} {x0 x1 x2 x3 x4 : Value} (h : w.heap[b]? = some (.cells #[x0, x1, x2, x3, x4] T (0, 0))) :
    w.frozen? ⟨b, 0, none⟩ = false ∧ w.frozen? ⟨b, 1, none⟩ = false ∧ w.frozen? ⟨b, 2, none⟩ = false ∧ w.frozen? ⟨b, 3, none⟩ = false ∧ w.frozen? ⟨b, 4, none⟩ = false :=
  ⟨frozen_of_row w b 0 _ _ h, frozen_of_row w b 1 _ _ h, frozen_of_row w b 2 _ _ h, frozen_of_row w b 3 _ _ h, frozen_of_row w b 4 _ _ h⟩
/-- What 'add' does. -/
def AddOk (B b : Nat) (o : Option Sc) (W : World) (e : Ending) (w' : World) : Prop :=
  ((∃ s, o = some s ∧ e = .returned (.bool true) ∧ ScS B b w' s) ∨ (o = none ∧ e = .returned (.bool false) ∧ (∃ x0 x1 x2 x3 x4, w'.heap[b]? = some (.cells #[x0, x1, x2, x3, x4] 25 (0, 0))))) ∧ Below b W w'
theorem ScB.set {B b : Nat} {w : World} {s s' : Sc} {cv pv tv pv' tv' : Value} {us : List Value} {ul : Value} {L : List (Cl × Value)} (h : ScB B b w s cv pv tv us ul L) {w' : World} (he : Ex (fun t => B ≤ t) w w')
    (hb : w'.heap[b]? = some (.cells #[.int .i64 s'.st, .int .i64 s'.rm, cv, pv', tv'] 25 (0, 0))) (hcs : s'.cs = s.cs) (hp : PK (KS B cv ul) w' pv' s'.ps) (ht : PK (KS B cv ul) w' tv' s'.ts) (hr : i64r s'.st ∧ i64r s'.rm) : ScB B b w' s' cv pv' tv' us ul L :=
  ⟨hb, h.lt, Nat.le_trans h.sz he.1, by rw [hcs]; exact h.m.keep he, hp, ht, hr⟩
theorem RowS.rest {w : World} {b o c n : Nat} {a : List UInt8} {r : List (List UInt8)} (hn : n = r.length + 1) (hc : n ≤ c) (hb : b < w.heap.size) (hx : ∀ (j : Nat) x, (a :: r)[j]? = some x → w.cell? ⟨b, o + j, none⟩ = some (.string ⟨x.toArray⟩)) :
    (RowS w (.slice (some ⟨b, o, none⟩) 0 0) r ∧ c = 1 ∧ r.length = 0 ∧ n = 1) ∨ (RowS w (.slice (some ⟨b, o + 1, none⟩) r.length (c - 1)) r ∧ ¬ c = 1) := by
  by_cases hc1 : c = 1
  · have hr0 : r.length = 0 := by omega
    have hr : r = [] := List.length_eq_zero_iff.1 hr0
    exact .inl ⟨⟨_, _, by rw [hr0], by rw [hr0]; exact Nat.le_refl _, .inl hr⟩, hc1, hr0, by omega⟩
  · refine .inr ⟨⟨_, _, rfl, by omega, .inr ⟨b, o + 1, rfl, hb, fun j x hj => ?_⟩⟩, hc1⟩
    have h := hx (j + 1) x (by simpa using hj)
    have e : o + 1 + j = o + (j + 1) := by omega
    rw [e]; exact h
theorem ScB.fresh {B b : Nat} {w : World} {s : Sc} {cv pv tv : Value} {us : List Value} {ul : Value} {L : List (Cl × Value)} (h : ScB B b w s cv pv tv us ul L) {t : Nat} (ht : w.heap.size ≤ t) : KS B cv ul t :=
  ⟨Nat.le_trans h.sz ht, fun e => by have := (World.ownsRow.lt h.m.own t e).2; omega, fun e => by have := (World.ownsRow.lt h.m.row t e).2; omega⟩
theorem ScB.exb {B b : Nat} {w w' : World} {s : Sc} {cv pv tv : Value} {us : List Value} {ul : Value} {L : List (Cl × Value)} (h : ScB B b w s cv pv tv us ul L) (hb : Below w.heap.size w w') (o : Nat) (u : Value) : Ex (fun t => B ≤ t) w (w'.setCell ⟨b, o, none⟩ u) :=
  (Ex.of_below hb).trans (Ex.set (by have := h.lt; omega))
theorem str_eq {g : ByteArray} {f : List UInt8} (h : g.data.toList = f) (k : ByteArray) : (g.toList == k.toList) = decide (f = k.data.toList) := by
  rw [Lib.toList_data, Lib.toList_data, h]
  by_cases e : f = k.data.toList
  · rw [decide_eq_true e, e]; simp
  · rw [decide_eq_false e]; exact beq_eq_false_iff_ne.2 e
theorem str_eq3 {g : ByteArray} {f : List UInt8} (h : g.data.toList = f) (k : ByteArray) : (g.toList == k.data.toList) = decide (f = k.data.toList) := by
  rw [← str_eq h k, Lib.toList_data k]
--GEN
theorem numsW_i64 : ∀ {ws : List (List UInt8)} {vs : List Int}, numsW ws = some vs → ∀ v ∈ vs, i64r v
  | [], vs, h => by
    obtain rfl : [] = vs := by simpa [numsW] using h
    exact fun v h => (by cases h)
  | w :: r, vs, h => by
    unfold numsW at h
    cases hw : numW w with
    | none => rw [hw] at h; cases h
    | some v =>
      rw [hw] at h
      cases hr : numsW r with
      | none => rw [hr] at h; simp at h
      | some m =>
        rw [hr] at h
        obtain rfl : v :: m = vs := by simpa using h
        intro u hu
        rcases List.mem_cons.1 hu with rfl | hu
        · exact (numW_is hw).1
        · exact numsW_i64 hr u hu
set_option maxRecDepth 100000 in
set_option maxHeartbeats 16000000 in
theorem sc_add2 (B b : Nat) (s : Sc) (v : Value) (f : List UInt8) (r : List (List UInt8)) (W : World) (hS : ScS B b W s) (h : RowS W v (f :: r)) (hn : r.length ≤ 900000) (hl : ∀ x ∈ r, x.length ≤ 1000000) (hE : Evs W) (hT : Lib.TabIs Tryd.prog W "internal/strconv.uint64pow10" .u64 Lib.pow10Tab) :
    Calls Tryd.prog 28 #[.pointer (some ⟨b, 0, none⟩), .int .i64 2, v] W (AddOk B b (addN s 2 (f :: r)) W) := by
  obtain ⟨cv, pv, tv, us, ul, L, hS⟩ := hS
  have HS := Lib.hid hS
  have HBW := Lib.hid (show b < W.heap.size by have := hS.lt; have := hS.sz; omega)
  obtain ⟨p, c, rfl, hc, hx⟩ := h
  rcases hx with hx | ⟨gb, go, rfl, hgb, hcell⟩
  · cases hx
  have hf := hcell 0 f rfl
  rw [Nat.add_zero] at hf
  obtain ⟨g, hg⟩ : ∃ g : ByteArray, ⟨f.toArray⟩ = g := ⟨_, rfl⟩
  rw [hg] at hf
  have HSF := Lib.hid (show g.data.toList = f by rw [← hg])
  have hfd : W.drew.cell? ⟨gb, go, none⟩ = some (.string g) := hf
  have hlen : (f :: r).length = r.length + 1 := rfl
  rw [hlen] at hc ⊢
  have HN := Lib.hid hn
  have HL := Lib.hid hl
  have HE := Lib.hid hE
  have HT_ := Lib.hid hT
  have h1n : (1 : Int) ≤ ((r.length + 1 : Nat) : Int) := by omega
  have h0n : (0 : Int) < ((r.length + 1 : Nat) : Int) := by omega
  have hcase := RowS.rest (c := c) rfl hc hgb hcell
  clear hcell hn hl hE hT hg hlen hS hgb hc
  rcases hcase with ⟨hu, rfl, hr0, -⟩ | ⟨hu, hc1⟩
  all_goals
    have HRS := Lib.hid hu
    have IC := Lib.hid (sc_ints _ r W.drew (HRS.out.below (Below.refl _ _).drew) (by have := HN.out; omega) (fun z hz => Nat.le_trans (HL.out z hz) (by omega)) (HE.out.below (Below.refl _ _).drew) (pow10_bel HT_.out ((Below.refl W.heap.size W).drew)))
    clear hu
    go_enter Tryd.func28, Tryd.ntmps28
    go_wp2_with fail
    go_region
    obtain ⟨wd, hwd⟩ : ∃ wd, W.drew = wd := ⟨_, rfl⟩
    have HBD := Lib.hid (show Below W.heap.size W wd by rw [← hwd]; exact (Below.refl _ _).drew)
    rw [hwd] at IC ⊢
    clear hwd hf hfd
    go_wp2_with fail
    refine IC.out.mono ?_
    rintro e x3 ⟨hi, hb3⟩
    have HB3 := Lib.hid (HBD.out.trans (hb3.mono HBD.out.size))
    have BX3 := Lib.hid (HS.out.below HB3.out)
    clear hb3
    obtain ⟨m0, m1, m2, m3, m4⟩ := sc_cells5 BX3.out.box
    obtain ⟨f0, f1, f2, f3, f4⟩ := frz5 BX3.out.box
    have hq1 : (g.toList == [112, 105, 99, 107, 115]) = decide (f = (piW).data.toList) := str_eq3 HSF.out piW
    rcases hi with ⟨vs, u, hv, rfl, ho⟩ | ⟨hv, rfl⟩
    · have HP := Lib.hid ((pk_own ho (numsW_i64 hv) (by have h1 := numsW_len hv; have h2 := HN.out; omega)).mono (K' := KS B cv ul) (fun t _ ht => HS.out.fresh (Nat.le_trans HBD.out.size ht)))
      have HV := Lib.hid hv
      obtain ⟨p3, k3, rfl, -, -, -⟩ := ho.shape
      clear ho hv
      have HBX := Lib.hid (show ScB B b (x3.setCell ⟨b, 3, none⟩ (.slice p3 vs.length k3)) { s with ps := vs } cv (.slice p3 vs.length k3) tv us ul L from
        HS.out.set (HS.out.exb HB3.out 3 _) (row_setC (o := 3) BX3.out.box _) rfl (HP.out.keep (Ex.set (by intro h; have := HS.out.lt; have := h.1; omega))) (BX3.out.t.keep (Ex.set (by intro h; have := HS.out.lt; have := h.1; omega))) BX3.out.r)
      have HBB := Lib.hid (show Below b W (x3.setCell ⟨b, 3, none⟩ (.slice p3 vs.length k3)) from (HB3.out.mono (Nat.le_of_lt HBW.out)).setCell (p := ⟨b, 3, none⟩) (Nat.le_refl _) _)
      by_cases hfw : f = piW.data.toList
      · have hq2 : decide (f = (piW).data.toList) = true := decide_eq_true hfw
        have HNO := Lib.hid (show addN s 2 (f :: r) = some { s with ps := vs } by
          have hv := HV.out
          simp only [addN, hv, hfw]
          simp)
        rw [hq2] at hq1
        clear hq2 hfw
        go_wp2_with fail
        go_ret
        exact ⟨.inl ⟨_, HNO.out, rfl, _, _, _, _, _, _, HBX.out⟩, HBB.out⟩
      · have hq2 : decide (f = (piW).data.toList) = false := decide_eq_false hfw
        have HNO := Lib.hid (show addN s 2 (f :: r) = none by
          have hv := HV.out
          simp only [addN, hv]
          simp [hfw])
        rw [hq2] at hq1
        clear hq2 hfw
        go_wp2_with fail
        go_ret
        exact ⟨.inr ⟨HNO.out, rfl, _, _, _, _, _, HBX.out.box⟩, HBB.out⟩
    · have HNO := Lib.hid (show addN s 2 (f :: r) = none by simp only [addN, hv]; simp)
      have HR := Lib.hid (row_setC (o := 3) BX3.out.box (.slice none 0 0))
      have HBB := Lib.hid (show Below b W (x3.setCell ⟨b, 3, none⟩ (.slice none 0 0)) from (HB3.out.mono (Nat.le_of_lt HBW.out)).setCell (p := ⟨b, 3, none⟩) (Nat.le_refl _) _)
      clear hv hq1
      go_wp2_with fail
      go_ret
      exact ⟨.inr ⟨HNO.out, rfl, _, _, _, _, _, HR.out⟩, HBB.out⟩
set_option maxRecDepth 100000 in
set_option maxHeartbeats 16000000 in
theorem sc_add3 (B b : Nat) (s : Sc) (v : Value) (f : List UInt8) (r : List (List UInt8)) (W : World) (hS : ScS B b W s) (h : RowS W v (f :: r)) (hn : r.length ≤ 900000) (hl : ∀ x ∈ r, x.length ≤ 1000000) (hE : Evs W) (hT : Lib.TabIs Tryd.prog W "internal/strconv.uint64pow10" .u64 Lib.pow10Tab) :
    Calls Tryd.prog 28 #[.pointer (some ⟨b, 0, none⟩), .int .i64 3, v] W (AddOk B b (addN s 3 (f :: r)) W) := by
  obtain ⟨cv, pv, tv, us, ul, L, hS⟩ := hS
  have HS := Lib.hid hS
  have HBW := Lib.hid (show b < W.heap.size by have := hS.lt; have := hS.sz; omega)
  obtain ⟨p, c, rfl, hc, hx⟩ := h
  rcases hx with hx | ⟨gb, go, rfl, hgb, hcell⟩
  · cases hx
  have hf := hcell 0 f rfl
  rw [Nat.add_zero] at hf
  obtain ⟨g, hg⟩ : ∃ g : ByteArray, ⟨f.toArray⟩ = g := ⟨_, rfl⟩
  rw [hg] at hf
  have HSF := Lib.hid (show g.data.toList = f by rw [← hg])
  have hfd : W.drew.cell? ⟨gb, go, none⟩ = some (.string g) := hf
  have hlen : (f :: r).length = r.length + 1 := rfl
  rw [hlen] at hc ⊢
  have HN := Lib.hid hn
  have HL := Lib.hid hl
  have HE := Lib.hid hE
  have HT_ := Lib.hid hT
  have h1n : (1 : Int) ≤ ((r.length + 1 : Nat) : Int) := by omega
  have h0n : (0 : Int) < ((r.length + 1 : Nat) : Int) := by omega
  have hcase := RowS.rest (c := c) rfl hc hgb hcell
  clear hcell hn hl hE hT hg hlen hS hgb hc
  rcases hcase with ⟨hu, rfl, hr0, -⟩ | ⟨hu, hc1⟩
  all_goals
    have HRS := Lib.hid hu
    have IC := Lib.hid (sc_ints _ r W.drew (HRS.out.below (Below.refl _ _).drew) (by have := HN.out; omega) (fun z hz => Nat.le_trans (HL.out z hz) (by omega)) (HE.out.below (Below.refl _ _).drew) (pow10_bel HT_.out ((Below.refl W.heap.size W).drew)))
    clear hu
    go_enter Tryd.func28, Tryd.ntmps28
    go_wp2_with fail
    go_region
    obtain ⟨wd, hwd⟩ : ∃ wd, W.drew = wd := ⟨_, rfl⟩
    have HBD := Lib.hid (show Below W.heap.size W wd by rw [← hwd]; exact (Below.refl _ _).drew)
    rw [hwd] at IC ⊢
    clear hwd hf hfd
    go_wp2_with fail
    refine IC.out.mono ?_
    rintro e x3 ⟨hi, hb3⟩
    have HB3 := Lib.hid (HBD.out.trans (hb3.mono HBD.out.size))
    have BX3 := Lib.hid (HS.out.below HB3.out)
    clear hb3
    obtain ⟨m0, m1, m2, m3, m4⟩ := sc_cells5 BX3.out.box
    obtain ⟨f0, f1, f2, f3, f4⟩ := frz5 BX3.out.box
    have hq1 : (g.toList == [116, 105, 99, 107, 115]) = decide (f = (tiW).data.toList) := str_eq3 HSF.out tiW
    rcases hi with ⟨vs, u, hv, rfl, ho⟩ | ⟨hv, rfl⟩
    · have HP := Lib.hid ((pk_own ho (numsW_i64 hv) (by have h1 := numsW_len hv; have h2 := HN.out; omega)).mono (K' := KS B cv ul) (fun t _ ht => HS.out.fresh (Nat.le_trans HBD.out.size ht)))
      have HV := Lib.hid hv
      obtain ⟨p3, k3, rfl, -, -, -⟩ := ho.shape
      clear ho hv
      have HBX := Lib.hid (show ScB B b (x3.setCell ⟨b, 4, none⟩ (.slice p3 vs.length k3)) { s with ts := vs } cv pv (.slice p3 vs.length k3) us ul L from
        HS.out.set (HS.out.exb HB3.out 4 _) (row_setC (o := 4) BX3.out.box _) rfl (BX3.out.p.keep (Ex.set (by intro h; have := HS.out.lt; have := h.1; omega))) (HP.out.keep (Ex.set (by intro h; have := HS.out.lt; have := h.1; omega))) BX3.out.r)
      have HBB := Lib.hid (show Below b W (x3.setCell ⟨b, 4, none⟩ (.slice p3 vs.length k3)) from (HB3.out.mono (Nat.le_of_lt HBW.out)).setCell (p := ⟨b, 4, none⟩) (Nat.le_refl _) _)
      by_cases hfw : f = tiW.data.toList
      · have hq2 : decide (f = (tiW).data.toList) = true := decide_eq_true hfw
        have HNO := Lib.hid (show addN s 3 (f :: r) = some { s with ts := vs } by
          have hv := HV.out
          simp only [addN, hv, hfw]
          simp)
        rw [hq2] at hq1
        clear hq2 hfw
        go_wp2_with fail
        go_ret
        exact ⟨.inl ⟨_, HNO.out, rfl, _, _, _, _, _, _, HBX.out⟩, HBB.out⟩
      · have hq2 : decide (f = (tiW).data.toList) = false := decide_eq_false hfw
        have HNO := Lib.hid (show addN s 3 (f :: r) = none by
          have hv := HV.out
          simp only [addN, hv]
          simp [hfw])
        rw [hq2] at hq1
        clear hq2 hfw
        go_wp2_with fail
        go_ret
        exact ⟨.inr ⟨HNO.out, rfl, _, _, _, _, _, HBX.out.box⟩, HBB.out⟩
    · have HNO := Lib.hid (show addN s 3 (f :: r) = none by simp only [addN, hv]; simp)
      have HR := Lib.hid (row_setC (o := 4) BX3.out.box (.slice none 0 0))
      have HBB := Lib.hid (show Below b W (x3.setCell ⟨b, 4, none⟩ (.slice none 0 0)) from (HB3.out.mono (Nat.le_of_lt HBW.out)).setCell (p := ⟨b, 4, none⟩) (Nat.le_refl _) _)
      clear hv hq1
      go_wp2_with fail
      go_ret
      exact ⟨.inr ⟨HNO.out, rfl, _, _, _, _, _, HR.out⟩, HBB.out⟩
end Go.Proofs.YtoejflnlkapkiaaDoor
/- script.add: the first line; a client. -/
namespace Go.Proofs.YtoejflnlkapkiaaDoor
open Go.ChangeShapes Go.WideShapes Go.ChangeAt Go.RowKit
set_option linter.unusedVariables false
set_option linter.unusedSimpArgs false
theorem append_gK {ops : Array Oper} {rest : List Oper} {o : Oper} {a : Act} {Q : Exit → Act → World → Prop} {W : World} {T E : TypeId} {sz bys B : Nat} {v : Value} {n : Nat} {xs news : List Value} (hT : Tryd.prog.underlying T = some (.slice E))
    (hI : (Tryd.prog.info? E).map (fun i => (i.zero.map (fun z => z.cells.size), i.size, i.bytes)) = some (some sz, sz, bys)) (hsz : 0 < sz) (hby : bys ≤ 128) (hgd : o.guard = none) (s x : Operand)
    (ho : o.op = .call { callee := .builtin .append, args := #[s, x], argTypes := #[T, T] }) (hs : a.eval s = v) (hown : W.ownsRow B E sz v n xs) (hx : a.eval x = .slice (some ⟨W.heap.size, 0, none⟩) 1 1) (hB : B ≤ W.heap.size) (hn : n < 10000000)
    (hl : news.length = sz) (h1 : ∀ u ∈ news, u.oneCell' = true)
    (h : ∀ g cap w', w'.ownsRow B E sz (.slice (some ⟨g, 0, none⟩) (n + 1) cap) (n + 1) (xs ++ news) → Ex (fun t => v.ownBlock ≠ some t) W w' → (v.ownBlock = some g ∨ W.heap.size ≤ g) → Below B W w' → wpList Tryd.prog ops Q rest (a.put o.dst (.slice (some ⟨g, 0, none⟩) (n + 1) cap)) w') : wpList Tryd.prog ops Q (o :: rest) a (W.alloc (.cells news.toArray E)) := by
  obtain ⟨i0, hi⟩ : ∃ i, Tryd.prog.info? E = some i := by
    cases h0 : Tryd.prog.info? E with
    | none => rw [h0] at hI; cases hI
    | some i => exact ⟨i, rfl⟩
  rw [hi] at hI
  simp only [Option.map_some, Option.some.injEq, Prod.mk.injEq] at hI
  obtain ⟨hz, hsz2, hby2⟩ := hI
  obtain ⟨z, hz1, hz2⟩ : ∃ z, i0.zero = some z ∧ z.cells.size = sz := by
    cases h0 : i0.zero with
    | none => rw [h0] at hz; cases hz
    | some z => rw [h0] at hz; simp at hz; exact ⟨z, rfl, hz⟩
  refine wpList_append_lies _ hgd s x T ho B E i0 z sz bys hT hi hz1 hsz2 hby2 hz2 hsz v n xs hs (World.ownsRow.alloc hown _) ⟨W.heap.size, 0, none⟩ 1 1 news hx (by omega) ?_ h1 (by decide) ?_ ?_ (by simp; omega) _ rfl ?_
  · intro j u hj
    exact World.news_of_block (heap_alloc_new W (.cells news.toArray E)) j u (by simpa using hj)
  · unfold maxLen; omega
  · have : (n + 1) * bys ≤ 10000000 * 128 := Nat.mul_le_mul (by omega) hby
    omega
  · intro g cap w' h2 h3 h4 _
    refine h _ _ w' h2 ((Ex.alloc W _).trans (Ex.grown h3 (fun k hk hn => hn hk))) ?_ (((Below.refl _ _).alloc hB _).grown h3 (by simp; omega) (fun i hi => (World.ownsRow.lt hown i hi).1))
    rcases h4 with h4 | h4
    · exact .inl h4
    · right; rw [h4]; simp
theorem info_rows : (Tryd.prog.info? 55).map (fun i => (i.zero.map (fun z => z.cells.size), i.size, i.bytes)) = some (some 1, 1, 24) := by kernel_rfl
theorem ScB.client {B b : Nat} {w w4 : World} {s : Sc} {cv pv tv : Value} {us : List Value} {ul : Value} {L : List (Cl × Value)} (h : ScB B b w s cv pv tv us ul L) {g cap : Nat}
    (ho : w4.ownsRow B 55 1 (.slice (some ⟨g, 0, none⟩) (s.cs.length + 1) cap) (s.cs.length + 1) (us ++ [.slice none 0 0])) (he : Ex (fun t => cv.ownBlock ≠ some t) w w4) (hg : cv.ownBlock = some g ∨ w.heap.size ≤ g) (hb : Below B w w4) :
    ScB B b (w4.setCell ⟨b, 2, none⟩ (.slice (some ⟨g, 0, none⟩) (s.cs.length + 1) cap)) { s with cs := s.cs ++ [[]] } (.slice (some ⟨g, 0, none⟩) (s.cs.length + 1) cap) pv tv (us ++ [.slice none 0 0]) (.slice none 0 0) [] := by
  have hlt := h.lt
  have hset : ∀ K : Nat → Prop, ¬ K b → Ex K w4 (w4.setCell ⟨b, 2, none⟩ (.slice (some ⟨g, 0, none⟩) (s.cs.length + 1) cap)) := fun K hK => Ex.set hK
  have hnb : ¬ (B ≤ b) := by omega
  have hKK : ∀ t, t < w.heap.size → KS B cv ul t → KS B (.slice (some ⟨g, 0, none⟩) (s.cs.length + 1) cap) (.slice none 0 0) t := fun t ht hk => ⟨hk.1, fun e => by
    have e2 : g = t := by simpa [Value.ownBlock] using e
    subst e2
    rcases hg with e3 | e3
    · exact hk.2.1 e3
    · omega, by simp [Value.ownBlock]⟩
  have hEx : Ex (fun t => B ≤ t ∧ cv.ownBlock ≠ some t) w (w4.setCell ⟨b, 2, none⟩ (.slice (some ⟨g, 0, none⟩) (s.cs.length + 1) cap)) :=
    (he.mono (fun t _ hk => hk.2)).trans (hset _ (fun hk => hnb hk.1))
  have hPK : ∀ (v : Value) (xs : List Int), PK (KS B cv ul) w v xs → PK (KS B (.slice (some ⟨g, 0, none⟩) (s.cs.length + 1) cap) (.slice none 0 0)) (w4.setCell ⟨b, 2, none⟩ (.slice (some ⟨g, 0, none⟩) (s.cs.length + 1) cap)) v xs := fun v xs hv =>
    ((hv.mono (K' := fun t => KS B cv ul t ∧ t < w.heap.size) (fun t ht hk => ⟨hk, ht⟩)).keep (hEx.mono (fun t _ hk => ⟨hk.1.1, hk.1.2.1⟩))).mono (fun t _ hk => hKK t hk.2 hk.1)
  refine ⟨?_, hlt, by have := hb.size; have := h.sz; simp; omega, ?_, hPK _ _ h.p, hPK _ _ h.t, h.r⟩
  · have h1 := (hb.block b hlt).trans h.box
    exact row_setC (o := 2) h1 _
  · exact h.m.client (own_setB ho hlt _) hEx (fun t e => by
      have e2 : g = t := by simpa [Value.ownBlock] using e
      rw [← e2]; exact hg)
theorem AddOk.bool {B b : Nat} {o : Option Sc} {W w' : World} {bb : Bool} {s : Sc} {cv pv tv : Value} {us : List Value} {ul : Value} {L : List (Cl × Value)} (ho : o = if bb then some s else none) (h : ScB B b w' s cv pv tv us ul L) (hb : Below b W w') : AddOk B b o W (.returned (.bool bb)) w' := by
  cases bb with
  | true => exact ⟨.inl ⟨s, ho, rfl, _, _, _, _, _, _, h⟩, hb⟩
  | false => exact ⟨.inr ⟨ho, rfl, _, _, _, _, _, h.box⟩, hb⟩
set_option maxRecDepth 100000 in
set_option maxHeartbeats 16000000 in
theorem sc_addc (B b : Nat) (s : Sc) (ln : Nat) (hln : 4 ≤ ln) (v : Value) (f : List UInt8) (r : List (List UInt8)) (W : World) (hS : ScS B b W s) (h : RowS W v (f :: r)) (hcn : s.cs.length ≤ 1000000) (hf0 : f = cliB.data.toList) :
    Calls Tryd.prog 28 #[.pointer (some ⟨b, 0, none⟩), .int .i64 (ln : Int), v] W (AddOk B b (addN s ln (f :: r)) W) := by
  obtain ⟨cv, pv, tv, us, ul, L, hS⟩ := hS
  have HS := Lib.hid hS
  have HBW := Lib.hid (show b < W.heap.size by have := hS.lt; have := hS.sz; omega)
  have HCN := Lib.hid hcn
  obtain ⟨p, c, rfl, hc, hx⟩ := h
  rcases hx with hx | ⟨gb, go, rfl, hgb, hcell⟩
  · cases hx
  have hf := hcell 0 f rfl
  rw [Nat.add_zero] at hf
  obtain ⟨g, hg⟩ : ∃ g : ByteArray, ⟨f.toArray⟩ = g := ⟨_, rfl⟩
  rw [hg] at hf
  have HSF : g.data.toList = f := by rw [← hg]
  have hq1 : (g.toList == [99, 108, 105, 101, 110, 116]) = true := by
    have h1 : (g.toList == [99, 108, 105, 101, 110, 116]) = decide (f = cliB.data.toList) := str_eq3 HSF cliB
    rw [h1]; exact decide_eq_true hf0
  have hfd : W.drew.cell? ⟨gb, go, none⟩ = some (.string g) := hf
  have hlen : (f :: r).length = r.length + 1 := rfl
  rw [hlen] at hc ⊢
  have h1n : (1 : Int) ≤ ((r.length + 1 : Nat) : Int) := by omega
  have h0n : (0 : Int) < ((r.length + 1 : Nat) : Int) := by omega
  have l1 : ((ln : Int) == 1) = false := by simp; omega
  have l2 : ((ln : Int) == 2) = false := by simp; omega
  have l3 : ((ln : Int) == 3) = false := by simp; omega
  have HNO := Lib.hid (show ∀ bb : Bool, bb = decide (r.length = 0) → addN s ln (f :: r) = if bb then some { s with cs := s.cs ++ [[]] } else none from fun bb hbb => by
    have n1 : ¬ ln = 1 := by omega
    have n2 : ¬ ln = 2 := by omega
    have n3 : ¬ ln = 3 := by omega
    simp only [addN, n1, n2, n3, if_false, hf0, if_true, hbb]
    by_cases hr : r = []
    · subst hr; rfl
    · rw [if_neg hr, decide_eq_false (fun h => hr (List.length_eq_zero_iff.1 h))]; rfl)
  have hcase := RowS.rest (c := c) rfl hc hgb hcell
  clear hcell hg hlen hS hgb hc hcn hln hf0 HSF
  rcases hcase with ⟨hu, rfl, hr0, -⟩ | ⟨hu, hc1⟩
  all_goals
    clear hu
    go_enter Tryd.func28, Tryd.ntmps28
    go_wp2_with fail
    go_region
    obtain ⟨wd, hwd⟩ : ∃ wd, W.drew = wd := ⟨_, rfl⟩
    have HBD := Lib.hid (show Below W.heap.size W wd by rw [← hwd]; exact (Below.refl _ _).drew)
    have BXd := Lib.hid (HS.out.below HBD.out)
    rw [hwd]
    clear hwd hf hfd
    obtain ⟨m0, m1, m2, m3, m4⟩ := sc_cells5 BXd.out.box
    obtain ⟨f0, f1, f2, f3, f4⟩ := frz5 BXd.out.box
    have hsz := BXd.out.sz
    have hkn : s.cs.length < 10000000 := by have := HCN.out; omega
    go_upto_region 17 with fail
    go_wp2_with (at_builtin; refine append_gK (T := 22) (E := 55) (sz := 1) (bys := 24) (B := B) (v := cv) (n := s.cs.length) (xs := us) (news := [.slice none 0 0]) Tryd.underlying22 info_rows (by decide) (by decide) rfl _ _ rfl rfl BXd.out.m.own rfl hsz hkn rfl (by intro u hu; simp at hu; subst hu; rfl) ?_; intro g4 k4 w4 hO4 hE4 hG4 hb4; have HB4 := Lib.hid hb4; have BX4 := Lib.hid (BXd.out.client hO4 hE4 hG4 hb4); have hbox := (hb4.block b BXd.out.lt).trans BXd.out.box; have f2' := frozen_of_row w4 b 2 _ _ hbox; have c2' := (sc_cells5 hbox).2.2.1; clear hO4 hE4 hG4 hb4 hbox)
    go_ret
    refine AddOk.bool (HNO.out _ ?_) BX4.out ((HBD.out.mono (Nat.le_of_lt HBW.out)).trans (HB4.out.mono (Nat.le_of_lt HS.out.lt)) |>.setCell (p := ⟨b, 2, none⟩) (Nat.le_refl _) _)
    first | rfl | (simp [*]; done) | (rw [Bool.eq_iff_iff]; simp; done) | (cases r <;> simp; done)
end Go.Proofs.YtoejflnlkapkiaaDoor
