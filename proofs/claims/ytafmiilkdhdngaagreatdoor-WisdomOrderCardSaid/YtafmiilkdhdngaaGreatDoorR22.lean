/- Put together by program (merge2.py): Opene Openes Wna Rws. -/
import Derived.Test.YtafmiilkdhdngaaGreatDoorD11
import Derived.Test.YtafmiilkdhdngaaGreatDoorR7
import Derived.Test.YtafmiilkdhdngaaGreatDoorR20
import Derived.Test.YtafmiilkdhdngaaGreatDoorR21
/- A parameter api.Entry: a key of two ints and a descriptor. -/
namespace Go.Proofs.YtafmiilkdhdngaaGreatDoor
open Go.ChangeShapes Go.WideShapes Go.ChangeAt Go.RowKit
set_option linter.unusedVariables false
set_option linter.unusedSimpArgs false
section
variable {H : Type} {enc : TypeId × Value → H} {w : World} {sp : Nat → Bool} {held : Bool}
set_option maxRecDepth 100000 in
theorem trod_entry (f0 f1 g0 g1 : Field) (hs : Tryz.prog.underlying 44 = some (.struct #[f0, f1])) (hk : f0.type = 39) (hd : f1.type = 42) (hg : Tryz.prog.underlying 39 = some (.struct #[g0, g1]))
    (j0 : Tryz.prog.underlying g0.type = some (.int .i64)) (j1 : Tryz.prog.underlying g1.type = some (.int .i64)) (o0 : f0.offset = 0) (o1 : f1.offset = 2) (q0 : g0.offset = 0) (q1 : g1.offset = 1) (y0 : Tryz.prog.cellsOf g0.type = 1) (y1 : Tryz.prog.cellsOf g1.type = 1)
    (hCK : Tryz.prog.cellsOf 39 = 2) (hCD : Tryz.prog.cellsOf 42 = 3) (hC : Tryz.prog.cellsOf 44 = 5) (base fuel : Nat) (cs : List Value) (x : DataW H × List MemPlace)
    (hD : ∀ (fuel : Nat) (cs : List Value) (x : DataW H × List MemPlace), DataW.trod enc Tryz.prog w base sp held fuel 42 cs = some x →
      ∃ (k n : Int) (s : Value) (ks : Fo), cs = [.int .i64 k, .int .i64 n, s] ∧ Kids w w.heap.size s ks ∧ ks.wf ∧ (-9223372036854775808 ≤ k ∧ k ≤ 9223372036854775807) ∧ (-9223372036854775808 ≤ n ∧ n ≤ 9223372036854775807) ∧ ks.cnt + 1 ≤ Rows.uptoBulk x.1)
    (h : DataW.trod enc Tryz.prog w base sp held fuel 44 cs = some x) :
    ∃ (a b k n : Int) (s : Value) (ks : Fo), cs = [.int .i64 a, .int .i64 b, .int .i64 k, .int .i64 n, s] ∧ Kids w w.heap.size s ks ∧ ks.wf ∧ (-9223372036854775808 ≤ a ∧ a ≤ 9223372036854775807) ∧ (-9223372036854775808 ≤ b ∧ b ≤ 9223372036854775807) ∧ (-9223372036854775808 ≤ k ∧ k ≤ 9223372036854775807) ∧ (-9223372036854775808 ≤ n ∧ n ≤ 9223372036854775807) ∧ ks.cnt + 1 ≤ Rows.uptoBulk x.1 := by
  obtain ⟨xs, m, rfl, rfl, hlen, hxs, hel⟩ := DataW.trod_struct hs h
  rw [hC] at hlen
  obtain ⟨c0, c1, c2, c3, c4, rfl⟩ : ∃ c0 c1 c2 c3 c4, cs = [c0, c1, c2, c3, c4] := by
    match cs, hlen with
    | [a, b, c, d, e], _ => exact ⟨a, b, c, d, e, rfl⟩
  obtain ⟨x0, x1, rfl⟩ : ∃ x0 x1, xs = [x0, x1] := by
    have h3 : xs.length = 2 := hxs
    match xs, h3 with
    | [a, b], _ => exact ⟨a, b, rfl⟩
  have e0 := hel 0 f0 rfl
  have e1 := hel 1 f1 rfl
  rw [o0, hk, hCK] at e0
  rw [o1, hd, hCD] at e1
  simp only [List.drop_zero, List.take_succ_cons, List.take_zero, List.getElem?_cons_zero, List.drop_succ_cons, List.getElem?_cons_succ] at e0 e1
  obtain ⟨ys, m', rfl, hx0, hlen', hys, hel'⟩ := DataW.trod_struct hg e0
  obtain ⟨z0, z1, rfl⟩ : ∃ z0 z1, ys = [z0, z1] := by
    have h3 : ys.length = 2 := hys
    match ys, h3 with
    | [a, b], _ => exact ⟨a, b, rfl⟩
  have d0 := hel' 0 g0 rfl
  have d1 := hel' 1 g1 rfl
  rw [q0, y0] at d0
  rw [q1, y1] at d1
  simp only [List.drop_zero, List.take_succ_cons, List.take_zero, List.getElem?_cons_zero, List.drop_succ_cons, List.getElem?_cons_succ] at d0 d1
  obtain ⟨a, ha, -, wa⟩ := DataW.trod_int j0 d0
  obtain ⟨b, hb, -, wb⟩ := DataW.trod_int j1 d1
  simp only [List.cons.injEq, and_true] at ha hb
  subst ha hb
  obtain ⟨k, n, s, ks, hcs, hK, wf, wk, wn, hc⟩ := hD _ _ _ e1
  simp only [List.cons.injEq, and_true] at hcs
  obtain ⟨rfl, rfl, rfl⟩ := hcs
  refine ⟨a, b, k, n, c4, ks, rfl, hK, wf, wf_i64 wa, wf_i64 wb, wk, wn, ?_⟩
  simp only [List.map_cons, List.map_nil, Rows.uptoBulk, Rows.uptoBulkAll]
  omega
end
end Go.Proofs.YtafmiilkdhdngaaGreatDoor
/- Rows of entries that come in. -/
namespace Go.Proofs.YtafmiilkdhdngaaGreatDoor
open Go.ChangeShapes Go.WideShapes Go.ChangeAt Go.RowKit
set_option linter.unusedVariables false
open Go.Joins Go.Deep
set_option linter.unusedSimpArgs false
/-- In words' range. -/
def En.inr (e : En) : Prop := (-9223372036854775808 ≤ e.a ∧ e.a ≤ 9223372036854775807) ∧ (-9223372036854775808 ≤ e.b ∧ e.b ≤ 9223372036854775807) ∧ (-9223372036854775808 ≤ e.k ∧ e.k ≤ 9223372036854775807) ∧ (-9223372036854775808 ≤ e.n ∧ e.n ≤ 9223372036854775807) ∧ e.ks.wf
theorem bulk_mem {H : Type} : ∀ (l : List (DataW H)) (i : Nat) (hi : i < l.length), Rows.uptoBulk l[i] ≤ Rows.uptoBulkAll l
  | x :: l, 0, _ => by simp only [List.getElem_cons_zero, Rows.uptoBulkAll]; omega
  | x :: l, i + 1, h => by
    have := bulk_mem l i (by simpa using h)
    simp only [List.getElem_cons_succ, Rows.uptoBulkAll]
    omega
set_option maxRecDepth 100000 in
theorem trod_ens {H : Type} {enc : TypeId × Value → H} {w : World} {sp : Nat → Bool} {held : Bool} (base fuel : Nat) (v : Value) (x : DataW H × List MemPlace) (e2 : DataW.trod enc Tryz.prog w base sp held fuel 22 [v] = some x) :
    ∃ l : List En, RowN w w.heap.size v l ∧ ∀ e ∈ l, e.inr ∧ e.ks.cnt + 1 ≤ Rows.uptoBulk x.1 := by
  have hC : Tryz.prog.cellsOf 44 = 5 := by kernel_rfl
  rcases DataW.trod_slice Tryz.underlying22 e2 with ⟨hc, hx2⟩ | ⟨a, len, cap, elems, rest, m2, hm2, hc, hx2, hb, hlc, hcm, hle, hels, _, _⟩
  · simp only [List.cons.injEq, and_true] at hc
    subst hc
    exact ⟨[], RowN.nought _ _, fun e he => by cases he⟩
  · simp only [List.cons.injEq, and_true] at hc
    subst hc
    rw [hC] at hels
    have hD := trod_fo (H := H) (enc := enc) (w := w) (sp := sp) (held := held) 40 _ _ _ Tryz.underlying42 Tryz.underlying40 Tryz.underlying3 Tryz.underlying3 rfl rfl rfl (by kernel_rfl) (by kernel_rfl) (by kernel_rfl) (by kernel_rfl) base
    have each0 : ∀ i, i < len → ∃ e : En, (∃ u, w.cell? (a.add (i * 5)) = some u) ∧ (∀ b o, a = ⟨b, o, none⟩ → EnAt w w.heap.size b (o + i * 5) e) ∧ e.inr ∧ e.ks.cnt + 1 ≤ Rows.uptoBulk x.1 := by
      intro i hi
      have he := hels i hi
      rw [List.getElem?_eq_getElem (show i < elems.length by omega)] at he
      obtain ⟨cs', h1', h2'⟩ := Option.bind_eq_some_iff.1 he
      obtain ⟨ea, eb, k', n', s', ks', rfl, g1, g2, ga, gb, g3, g4, g5⟩ := trod_entry _ _ _ _ Tryz.underlying44 rfl rfl Tryz.underlying39 Tryz.underlying3 Tryz.underlying3 rfl rfl rfl rfl (by kernel_rfl) (by kernel_rfl) (by kernel_rfl) (by kernel_rfl) (by kernel_rfl) base m2 _ _ hD h2'
      obtain ⟨_, _, hcell⟩ := World.cells?_some h1'
      have q0 := hcell 0 (by omega)
      have e : (a.add (i * 5)).add 0 = a.add (i * 5) := by obtain ⟨b, o, sp⟩ := a; cases sp <;> simp [Addr.add]
      rw [e] at q0
      refine ⟨⟨ea, eb, k', n', ks'⟩, ⟨_, q0⟩, ?_, ⟨ga, gb, g3, g4, g2⟩, ?_⟩
      · rintro b o rfl
        have q1 := hcell 1 (by omega)
        have q2 := hcell 2 (by omega)
        have q3 := hcell 3 (by omega)
        have q4 := hcell 4 (by omega)
        rw [add_plain, add_plain] at q1 q2 q3 q4
        rw [add_plain] at q0
        have q0' : w.cell? ⟨b, o + i * 5, none⟩ = some (.int .i64 ea) := by simpa using q0
        exact ⟨block_lt_of_cell q0', s', q0', by simpa using q1, by simpa using q2, by simpa using q3, by simpa using q4, g1⟩
      · have hm := bulk_mem (elems.map (·.1)) i (by rw [List.length_map]; omega)
        rw [List.getElem_map] at hm
        simp only [Rows.uptoBulk, hx2]
        show ks'.cnt + 1 ≤ _
        omega
    have each : ∀ i, i < len → ∃ e : En, (∃ b o, a = ⟨b, o, none⟩ ∧ EnAt w w.heap.size b (o + i * 5) e) ∧ e.inr ∧ e.ks.cnt + 1 ≤ Rows.uptoBulk x.1 := by
      intro i hi
      obtain ⟨_, ⟨u, hc0⟩, _⟩ := each0 0 (by omega)
      obtain ⟨b, o, spot⟩ := a
      have hspot : spot = none := by
        have := World.cell?_spot hc0
        cases spot with
        | none => rfl
        | some q => simp [Addr.add] at this
      subst hspot
      obtain ⟨e, _, h2, h3⟩ := each0 i hi
      exact ⟨e, ⟨b, o, rfl, h2 b o rfl⟩, h3⟩
    have build : ∀ j, j ≤ len → ∃ l : List En, l.length = j ∧ ∀ i e, l[i]? = some e → ((∃ b o, a = ⟨b, o, none⟩ ∧ EnAt w w.heap.size b (o + i * 5) e) ∧ e.inr ∧ e.ks.cnt + 1 ≤ Rows.uptoBulk x.1) := by
      intro j
      induction j with
      | zero => intro _; exact ⟨[], rfl, fun i e h => by simp at h⟩
      | succ j ih =>
        intro hj
        obtain ⟨l, hl, hA⟩ := ih (by omega)
        obtain ⟨e, he⟩ := each j (by omega)
        refine ⟨l ++ [e], by simp [hl], fun i z hz => ?_⟩
        rcases Nat.lt_or_ge i j with h | h
        · rw [List.getElem?_append_left (by omega)] at hz
          exact hA i z hz
        · rw [List.getElem?_append_right (by omega)] at hz
          have hi : i = j := by
            have := (List.getElem?_eq_some_iff.1 hz).1
            simp at this; omega
          subst hi
          rw [hl, Nat.sub_self] at hz
          simp at hz; subst hz
          exact he
    obtain ⟨l, hl, hA⟩ := build len (Nat.le_refl _)
    refine ⟨l, ⟨some a, cap, by rw [hl], by omega, hcm, fun i e he => ?_⟩, fun e he => ?_⟩
    · obtain ⟨⟨b, o, ha, hE⟩, _⟩ := hA i e he
      exact ⟨b, o, by rw [ha], hE⟩
    · obtain ⟨i, hi, rfl⟩ := List.getElem_of_mem he
      exact (hA i _ (List.getElem?_eq_getElem hi)).2
set_option maxRecDepth 100000 in
theorem open_entries {H : Type} {enc : TypeId × Value → H} {w : World} {sp : Nat → Bool} {held : Bool} {base b0 : Nat} {r : Reach} {v : Value} {d : DataW H} {p : List MemPlace} (hv : Value.okWide Tryz.prog w r b0 22 v) (h : DataW.Trod enc Tryz.prog w base sp held 22 v d p) :
    ∃ l : List En, RowN w w.heap.size v l ∧ ∀ e ∈ l, e.inr ∧ e.ks.cnt + 1 ≤ Rows.uptoBulk d := by
  obtain ⟨a, n, c, rfl⟩ := okWide_slice Tryz.underlying22 hv
  obtain ⟨fuel, hf⟩ := h
  exact trod_ens base fuel (.slice a n c) _ hf
end Go.Proofs.YtafmiilkdhdngaaGreatDoor
/- Wisdom in numbers: keys that are there twice, the errors of a row of entries, its text, and what a text's lines are. -/
namespace Go.Proofs.YtafmiilkdhdngaaGreatDoor
open Go.ChangeShapes Go.WideShapes Go.ChangeAt Go.RowKit
set_option linter.unusedVariables false
set_option linter.unusedSimpArgs false
def chkE (e : En) : Int := fori e.a e.b e.n (chkd e.k e.n e.ks)
def badE : List En → Int
  | [] => 0
  | e :: l => if chkE e = 0 then badE l else chkE e
theorem badE_at : ∀ {l : List En} {i : Nat} {e : En}, l[i]? = some e → (∀ (j : Nat) (y : En), j < i → l[j]? = some y → chkE y = 0) → chkE e ≠ 0 → badE l = chkE e
  | [], _, _, h, _, _ => by simp at h
  | x :: l, 0, e, h, _, hn => by
    simp at h; subst h
    unfold badE; rw [if_neg hn]
  | x :: l, i + 1, e, h, hj, hn => by
    unfold badE
    rw [if_pos (hj 0 x (by omega) rfl)]
    exact badE_at (i := i) (by simpa using h) (fun j y h1 h2 => hj (j + 1) y (by omega) (by simpa using h2)) hn
theorem badE_zero : ∀ {l : List En}, (∀ e ∈ l, chkE e = 0) → badE l = 0
  | [], _ => rfl
  | x :: l, h => by
    unfold badE
    rw [if_pos (h x (List.mem_cons_self ..))]
    exact badE_zero (fun e he => h e (List.mem_cons_of_mem _ he))
/-- One more, many more. -/
def putE (l : List En) (e : En) : List En := if hasE l e.a e.b then l else l ++ [e]
def mrgE (l m : List En) : List En := m.foldl putE l
theorem mrgE_snoc {l m : List En} {i : Nat} {e : En} (h : m[i]? = some e) : mrgE l (m.take (i + 1)) = putE (mrgE l (m.take i)) e := by
  unfold mrgE
  rw [List.take_add_one, h, List.foldl_append]
  rfl
theorem putE_len (l : List En) (e : En) : (putE l e).length = l.length ∨ (putE l e).length = l.length + 1 := by
  unfold putE
  split
  · exact .inl rfl
  · rw [List.length_append, List.length_singleton]; exact .inr rfl
theorem mrgE_len (l : List En) : ∀ m : List En, l.length ≤ (mrgE l m).length ∧ (mrgE l m).length ≤ l.length + m.length := by
  intro m
  induction m generalizing l with
  | nil => exact ⟨Nat.le_refl _, Nat.le_refl _⟩
  | cons e m ih =>
    have h1 := ih (putE l e)
    have h2 := putE_len l e
    show l.length ≤ (mrgE (putE l e) m).length ∧ _
    have h3 : mrgE l (e :: m) = mrgE (putE l e) m := rfl
    rw [h3, List.length_cons]
    omega
/-- The row that a put leaves. -/
theorem ins_perm {α : Type} {lt : α → α → Bool} (x : α) : ∀ l : List α, (Srt.ins lt x l).Perm (x :: l)
  | [] => List.Perm.refl _
  | y :: l => by
    unfold Srt.ins
    split
    · exact List.Perm.refl _
    · exact (List.Perm.cons y (ins_perm x l)).trans (List.Perm.swap x y l)
theorem fold_perm {α : Type} {lt : α → α → Bool} (l : List α) : ∀ o : List α, (l.foldl (fun o x => Srt.ins lt x o) o).Perm (o ++ l) := by
  induction l with
  | nil => intro o; rw [List.append_nil]; exact List.Perm.refl _
  | cons x l ih =>
    intro o
    rw [List.foldl_cons]
    refine (ih _).trans ?_
    refine (List.Perm.append_right l (ins_perm x o)).trans ?_
    exact (List.perm_middle).symm
theorem isort_perm {α : Type} {lt : α → α → Bool} (l : List α) : (Srt.isort lt l).Perm l := by
  have := fold_perm (lt := lt) l []
  rw [List.nil_append] at this
  exact this
/-- In order, and of the same elements, no two of one key: the same. -/
theorem up_eq {α : Type} {lt : α → α → Bool} : ∀ {l m : List α}, Srt.Up lt l → Srt.Up lt m → l.Perm m → (∀ x ∈ l, ∀ y ∈ l, lt x y = false → lt y x = false → x = y) → l = m
  | [], m, _, _, h, _ => (List.Perm.nil_eq h)
  | x :: l, [], _, _, h, _ => by have := h.length_eq; simp at this
  | x :: l, y :: m, h1, h2, h, hk => by
    have a1 := List.pairwise_cons.1 h1
    have a2 := List.pairwise_cons.1 h2
    have hxy : x = y := by
      have hx : x ∈ y :: m := h.subset (List.mem_cons_self ..)
      have hy : y ∈ x :: l := h.symm.subset (List.mem_cons_self ..)
      rcases List.mem_cons.1 hx with e | hx'
      · exact e
      · rcases List.mem_cons.1 hy with e | hy'
        · exact e.symm
        · exact hk x (List.mem_cons_self ..) y hy (a2.1 x hx') (a1.1 y hy')
    subst hxy
    rw [up_eq a1.2 a2.2 (List.Perm.cons_inv h) (fun u hu v hv => hk u (List.mem_cons_of_mem _ hu) v (List.mem_cons_of_mem _ hv))]
theorem badE_all : ∀ {l : List En}, badE l = 0 → ∀ e ∈ l, chkE e = 0
  | [], _, e, he => by cases he
  | x :: l, h, e, he => by
    unfold badE at h
    split at h
    · rcases List.mem_cons.1 he with rfl | he
      · assumption
      · exact badE_all h e he
    · contradiction
theorem mem_mrgE : ∀ {m l : List En} {e : En}, e ∈ mrgE l m → e ∈ l ∨ e ∈ m
  | [], _, _, h => .inl h
  | x :: m, l, e, h => by
    rcases mem_mrgE (m := m) (l := putE l x) h with h | h
    · unfold putE at h
      split at h
      · exact .inl h
      · rcases List.mem_append.1 h with h | h
        · exact .inl h
        · simp at h; subst h; exact .inr (List.mem_cons_self ..)
    · exact .inr (List.mem_cons_of_mem _ h)
/-- What both keep is the same. -/
def Apart (l : List En) : Prop := l.Pairwise (fun x y => ¬ (x.a = y.a ∧ x.b = y.b))
theorem Apart.perm {l m : List En} (h : Apart l) (hp : l.Perm m) : Apart m := (hp.pairwise_iff (fun h ⟨e1, e2⟩ => h ⟨e1.symm, e2.symm⟩)).1 h
theorem sortN_perm (l : List En) : (sortN l).Perm l := isort_perm l
theorem sortN_idem {l : List En} (h : Apart l) : sortN (sortN l) = sortN l := by
  refine up_eq (Srt.isort_up ent_ord _) (Srt.isort_up ent_ord _) (sortN_perm _) (fun x hx y hy e1 e2 => ?_)
  have hx := (sortN_perm l).subset ((sortN_perm _).subset hx)
  have hy := (sortN_perm l).subset ((sortN_perm _).subset hy)
  by_cases hxy : x = y
  · exact hxy
  · exfalso
    unfold ent Srt.klt at e1 e2
    simp only [decide_eq_false_iff_not] at e1 e2
    obtain ⟨i, hi, rfl⟩ := List.mem_iff_getElem.1 hx
    obtain ⟨j, hj, rfl⟩ := List.mem_iff_getElem.1 hy
    have hp := List.pairwise_iff_getElem.1 h
    rcases Nat.lt_trichotomy i j with hij | hij | hij
    · exact hp i j hi hj hij ⟨by omega, by omega⟩
    · subst hij; exact hxy rfl
    · exact hp j i hj hi hij ⟨by omega, by omega⟩
theorem hasE_some {l : List En} {a b : Int} (h : hasE l a b = true) : ∃ e ∈ l, e.a = a ∧ e.b = b := by
  unfold hasE at h
  rw [List.any_eq_true] at h
  obtain ⟨e, he, h⟩ := h
  exact ⟨e, he, of_decide_eq_true h⟩
theorem apart_snoc {l : List En} {x : En} (hl : Apart l) (h : hasE l x.a x.b = false) : Apart (l ++ [x]) := by
  unfold Apart
  rw [List.pairwise_append]
  refine ⟨hl, List.pairwise_singleton _ _, fun e he y hy hk => ?_⟩
  rw [List.mem_singleton] at hy
  subst hy
  obtain ⟨i, hi⟩ := List.mem_iff_getElem?.1 he
  rw [hasE_at hi hk] at h
  cases h
theorem mrg_apart : ∀ {m l : List En}, Apart l → ((mrgE l m).length = l.length + m.length ↔ Apart (l ++ m))
  | [], l, hl => by rw [List.append_nil]; exact ⟨fun _ => hl, fun _ => rfl⟩
  | x :: m, l, hl => by
    have e1 : mrgE l (x :: m) = mrgE (putE l x) m := rfl
    cases h : hasE l x.a x.b
    · have hp : putE l x = l ++ [x] := by unfold putE; rw [h, if_neg (by simp)]
      have ih := mrg_apart (m := m) (apart_snoc hl h)
      rw [e1, hp, show l ++ x :: m = l ++ [x] ++ m by simp, ← ih, List.length_append, List.length_cons, List.length_singleton]
      constructor <;> intro h2 <;> omega
    · have hp : putE l x = l := by unfold putE; rw [h, if_pos rfl]
      rw [e1, hp]
      have := (mrgE_len l m).2
      constructor
      · intro h2; rw [List.length_cons] at h2; omega
      · intro h2
        obtain ⟨e, he, hk⟩ := hasE_some h
        exact absurd hk ((List.pairwise_append.1 h2).2.2 e he x (List.mem_cons_self ..))
/-- Fewer keys than entries: a key is there twice. -/
theorem keys_fewer (l : List En) : (mrgE [] l).length < l.length ↔ ¬ Apart l := by
  have h := mrg_apart (m := l) (l := []) List.Pairwise.nil
  have h2 := (mrgE_len [] l).2
  rw [List.length_nil, Nat.zero_add, List.nil_append] at h
  rw [List.length_nil] at h2
  rw [← h]
  omega
/-- The reference looks for each entry's key among those ahead of it. -/
theorem ahead_apart {l : List En} : (∀ (i : Nat) (e : En), l[i]? = some e → hasE (l.take i) e.a e.b = false) ↔ Apart l := by
  constructor
  · intro h
    unfold Apart
    rw [List.pairwise_iff_getElem]
    intro i j hi hj hij hk
    have h1 := h j l[j] (List.getElem?_eq_getElem hj)
    have h2 : (l.take j)[i]? = some l[i] := by rw [List.getElem?_take, if_pos hij]; exact List.getElem?_eq_getElem hi
    rw [hasE_at h2 hk] at h1
    cases h1
  · intro h i e he
    cases hh : hasE (l.take i) e.a e.b
    · rfl
    · obtain ⟨y, hy, hk⟩ := hasE_some hh
      obtain ⟨j, hj⟩ := List.mem_iff_getElem?.1 hy
      rw [List.getElem?_take] at hj
      split at hj
      · rename_i hji
        obtain ⟨hi, rfl⟩ := List.getElem?_eq_some_iff.1 he
        obtain ⟨hj', rfl⟩ := List.getElem?_eq_some_iff.1 hj
        exact absurd hk (List.pairwise_iff_getElem.1 h j i hj' hi hji)
      · cases hj
/-- An entry that may be told. -/
def GoodE (e : En) : Prop := (e.inr ∧ e.ks.cnt + 1 ≤ 1048576) ∧ chkE e = 0
theorem okT_wf : ∀ f : Fo, f.okT → f.wf := by
  intro f
  induction f with
  | nil => intro _; trivial
  | cons k n ks r i1 i2 =>
    rintro ⟨⟨⟨h1, h2⟩, h3, h4⟩, h5, h6⟩
    exact ⟨⟨by omega, by omega⟩, ⟨by omega, by omega⟩, i1 h5, i2 h6⟩
theorem good_of {e : En} (h : chkE e = 0) : GoodE e := by
  obtain ⟨⟨ha1, ha2⟩, hb01, hck, hna⟩ := fori_zero h
  obtain ⟨hbg, hok⟩ := chk_okT hck
  have hwf := okT_wf _ hok
  have hcn : e.ks.cnt + 1 ≤ 60 := by unfold bigT at hbg; omega
  refine ⟨⟨⟨by omega, by omega, hwf.1, hwf.2.1, hwf.2.2.1⟩, by omega⟩, h⟩
/-- An entry's line, many lines, the text. -/
def lnE (e : En) : List UInt8 := lnB e.a e.b e.k e.n e.ks
def wtl : List En → List UInt8
  | [] => []
  | e :: l => lnE e ++ 10 :: wtl l
def headB : List UInt8 := [100, 117, 108, 99, 105, 109, 101, 114, 32, 49, 10]
def wtx (l : List En) : List UInt8 := headB ++ wtl l
theorem wtl_app : ∀ l m : List En, wtl (l ++ m) = wtl l ++ wtl m
  | [], m => rfl
  | e :: l, m => by rw [List.cons_append, wtl, wtl, wtl_app l m, List.append_assoc, List.cons_append]
theorem wtl_perm {l m : List En} (h : l.Perm m) : (wtl l).length = (wtl m).length := by
  induction h with
  | nil => rfl
  | cons e _ ih => simp only [wtl, List.length_append, List.length_cons, ih]
  | swap e f l => simp only [wtl, List.length_append, List.length_cons]; omega
  | trans _ _ h1 h2 => rw [h1, h2]
theorem wtl_take {l : List En} {i : Nat} {e : En} (h : l[i]? = some e) : wtl (l.take (i + 1)) = wtl (l.take i) ++ (lnE e ++ [10]) := by
  rw [List.take_add_one, h, wtl_app]; rfl
open Classical in
/-- The error of entries that are to be told. -/
noncomputable def wErr (l : List En) : Int := if badE l ≠ 0 then badE l else if ¬ Apart l then 11 else if 65536 < (wtx (sortN l)).length then 12 else 0
theorem wErr_bad {l : List En} (h : badE l ≠ 0) : wErr l = badE l := by unfold wErr; rw [if_pos h]
theorem wErr_twice {l : List En} (h : badE l = 0) (h2 : ¬ Apart l) : wErr l = 11 := by unfold wErr; rw [if_neg (by simp [h]), if_pos h2]
theorem wErr_big {l : List En} (h : badE l = 0) (h2 : Apart l) (h3 : 65536 < (wtx (sortN l)).length) : wErr l = 12 := by unfold wErr; rw [if_neg (by simp [h]), if_neg (fun x => x h2), if_pos h3]
theorem wErr_ok {l : List En} (h : badE l = 0) (h2 : Apart l) (h3 : ¬ 65536 < (wtx (sortN l)).length) : wErr l = 0 := by unfold wErr; rw [if_neg (by simp [h]), if_neg (fun x => x h2), if_neg h3]
theorem wErr_zero {l : List En} (h : wErr l = 0) : badE l = 0 ∧ Apart l ∧ (wtx (sortN l)).length ≤ 65536 := by
  unfold wErr at h
  split at h
  · rename_i h1; exact absurd h h1
  rename_i h1
  split at h
  · cases h
  rename_i h2
  split at h
  · cases h
  rename_i h3
  exact ⟨Classical.not_not.1 h1, Classical.not_not.1 h2, by omega⟩
/-- What a text's lines are from a place on: behind the entries l the entries o, or an error in line ln. -/
inductive Par (s : ByteArray) : Nat → Nat → List En → List En → Nat → Int → Prop
  | fin {p n : Nat} {l : List En} : s.size ≤ p → Par s p n l l 0 0
  | opn {p n : Nat} {l : List En} : p < s.size → Nof s p → Par s p n l [] n 10
  | bad {p n i : Nat} {l : List En} : p < s.size → Fst s p i → ecode (s.extract p i) ≠ 0 → Par s p n l [] n (ecode (s.extract p i))
  | twc {p n i : Nat} {l : List En} {a b k m : Int} {ks : Fo} : p < s.size → Fst s p i → ecode (s.extract p i) = 0 → Ent (s.extract p i) a b k m ks → hasE l a b = true → Par s p n l [] n 11
  | go {p n i : Nat} {l : List En} {a b k m : Int} {ks : Fo} {o : List En} {ln : Nat} {e : Int} : p < s.size → Fst s p i → ecode (s.extract p i) = 0 → Ent (s.extract p i) a b k m ks → hasE l a b = false → Par s (i + 1) (n + 1) (l ++ [⟨a, b, k, m, ks⟩]) o ln e → Par s p n l o ln e
theorem Par.uniq {s : ByteArray} {p n : Nat} {l o : List En} {ln : Nat} {e : Int} (h : Par s p n l o ln e) : ∀ {o' : List En} {ln' : Nat} {e' : Int}, Par s p n l o' ln' e' → o = o' ∧ ln = ln' ∧ e = e' := by
  induction h with
  | fin h =>
    intro o' ln' e' g
    cases g with
    | fin _ => exact ⟨rfl, rfl, rfl⟩
    | opn g _ => omega
    | bad g _ _ => omega
    | twc g _ _ _ _ => omega
    | go g _ _ _ _ _ => omega
  | opn h hn =>
    intro o' ln' e' g
    cases g with
    | fin g => omega
    | opn _ _ => exact ⟨rfl, rfl, rfl⟩
    | bad _ g _ => exact (g.not hn).elim
    | twc _ g _ _ _ => exact (g.not hn).elim
    | go _ g _ _ _ _ => exact (g.not hn).elim
  | bad h hf hc =>
    intro o' ln' e' g
    cases g with
    | fin g => omega
    | opn _ g => exact (hf.not g).elim
    | bad _ g _ => obtain rfl := hf.uniq g; exact ⟨rfl, rfl, rfl⟩
    | twc _ g g2 _ _ => obtain rfl := hf.uniq g; exact absurd g2 hc
    | go _ g g2 _ _ _ => obtain rfl := hf.uniq g; exact absurd g2 hc
  | twc h hf hc he hh =>
    intro o' ln' e' g
    cases g with
    | fin g => omega
    | opn _ g => exact (hf.not g).elim
    | bad _ g g2 => obtain rfl := hf.uniq g; exact absurd hc g2
    | twc _ g _ _ _ => exact ⟨rfl, rfl, rfl⟩
    | go _ g _ g3 g4 _ =>
      obtain rfl := hf.uniq g
      obtain ⟨rfl, rfl, rfl, rfl, rfl⟩ := he.uniq g3
      rw [hh] at g4; cases g4
  | go h hf hc he hh _ ih =>
    intro o' ln' e' g
    cases g with
    | fin g => omega
    | opn _ g => exact (hf.not g).elim
    | bad _ g g2 => obtain rfl := hf.uniq g; exact absurd hc g2
    | twc _ g _ g3 g4 =>
      obtain rfl := hf.uniq g
      obtain ⟨rfl, rfl, rfl, rfl, rfl⟩ := he.uniq g3
      rw [hh] at g4; cases g4
    | go _ g _ g3 g4 g5 =>
      obtain rfl := hf.uniq g
      obtain ⟨rfl, rfl, rfl, rfl, rfl⟩ := he.uniq g3
      exact ih g5
/-- A line that ends. -/
theorem fst_drop {s : ByteArray} {p i : Nat} (h : Fst s p i) : s.data.toList.drop p = (s.extract p i).data.toList ++ 10 :: s.data.toList.drop (i + 1) := by
  have h1 := (bt10 h.2.2.1).1 h.2.2.2.1
  have hp : p ≤ i := by have := h.2.1; omega
  have hl := Lib.size_eq s
  rw [Lib.extract_data]
  have e1 : s.data.toList.drop i = 10 :: s.data.toList.drop (i + 1) := by
    obtain ⟨h2, h3⟩ := List.getElem?_eq_some_iff.1 h1
    rw [List.drop_eq_getElem_cons h2, h3]
  rw [← e1]
  have e2 : s.data.toList.drop i = (s.data.toList.drop p).drop (i - p) := by rw [List.drop_drop]; congr 1; omega
  rw [e2]
  exact (List.take_append_drop _ _).symm
theorem Ent.chkE {s : ByteArray} {a b k m : Int} {ks : Fo} (h : Ent s a b k m ks) : chkE ⟨a, b, k, m, ks⟩ = 0 := h.f
/-- Where nothing is at fault: the entries behind, and their lines. -/
theorem Par.done {s : ByteArray} {p n : Nat} {l o : List En} {ln : Nat} {e : Int} (h : Par s p n l o ln e) : (e = 0 → ln = 0 ∧ (Apart l → Apart o) ∧ ∃ m, o = l ++ m ∧ s.data.toList.drop p = wtl m ∧ ∀ x ∈ m, GoodE x) ∧ (e ≠ 0 → o = []) := by
  induction h with
  | fin h => exact ⟨fun _ => ⟨rfl, id, [], by rw [List.append_nil], List.drop_eq_nil_of_le (by rw [← Lib.size_eq]; exact h), fun x hx => by cases hx⟩, fun h => absurd rfl h⟩
  | opn _ _ => exact ⟨fun h => absurd h (by decide), fun _ => rfl⟩
  | bad _ _ hc => exact ⟨fun h => absurd h hc, fun _ => rfl⟩
  | twc _ _ _ _ _ => exact ⟨fun h => absurd h (by decide), fun _ => rfl⟩
  | go h hf hc he hh _ ih =>
    refine ⟨fun e0 => ?_, ih.2⟩
    obtain ⟨h1, h2, m, h3, h4, h5⟩ := ih.1 e0
    refine ⟨h1, fun ha => h2 (apart_snoc ha hh), _ :: m, by rw [h3, List.append_assoc]; rfl, ?_, ?_⟩
    · rw [fst_drop hf, h4, ← he.line]; rfl
    · intro x hx
      rcases List.mem_cons.1 hx with rfl | hx
      · exact good_of he.chkE
      · exact h5 x hx
theorem Par.len {s : ByteArray} {p n : Nat} {l o : List En} {ln : Nat} {e : Int} (h : Par s p n l o ln e) : o.length ≤ l.length + (s.size - p) := by
  induction h with
  | fin _ => omega
  | opn _ _ => simp
  | bad _ _ _ => simp
  | twc _ _ _ _ _ => simp
  | go h hf _ _ _ _ ih => have := hf.2.1; have := hf.2.2.1; rw [List.length_append, List.length_singleton] at ih; omega
theorem lnB_no10 {a b k n : Int} {ks : Fo} (hok : (Fo.cons k n ks .nil).okT) : ∀ x ∈ lnB a b k n ks, x.toNat ≠ 10 := by
  intro x hx
  have gd : gdB x → x.toNat ≠ 10 := fun h => by have := of_decide_eq_true h.1; omega
  unfold lnB at hx
  rcases List.mem_append.1 hx with hx | hx
  · exact gd (dec_gd _ x hx)
  rcases List.mem_cons.1 hx with rfl | hx
  · decide
  rcases List.mem_append.1 hx with hx | hx
  · exact gd (dec_gd _ x hx)
  rcases List.mem_cons.1 hx with rfl | hx
  · decide
  · exact gd (txB_gd _ hok x hx)
/-- Lines of good entries are read as these. -/
theorem Par.of_lines {s : ByteArray} : ∀ {m : List En} {p n : Nat} {l : List En}, p ≤ s.size → s.data.toList.drop p = wtl m → (∀ x ∈ m, GoodE x) → Apart (l ++ m) → Par s p n l (l ++ m) 0 0
  | [], p, n, l, hp, h, _, _ => by
    rw [List.append_nil]
    refine Par.fin ?_
    have := congrArg List.length h
    rw [List.length_drop, ← Lib.size_eq] at this
    simp [wtl] at this
    omega
  | e :: m, p, n, l, hp, h, hg, ha => by
    have hl := congrArg List.length h
    rw [List.length_drop, ← Lib.size_eq] at hl
    have hw : (wtl (e :: m)).length = (lnE e).length + ((wtl m).length + 1) := by rw [wtl, List.length_append, List.length_cons]
    have hlt : p < s.size := by omega
    obtain ⟨i, hi⟩ : ∃ i, i = p + (lnE e).length := ⟨_, rfl⟩
    have hge := hg e (List.mem_cons_self ..)
    obtain ⟨hbg, hok⟩ := chk_okT (fori_zero hge.2).2.2.1
    have hat : ∀ j, s.data.toList[p + j]? = (wtl (e :: m))[j]? := fun j => by rw [← h, List.getElem?_drop]
    have hF : Fst s p i := by
      refine ⟨by omega, by omega, by omega, (bt10 (by omega)).2 ?_, fun j h1 h2 h3 => ?_⟩
      · rw [hi, hat, wtl, List.getElem?_append_right (Nat.le_refl _), Nat.sub_self]; rfl
      · have h4 := (bt10 (by omega)).1 h3
        rw [show j = p + (j - p) by omega, hat, wtl, List.getElem?_append_left (by omega)] at h4
        exact lnB_no10 hok _ (List.mem_of_getElem? h4) rfl
    have hx : (s.extract p i).data.toList = lnE e := by
      rw [Lib.extract_data, h, wtl, show i - p = (lnE e).length by omega, List.take_left]
    obtain ⟨h1, h2, _⟩ := ln_ent hx hge.2
    have hh : hasE l e.a e.b = false := by
      refine hasE_not (fun j y hj hy => ?_)
      exact (List.pairwise_append.1 ha).2.2 y (List.mem_of_getElem? hj) e (List.mem_cons_self ..) hy
    refine Par.go hlt hF h2 h1 hh ?_
    have h3 : s.data.toList.drop (i + 1) = wtl m := by
      have := fst_drop hF
      rw [h, hx, wtl] at this
      have := List.append_cancel_left this
      simpa using this.symm
    have := Par.of_lines (m := m) (p := i + 1) (n := n + 1) (l := l ++ [e]) (by have := hF.2.2.1; omega) h3 (fun x hx => hg x (List.mem_cons_of_mem _ hx)) (by rw [List.append_assoc]; exact ha)
    rw [List.append_assoc] at this
    exact this
/-- A text whole: what it is read as. -/
def Hd (s : ByteArray) : Prop := s.data.toList.take 11 = headB
def WPar (s : ByteArray) (o : List En) (ln : Nat) (e : Int) : Prop := (65536 < s.size ∧ o = [] ∧ ln = 0 ∧ e = 12) ∨ (s.size ≤ 65536 ∧ ¬ Hd s ∧ o = [] ∧ ln = 1 ∧ e = 9) ∨ (s.size ≤ 65536 ∧ Hd s ∧ Par s 11 2 [] o ln e)
theorem Hd.size {s : ByteArray} (h : Hd s) : 11 ≤ s.size := by
  have := congrArg List.length h
  rw [List.length_take, ← Lib.size_eq] at this
  simp [headB] at this
  omega
theorem WPar.uniq {s : ByteArray} {o o' : List En} {ln ln' : Nat} {e e' : Int} (h : WPar s o ln e) (g : WPar s o' ln' e') : o = o' ∧ ln = ln' ∧ e = e' := by
  rcases h with ⟨h1, rfl, rfl, rfl⟩ | ⟨h1, h2, rfl, rfl, rfl⟩ | ⟨h1, h2, h3⟩
  · rcases g with ⟨_, rfl, rfl, rfl⟩ | ⟨g1, _⟩ | ⟨g1, _⟩
    · exact ⟨rfl, rfl, rfl⟩
    · omega
    · omega
  · rcases g with ⟨g1, _⟩ | ⟨_, _, rfl, rfl, rfl⟩ | ⟨_, g2, _⟩
    · omega
    · exact ⟨rfl, rfl, rfl⟩
    · exact absurd g2 h2
  · rcases g with ⟨g1, _⟩ | ⟨_, g2, _⟩ | ⟨_, _, g3⟩
    · omega
    · exact absurd h2 g2
    · exact h3.uniq g3
theorem WPar.good {s : ByteArray} {o : List En} {ln : Nat} (h : WPar s o ln 0) : ln = 0 ∧ Apart o ∧ (∀ x ∈ o, GoodE x) ∧ s.data.toList = wtx o ∧ s.size ≤ 65536 := by
  rcases h with ⟨_, _, _, h⟩ | ⟨_, _, _, _, h⟩ | ⟨h1, h2, h3⟩
  · cases h
  · cases h
  · obtain ⟨h4, h5, m, hm, h6, h7⟩ := h3.done.1 rfl
    rw [List.nil_append] at hm
    subst hm
    refine ⟨h4, h5 List.Pairwise.nil, h7, ?_, h1⟩
    have h8 : s.data.toList.take 11 = headB := h2
    rw [wtx, ← h6, ← h8]
    exact (List.take_append_drop 11 _).symm
theorem WPar.none {s : ByteArray} {o : List En} {ln : Nat} {e : Int} (h : WPar s o ln e) (h0 : e ≠ 0) : o = [] := by
  rcases h with ⟨_, h, _, _⟩ | ⟨_, _, h, _, _⟩ | ⟨h1, h2, h3⟩
  · exact h
  · exact h
  · exact h3.done.2 h0
theorem WPar.len {s : ByteArray} {o : List En} {ln : Nat} {e : Int} (h : WPar s o ln e) : o.length ≤ s.size := by
  rcases h with ⟨_, rfl, _, _⟩ | ⟨_, _, rfl, _, _⟩ | ⟨h1, h2, h3⟩
  · simp
  · simp
  · have := h3.len; rw [List.length_nil] at this; omega
/-- A text of good entries is read as these. -/
theorem WPar.of_text {s : ByteArray} {l : List En} (h : s.data.toList = wtx l) (hg : ∀ x ∈ l, GoodE x) (ha : Apart l) (hz : s.size ≤ 65536) : WPar s l 0 0 := by
  have hh : headB.length = 11 := rfl
  have hd : Hd s := by unfold Hd; rw [h, wtx, ← hh, List.take_left]
  have := Par.of_lines (s := s) (m := l) (p := 11) (n := 2) (l := []) hd.size (by rw [h, wtx, ← hh, List.drop_left]) hg ha
  exact .inr (.inr ⟨hz, hd, this⟩)
end Go.Proofs.YtafmiilkdhdngaaGreatDoor
/- Rows of entries in known blocks; a copied tree lies in one block. -/
namespace Go.Proofs.YtafmiilkdhdngaaGreatDoor
open Go.ChangeShapes Go.WideShapes Go.ChangeAt Go.RowKit
set_option linter.unusedVariables false
set_option linter.unusedSimpArgs false
/-- A row of entries in the blocks S. -/
def RowS (w : World) (S : Nat → Prop) (v : Value) (l : List En) : Prop := ∃ p c, v = .slice p l.length c ∧ l.length ≤ c ∧ c ≤ maxLen ∧ ∀ (i : Nat) (e : En), l[i]? = some e → ∃ b o, p = some ⟨b, o, none⟩ ∧ S b ∧ ∃ s, w.cell? ⟨b, o + i * 5, none⟩ = some (.int .i64 e.a) ∧ w.cell? ⟨b, o + i * 5 + 1, none⟩ = some (.int .i64 e.b) ∧ w.cell? ⟨b, o + i * 5 + 2, none⟩ = some (.int .i64 e.k) ∧ w.cell? ⟨b, o + i * 5 + 3, none⟩ = some (.int .i64 e.n) ∧ w.cell? ⟨b, o + i * 5 + 4, none⟩ = some s ∧ KidsS w S s e.ks
theorem RowS.form {w : World} {S : Nat → Prop} {v : Value} {l : List En} (h : RowS w S v l) : ∃ p c, v = .slice p l.length c ∧ l.length ≤ c ∧ c ≤ maxLen := by
  obtain ⟨p, c, h1, h2, h3, _⟩ := h
  exact ⟨p, c, h1, h2, h3⟩
theorem RowS.get {w : World} {S : Nat → Prop} {p : Option Addr} {m c : Nat} {l : List En} (h : RowS w S (.slice p m c) l) {i : Nat} {e : En} (he : l[i]? = some e) : ∃ b o, p = some ⟨b, o, none⟩ ∧ S b ∧ ∃ s, w.cell? ⟨b, o + i * 5, none⟩ = some (.int .i64 e.a) ∧ w.cell? ⟨b, o + i * 5 + 1, none⟩ = some (.int .i64 e.b) ∧ w.cell? ⟨b, o + i * 5 + 2, none⟩ = some (.int .i64 e.k) ∧ w.cell? ⟨b, o + i * 5 + 3, none⟩ = some (.int .i64 e.n) ∧ w.cell? ⟨b, o + i * 5 + 4, none⟩ = some s ∧ KidsS w S s e.ks := by
  obtain ⟨p', c', h1, _, _, h4⟩ := h
  simp only [Value.slice.injEq] at h1
  obtain ⟨rfl, _, _⟩ := h1
  exact h4 i e he
theorem RowS.carry {w w' : World} {S S' : Nat → Prop} {v : Value} {l : List En} (h : RowS w S v l) (hS : ∀ b, S b → S' b ∧ w'.heap[b]? = w.heap[b]?) : RowS w' S' v l := by
  obtain ⟨p, c, h1, h2, h3, h4⟩ := h
  refine ⟨p, c, h1, h2, h3, fun i e he => ?_⟩
  obtain ⟨b, o, hp, hb, s, c0, c1, c2, c3, c4, hk⟩ := h4 i e he
  have hw := (hS b hb).2
  exact ⟨b, o, hp, (hS b hb).1, s, (World.cell?_of_block (a := ⟨b, _, none⟩) hw).trans c0, (World.cell?_of_block (a := ⟨b, _, none⟩) hw).trans c1, (World.cell?_of_block (a := ⟨b, _, none⟩) hw).trans c2, (World.cell?_of_block (a := ⟨b, _, none⟩) hw).trans c3, (World.cell?_of_block (a := ⟨b, _, none⟩) hw).trans c4, hk.carry hS⟩
theorem RowS.of {w : World} {lim : Nat} {v : Value} {l : List En} (h : RowN w lim v l) : RowS w (fun b => b < lim) v l := by
  obtain ⟨p, c, rfl, h2, h3⟩ := h.form
  refine ⟨p, c, rfl, h2, h3, fun i e he => ?_⟩
  obtain ⟨b, o, hp, hb, s, c0, c1, c2, c3, c4, hk⟩ := h.get he
  exact ⟨b, o, hp, hb, s, c0, c1, c2, c3, c4, KidsS.of hk⟩
theorem RowS.toN {w : World} {S : Nat → Prop} {lim : Nat} {v : Value} {l : List En} (h : RowS w S v l) (hS : ∀ b, S b → b < lim) : RowN w lim v l := by
  obtain ⟨p, c, h1, h2, h3, h4⟩ := h
  refine ⟨p, c, h1, h2, h3, fun i e he => ?_⟩
  obtain ⟨b, o, hp, hb, s, c0, c1, c2, c3, c4, hk⟩ := h4 i e he
  exact ⟨b, o, hp, hS b hb, s, c0, c1, c2, c3, c4, hk.to hS⟩
theorem kidv_kidsS {w : World} {S : Nat → Prop} {F s : Nat} {f : Fo} (hm : f.len ≤ maxLen) (h : f.AtS w S F (s * 3)) : KidsS w S (kidv F s f.len) f := by
  cases hf : f.len with
  | zero => exact ⟨none, 0, by rw [hf]; rfl, by omega, by unfold maxLen; omega, .inl hf⟩
  | succ l => exact ⟨some ⟨F, s * 3, none⟩, l + 1, by rw [hf]; rfl, by omega, by omega, .inr ⟨F, s * 3, rfl, h⟩⟩
theorem laid_atS {w : World} {S : Nat → Prop} {F m : Nat} {q : List Nd} (hF : S F) (hL : Laid w F m q (fun _ => True)) (hf : Full m q) : ∀ (f : Fo) (s : Nat), Ly q f s → f.AtS w S F (s * 3)
  | .nil, _, _ => trivial
  | .cons k n ks r, s, h => by
    have h0 : q[s]? = some ⟨k, n, ks⟩ := h 0 (Nat.succ_pos _)
    obtain ⟨c0, c1, c2⟩ := hL s _ trivial h0
    obtain ⟨l1, l2⟩ := hf s _ h0
    obtain ⟨a, c, e, g1, g2, g3⟩ := kidv_kidsS l2 (laid_atS hF hL hf ks (pos m q s) l1)
    have hr := laid_atS hF hL hf r (s + 1) h.tail
    rw [show (s + 1) * 3 = s * 3 + 3 by omega] at hr
    exact ⟨hF, c0, c1, ⟨a, c, c2.trans (congrArg some e), g1, g2, g3⟩, hr⟩
theorem Cloned.kidsS {w : World} {S : Nat → Prop} {F : Nat} {f : Fo} {q : List Nd} (h : Cloned w F f q) (hF : S F) (hC : f.cnt ≤ 1048576) : KidsS w S (kidv F 0 f.len) f := by
  have h1 := h.top.len
  have h2 := h.len
  have := laid_atS hF h.laid h.full f 0 h.top
  exact kidv_kidsS (by unfold maxLen; omega) this
theorem ClP.kidsS {w : World} {g : Nat} {p : P6} (h : ClP w g p) : KidsS w (fun b => g ≤ b ∧ b < w.heap.size) p.v p.ks := by
  obtain ⟨F, q, hv, hC, hg, hc⟩ := h
  rw [hv]
  exact hC.kidsS ⟨by omega, hC.blk⟩ hc
theorem row_ofS {w : World} {g c : Nat} {S : Nat → Prop} {T : TypeId} {ps : List P6} (h : RowE w g T (ps.map P6.e)) (hg : S g) (hk : ∀ p ∈ ps, KidsS w S p.v p.ks) (hc : ps.length ≤ c ∧ c ≤ maxLen) : RowS w S (.slice (some ⟨g, 0, none⟩) ps.length c) (ps.map P6.x) := by
  refine ⟨_, c, by rw [List.length_map], by rw [List.length_map]; exact hc.1, hc.2, fun i e he => ⟨g, 0, rfl, hg, ?_⟩⟩
  rw [List.getElem?_map] at he
  obtain ⟨q, hq, rfl⟩ := Option.map_eq_some_iff.1 he
  have hc := h.cells (i := i) (e := q.e) (by rw [List.getElem?_map, hq]; rfl)
  rw [Nat.zero_add]
  exact ⟨q.v, hc.1, hc.2.1, hc.2.2.1, hc.2.2.2.1, hc.2.2.2.2, hk q (List.mem_of_getElem? hq)⟩
end Go.Proofs.YtafmiilkdhdngaaGreatDoor
