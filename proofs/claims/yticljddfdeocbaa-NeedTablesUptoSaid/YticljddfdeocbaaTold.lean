/- Package need's Tables: what is told is gathered, each just once. -/
import Derived.Test.YticljddfdeocbaaOnce
import Derived.RegionTactic
namespace Go.Proofs.Yticljddfdeocbaa
open Go.ChangeShapes Go.WideShapes Go.ChangeAt Go.RowKit
set_option linter.unusedVariables false
open Go.WideMaps Go.MapKept Go.WideElems Go.ChangeMaps
theorem laid_prog : laidOutB Try.prog = true := by kernel_rfl
theorem name_law : KeyLaw Try.prog 54 := deep_law_laid laid_prog (m := 10) (by decide) (of_decide_eq_true (by kernel_rfl)) (by kernel_rfl) (by kernel_rfl)
theorem zero_int (u : World) : (zeroValue 3).run Try.prog u = .ok (.int .i64 0) u := by kernel_rfl
/-- A row of names of the call's own. -/
def OwnNm (w : World) (B : Nat) (v : Value) (l : List Nam) : Prop := w.ownsRow B 54 4 v l.length (l.flatMap Nam.cells)
theorem info_name : (Try.prog.info? 54).map (fun i => (i.zero.map (fun z => z.cells.size), i.size, i.bytes)) = some (some 4, 4, 32) := by kernel_rfl
theorem append_nm {ops : Array Oper} {rest : List Oper} {o : Oper} {a : Act} {Q : Exit → Act → World → Prop} {W : World} {B : Nat} {v : Value} {l : List Nam} {x : Nam} (hgd : o.guard = none) (s y : Operand)
    (ho : o.op = .call { callee := .builtin .append, args := #[s, y], argTypes := #[59, 59] }) (hs : a.eval s = v) (hown : OwnNm W B v l) (hx : a.eval y = .slice (some ⟨W.heap.size, 0, none⟩) 1 1) (hB : B ≤ W.heap.size) (hn : l.length < 8388608)
    (h : ∀ v' w', OwnNm w' B v' (l ++ [x]) → Below B W w' → (∀ X, X < W.heap.size → v.ownBlock ≠ some X → w'.heap[X]? = W.heap[X]?) → (∀ X, v'.ownBlock = some X → v.ownBlock = some X ∨ W.heap.size ≤ X) → wpList Try.prog ops Q rest (a.put o.dst v') w') : wpList Try.prog ops Q (o :: rest) a (W.alloc (.cells #[.int .i64 x.k, .int .i64 x.n, .int .i64 x.m, .int .i64 x.d] 54)) := by
  obtain ⟨i0, hi⟩ : ∃ i, Try.prog.info? 54 = some i := by
    cases h0 : Try.prog.info? 54 with
    | none => have := info_name; rw [h0] at this; cases this
    | some i => exact ⟨i, rfl⟩
  have h1 := info_name
  rw [hi] at h1
  simp only [Option.map_some, Option.some.injEq, Prod.mk.injEq] at h1
  obtain ⟨hz, hsz, hby⟩ := h1
  obtain ⟨z, hz1, hz2⟩ : ∃ z, i0.zero = some z ∧ z.cells.size = 4 := by
    cases h0 : i0.zero with
    | none => rw [h0] at hz; cases hz
    | some z => rw [h0] at hz; simp at hz; exact ⟨z, rfl, hz⟩
  refine wpList_append_lies _ hgd s y 59 ho B 54 i0 z 4 32 Try.underlying59 hi hz1 hsz hby hz2 (by decide) v l.length (l.flatMap Nam.cells) hs (World.ownsRow.alloc hown _) ⟨W.heap.size, 0, none⟩ 1 1 x.cells hx rfl ?_ ?_ (by decide) ?_ ?_ (by simp; omega) _ rfl ?_
  · intro j u hj
    exact World.news_of_block (heap_alloc_new W (.cells #[.int .i64 x.k, .int .i64 x.n, .int .i64 x.m, .int .i64 x.d] 54)) j u hj
  · intro u hu
    simp [Nam.cells] at hu
    rcases hu with rfl | rfl | rfl | rfl <;> rfl
  · unfold maxLen; omega
  · omega
  · intro g cap w' h2 h3 h4 _
    refine h _ w' ?_ (((Below.refl _ _).alloc hB _).grown h3 (by simp; omega) (fun i hi => (World.ownsRow.lt hown i hi).1)) (fun X hX hne => (h3.block X (by simp; omega) (fun e => hne e.symm)).trans (Below.heap_alloc _ _ _ hX)) (fun X hX => ?_)
    · unfold OwnNm
      rw [List.length_append, List.flatMap_append]
      simpa using h2
    · simp only [Value.ownBlock, Option.some.injEq] at hX
      subst hX
      rcases h4 with h4 | h4
      · exact .inl h4
      · right; simp at h4; omega
theorem OwnNm.below {w w' : World} {B : Nat} {v : Value} {l : List Nam} (h : OwnNm w B v l) (hb : Below w.heap.size w w') : OwnNm w' B v l :=
  World.ownsRow.kept h (row := none) ⟨hb.os, hb.tape, hb.output, hb.size, fun i hi _ => hb.block i hi⟩ (by
    by_cases hn : v.ownBlock = none
    · exact .inl hn
    · exact .inr hn)
theorem OwnNm.setCell {w : World} {B Q : Nat} {v : Value} {l : List Nam} (h : OwnNm w B v l) (hQ : Q < B) (u : Value) : OwnNm (w.setCell ⟨Q, 0, none⟩ u) B v l := ownsRow_setCell_below h hQ u
theorem OwnNm.kind {w : World} {B : Nat} {v : Value} {l : List Nam} (h : OwnNm w B v l) : (v = .slice none 0 0 ∧ l = []) ∨ ∃ g c, v = .slice (some ⟨g, 0, none⟩) l.length c := by
  obtain ⟨hl, h | ⟨g, cap, cur, rfl, hb, hh, hn, hm, hs, ht⟩⟩ := h
  · exact .inl ⟨h.1, List.length_eq_zero_iff.1 h.2⟩
  · exact .inr ⟨g, cap, rfl⟩
/-- The entries, of what was told. -/
def ents (L : List Nam) : Array MapEntry := (entsA (fun y => ntimes y L) 0 (once L)).toArray
theorem Nam.val_inj {a b : Nam} (h : a.val = b.val) : a = b := by
  obtain ⟨k, n, m, d⟩ := a
  obtain ⟨k', n', m', d'⟩ := b
  simp only [Nam.val, Value.agg.injEq, Array.mk.injEq, List.cons.injEq, Value.int.injEq, true_and, and_true] at h
  simpa using h
/-- What Tables keeps: the map, and the names, each just once. -/
def InvB (lim Tc Lc Mb B : Nat) (L : List Nam) (O : Nat → Prop) (w : World) : Prop := ∃ s, Bx w Tc 87 (.map (some Mb)) ∧ w.heap[Mb]? = some (.map (ents L) (once L).length) ∧ Bx w Lc 59 s ∧ OwnNm w B s (once L) ∧
  (lim ≤ Tc ∧ lim ≤ Lc ∧ lim ≤ Mb ∧ Tc ≠ Lc ∧ Tc ≠ Mb ∧ Lc ≠ Mb ∧ Tc < B ∧ Lc < B ∧ Mb < B ∧ B ≤ w.heap.size) ∧ ∀ X, O X ↔ X = Mb ∨ X = Lc ∨ s.ownBlock = some X
theorem keyLits_i64 {d : Nat} {t : TypeId} {n : Int} (hu : Try.prog.underlying t = some (.int .i64)) (hn : -9223372036854775808 ≤ n ∧ n ≤ 9223372036854775807) : Try.prog.keyLits (d + 1) t [.int .i64 n] = some [.int .i64 n] := by
  have hw : (Lit.int .i64 n).wf = true := by simp [Lit.wf, IntKind.min, IntKind.max, IntKind.signed, IntKind.bits]; omega
  unfold Program.keyLits
  rw [hu]
  simp [hw]
theorem name_key (x : Nam) (h : (-9223372036854775808 ≤ x.k ∧ x.k ≤ 9223372036854775807) ∧ (-9223372036854775808 ≤ x.n ∧ x.n ≤ 9223372036854775807) ∧ (-9223372036854775808 ≤ x.m ∧ x.m ≤ 9223372036854775807) ∧ (-9223372036854775808 ≤ x.d ∧ x.d ≤ 9223372036854775807)) : ∃ l, keyOf Try.prog 54 x.val = some l := by
  have hk : Try.prog.keyType 54 = true := by kernel_rfl
  have hc : Try.prog.cellsOf 54 = 4 := by kernel_rfl
  have hi : Try.prog.cellsOf 3 = 1 := by kernel_rfl
  obtain ⟨m, hm⟩ : ∃ m, Try.prog.types.size = m + 1 := ⟨Try.prog.types.size - 1, by have : 0 < Try.prog.types.size := of_decide_eq_true (by kernel_rfl); omega⟩
  obtain ⟨h1, h2, h3, h4⟩ := h
  have k1 := keyLits_i64 (d := m) Try.underlying3 h1
  have k2 := keyLits_i64 (d := m) Try.underlying3 h2
  have k3 := keyLits_i64 (d := m) Try.underlying3 h3
  have k4 := keyLits_i64 (d := m) Try.underlying3 h4
  have hf : (x.val).formed Try.prog 54 = true := by
    unfold Nam.val Value.formed
    simp [Try.underlying54, hc]
  have hL : Try.prog.keyLits (Try.prog.types.size + 1) 54 x.val.cells.toList = some [.int .i64 x.k, .int .i64 x.n, .int .i64 x.m, .int .i64 x.d] := by
    rw [hm]
    unfold Program.keyLits
    rw [Try.underlying54]
    simp [Nam.val, Value.cells, hc, hi, k1, k2, k3, k4]
  refine ⟨.string (keyBytes [.int .i64 x.k, .int .i64 x.n, .int .i64 x.m, .int .i64 x.d]), ?_⟩
  unfold keyOf
  rw [Try.underlying54]
  simp only [hk, hf, hL, Bool.and_self, if_true, Option.map_some]
/-- All numbers of a name are in order. -/
def Nam.wf (x : Nam) : Prop := (-9223372036854775808 ≤ x.k ∧ x.k ≤ 9223372036854775807) ∧ (-9223372036854775808 ≤ x.n ∧ x.n ≤ 9223372036854775807) ∧ (-9223372036854775808 ≤ x.m ∧ x.m ≤ 9223372036854775807) ∧ (-9223372036854775808 ≤ x.d ∧ x.d ≤ 9223372036854775807)
theorem ents_len (L : List Nam) : (ents L).size = (once L).length := by unfold ents; simp [entsA_len]
/-- At a name that was not told yet. -/
theorem ents_gone {L : List Nam} {x : Nam} (h : x ∉ L) : ((ents L).push ⟨x.val, .int .i64 1, (once L).length⟩) = ents (L ++ [x]) ∧ (once (L ++ [x])).length = (once L).length + 1 := by
  have ho : x ∉ once L := fun hx => h ((once_mem L x).1 hx)
  have hs : once (L ++ [x]) = once L ++ [x] := by rw [once_snoc, if_neg ho]
  refine ⟨?_, by rw [hs]; simp⟩
  apply Array.ext'
  unfold ents
  rw [hs, Array.toList_push, entsA_snoc]
  simp only [List.toList_toArray]
  congr 1
  · refine entsA_congr _ _ 0 (once L) (fun y hy => ?_)
    have hne : ¬ x = y := fun e => ho (e ▸ hy)
    rw [ntimes_snoc, if_neg hne]; omega
  · congr 1
    rw [ntimes_snoc, if_pos rfl, (ntimes_zero x L).2 h]
    simp
/-- At a name that was told. -/
theorem ents_there {L : List Nam} {x : Nam} {j : Nat} (hj : j < (once L).length) (hx : (once L)[j] = x) : (ents L).modify j (fun e => { e with val := .int .i64 ((ntimes x L : Nat) + 1) }) = ents (L ++ [x]) ∧ once (L ++ [x]) = once L := by
  have ho : x ∈ once L := hx ▸ List.getElem_mem hj
  have hs : once (L ++ [x]) = once L := by rw [once_snoc, if_pos ho]
  refine ⟨?_, hs⟩
  apply Array.ext'
  unfold ents
  rw [hs, Array.toList_modify]
  simp only [List.toList_toArray]
  have hm := entsA_modify (fun y => ntimes y L) (fun y => ntimes y (L ++ [x])) 0 (once L) j hj (fun k hk hne => by
    have hne2 : ¬ x = (once L)[k] := fun e => hne ((List.getElem_inj (once_nodup L)).1 (hx.trans e)).symm
    rw [ntimes_snoc, if_neg hne2]; omega)
  rw [← hm, hx, ntimes_snoc, if_pos rfl]
  simp
theorem ents_keys {L : List Nam} (hw : ∀ y ∈ L, y.wf) : ∀ e ∈ (ents L).toList, ∃ l, keyOf Try.prog 54 e.key = some l := by
  intro e he
  obtain ⟨y, hy, h2⟩ := entsA_mem _ _ _ e (by simpa [ents] using he)
  rw [h2]
  exact name_key y (hw y ((once_mem L y).1 hy))
theorem gone_run {L : List Nam} {x : Nam} (hw : ∀ y ∈ L, y.wf) (hx : x.wf) (h : x ∉ L) (u : World) (b : Nat) (hb : u.heap[b]? = some (.map (ents L) (once L).length)) :
    (Instr.lookup 87 (.map (some b)) x.val false).run Try.prog u = .ok (.int .i64 0) u ∧
    (Instr.mapEntry 87 (.map (some b)) x.val).run Try.prog u = .ok (.tuple #[.int .i64 0, goInt (once L).length]) (setBlock u b (.map ((ents L).push ⟨x.val, .int .i64 0, (once L).length⟩) ((once L).length + 1))) := by
  obtain ⟨l, hl⟩ := name_key x hx
  exact key_gone name_law Try.underlying87 zero_int hb (ents_keys hw) hl (fun e he h2 => by
    obtain ⟨y, hy, h3⟩ := entsA_mem _ _ _ e (by simpa [ents] using he)
    rw [h3] at h2
    exact h ((once_mem L x).1 (Nam.val_inj h2 ▸ hy)))
theorem pushed_run {L : List Nam} {x : Nam} (hw : ∀ y ∈ L, y.wf) (hx : x.wf) (h : x ∉ L) (u : World) (b : Nat) (hb : u.heap[b]? = some (.map ((ents L).push ⟨x.val, .int .i64 0, (once L).length⟩) ((once L).length + 1))) :
    (Instr.lookup 87 (.map (some b)) x.val false).run Try.prog u = .ok (.int .i64 0) u ∧
    (Instr.entryStore 87 (.map (some b)) (goInt (once L).length) (.int .i64 1)).run Try.prog u = .ok () (setBlock u b (.map (ents (L ++ [x])) (once (L ++ [x])).length)) := by
  obtain ⟨l, hl⟩ := name_key x hx
  have hlen : (ents L).toList.length = (once L).length := by rw [Array.length_toList, ents_len]
  have hbn := entsA_born (fun y => ntimes y L) 0 (once L)
  have hnd : (((ents L).push ⟨x.val, .int .i64 0, (once L).length⟩).toList.map (·.born)).Nodup := by
    rw [Array.toList_push, List.map_append]
    refine List.nodup_append.2 ⟨by simpa [ents] using hbn.2, by simp, fun a ha c hc e => ?_⟩
    simp only [List.map_cons, List.map_nil, List.mem_singleton] at hc
    obtain ⟨y, hy, rfl⟩ := List.mem_map.1 ha
    obtain ⟨i, hi, h3⟩ := List.getElem_of_mem hy
    have hi2 : i < (once L).length := by rw [← hlen]; exact hi
    have h4 := entsA_get (fun y => ntimes y L) 0 (once L) i hi2
    have h5 : (ents L).toList[i]? = some y := by rw [List.getElem?_eq_getElem hi, h3]
    simp only [ents] at h5
    rw [h4] at h5
    cases h5
    simp at e hc
    omega
  have hj : ((ents L).push ⟨x.val, .int .i64 0, (once L).length⟩).toList[(once L).length]? = some ⟨x.val, .int .i64 0, (once L).length⟩ := by
    rw [Array.toList_push, ← hlen, List.getElem?_append_right (Nat.le_refl _)]; simp
  obtain ⟨r1, _, r3⟩ := key_there name_law Try.underlying87 hb (fun e he => by
      rw [Array.toList_push] at he
      rcases List.mem_append.1 he with he | he
      · exact ents_keys hw e he
      · simp only [List.mem_singleton] at he; subst he; exact ⟨l, hl⟩) hl hj rfl (fun i e hi h2 => by
      rw [Array.toList_push] at hi
      by_cases hlt : i < (ents L).toList.length
      · rw [List.getElem?_append_left hlt] at hi
        obtain ⟨y, hy, h3⟩ := entsA_mem _ _ _ e (by have := List.mem_of_getElem? hi; simpa [ents] using this)
        rw [h3] at h2
        exact absurd ((once_mem L x).1 (Nam.val_inj h2 ▸ hy)) h
      · have : i < (ents L).toList.length + 1 := by
          have := (List.getElem?_eq_some_iff.1 hi).1
          simpa using this
        omega) hnd
  refine ⟨r1, ?_⟩
  have h2 := r3 (.int .i64 1)
  obtain ⟨e1, e2⟩ := ents_gone h
  have hmod : ((ents L).push ⟨x.val, .int .i64 0, (once L).length⟩).modify (once L).length (fun e => { e with val := .int .i64 1 }) = (ents L).push ⟨x.val, .int .i64 1, (once L).length⟩ := by
    apply Array.ext'
    rw [Array.toList_modify, Array.toList_push, Array.toList_push, ← hlen, modify_last]
  rw [hmod, e1, ← e2] at h2
  exact h2
theorem there_run {L : List Nam} {x : Nam} (hw : ∀ y ∈ L, y.wf) (h : x ∈ L) :
    ∃ j : Nat, ∀ (u : World) (b : Nat) (hb : u.heap[b]? = some (.map (ents L) (once L).length)), (Instr.lookup 87 (.map (some b)) x.val false).run Try.prog u = .ok (.int .i64 (ntimes x L : Nat)) u ∧
    (Instr.mapEntry 87 (.map (some b)) x.val).run Try.prog u = .ok (.tuple #[.int .i64 (ntimes x L : Nat), goInt j]) u ∧
    (Instr.entryStore 87 (.map (some b)) (goInt j) (.int .i64 ((ntimes x L : Nat) + 1))).run Try.prog u = .ok () (setBlock u b (.map (ents (L ++ [x])) (once (L ++ [x])).length)) := by
  obtain ⟨l, hl⟩ := name_key x (hw x h)
  obtain ⟨j, hj, hx⟩ := List.getElem_of_mem ((once_mem L x).2 h)
  have hg := entsA_get (fun y => ntimes y L) 0 (once L) j hj
  rw [hx, Nat.zero_add] at hg
  have hg2 : (ents L).toList[j]? = some ⟨x.val, .int .i64 (ntimes x L : Nat), j⟩ := by simpa [ents] using hg
  refine ⟨j, fun u b hb => ?_⟩
  obtain ⟨r1, r2, r3⟩ := key_there name_law Try.underlying87 hb (ents_keys hw) hl hg2 rfl (fun i e hi h2 => by
      have hi2 : i < (once L).length := by
        have := (List.getElem?_eq_some_iff.1 hi).1
        rw [Array.length_toList, ents_len] at this
        exact this
      have h4 := entsA_get (fun y => ntimes y L) 0 (once L) i hi2
      have h5 : (entsA (fun y => ntimes y L) 0 (once L))[i]? = some e := by simpa [ents] using hi
      rw [h4] at h5
      cases h5
      exact (List.getElem_inj (once_nodup L)).1 ((Nam.val_inj h2).trans hx.symm)) (by simpa [ents] using (entsA_born (fun y => ntimes y L) 0 (once L)).2)
  obtain ⟨e1, e2⟩ := ents_there hj hx
  have h3 := r3 (.int .i64 ((ntimes x L : Nat) + 1))
  rw [e1, ← e2] at h3
  exact ⟨r1, r2, h3⟩
end Go.Proofs.Yticljddfdeocbaa
