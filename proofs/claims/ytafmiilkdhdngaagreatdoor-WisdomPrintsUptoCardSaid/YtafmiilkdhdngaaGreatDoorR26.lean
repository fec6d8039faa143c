/- Put together by program (merge2.py): Wbu. -/
import Derived.Test.YtafmiilkdhdngaaGreatDoorR16
import Derived.Test.YtafmiilkdhdngaaGreatDoorR25
/- A strings.Builder of the call's own: what a write leaves as it is, block by block. -/
namespace Go.Proofs.YtafmiilkdhdngaaGreatDoor
open Go.ChangeShapes Go.WideShapes Go.ChangeAt Go.RowKit
set_option linter.unusedVariables false
set_option linter.unusedSimpArgs false
/-- A builder in block b with these bytes; v is its row. -/
structure Bu (w : World) (b : Nat) (p v : Value) (l : List UInt8) : Prop where
  at' : w.heap[b]? = some (.cells #[p, v] 51 (0, 0))
  own : w.ownsRow b 5 1 v l.length (bc l)
  ne : v.ownBlock ≠ some b
  pp : p = .pointer none ∨ p = .pointer (some ⟨b, 0, none⟩)
theorem Bu.lt {w : World} {b : Nat} {p v : Value} {l : List UInt8} (h : Bu w b p v l) : b < w.heap.size := (Array.getElem?_eq_some_iff.1 h.at').1
theorem Bu.ownLt {w : World} {b : Nat} {p v : Value} {l : List UInt8} (h : Bu w b p v l) : ∀ i, v.ownBlock = some i → b ≤ i ∧ i < w.heap.size := fun i hi => World.ownsRow.lt h.own i hi
theorem Bu.is {w : World} {b : Nat} {p v : Value} {l : List UInt8} (h : Bu w b p v l) : Lib.IsBuilder 51 5 b b (Lib.byteCells l) w := by
  have h1 : Lib.BuilderAt 51 5 b b p (Lib.byteCells l) w := ⟨Nat.le_refl _, v, h.at', by rw [Lib.byteCells_length]; exact h.own, h.ne⟩
  rcases h.pp with rfl | rfl
  · exact .inl h1
  · exact .inr h1
theorem Bu.below {w w' : World} {b : Nat} {p v : Value} {l : List UInt8} (h : Bu w b p v l) (hb : Below w.heap.size w w') : Bu w' b p v l :=
  ⟨(hb.block b h.lt).trans h.at', own_below h.own hb, h.ne, h.pp⟩
/-- Which row an append of a text leaves: the same, or a new one. -/
theorem run_append_s {w : World} {b : Nat} {v : Value} {l : List UInt8} (rt : TypeId) (h : w.ownsRow b 5 1 v l.length (bc l)) (s : ByteArray) (hlen : l.length + s.size ≤ 1000000000) (hb : b ≤ w.heap.size) :
    ∃ v' w', (Builtin.append_ #[49, 9] rt #[v, .string s]).run Tryz.prog w = .ok v' w' ∧ w'.ownsRow b 5 1 v' (l.length + s.size) (bc l ++ Lib.strCells s) ∧ w.grownBy w' v.ownBlock ∧ (v'.ownBlock = v.ownBlock ∨ v'.ownBlock = some w.heap.size) := by
  obtain ⟨i0, hi, hz0, hz1, hz2⟩ := info_parts info_u8
  obtain ⟨v', w', hr, h2, h3, h4⟩ := Lib.run_append_own_string (P := Tryz.prog) w b 49 9 rt 5 i0 Tryz.underlying49 Tryz.underlying9 hi hz0 hz1 hz2 v l.length (bc l) h s (by unfold maxLen; omega) (by omega) hb
  refine ⟨v', w', hr, h2, h3, ?_⟩
  rcases h.2 with ⟨rfl, h0⟩ | ⟨g, cap, cur, rfl, -, hg, hnc, hcm, hcs, htk⟩
  · by_cases hs : s.size = 0
    · left
      rw [h4.2 ⟨rfl, hs⟩]
    · right
      have := run_append_nil_string (P := Tryz.prog) w 49 9 rt 5 i0 (.int .u8 0) Tryz.underlying49 Tryz.underlying9 hi hz0 s (by omega) (by omega) (by rw [hz2]; omega)
      rw [hr] at this
      simp only [Result.ok.injEq] at this
      rw [this.1]; rfl
  · by_cases hroom : l.length + s.size ≤ cap
    · left
      have := Lib.run_append_room_string (P := Tryz.prog) w 49 9 rt 5 i0 Tryz.underlying49 Tryz.underlying9 hi hz1 g l.length cap cur hg s hroom (by omega)
      rw [hr] at this
      simp only [Result.ok.injEq] at this
      rw [this.1]; rfl
    · right
      have := Lib.run_append_grow_string (P := Tryz.prog) w 49 9 rt 5 i0 (.int .u8 0) Tryz.underlying49 Tryz.underlying9 hi hz0 ⟨g, 0, none⟩ l.length cap (bc l) (by rw [hz1]; simpa using h.1) (h.cells (g := g) rfl) s (by omega) (by omega) (by rw [hz2]; exact growslice_fits (by omega) (by omega))
      rw [hr] at this
      simp only [Result.ok.injEq] at this
      rw [this.1]; rfl
theorem append_s {ops : Array Oper} {rest : List Oper} {o : Oper} {a : Act} {Q : Exit → Act → World → Prop} {w : World} {b : Nat} {v : Value} {l : List UInt8} {t : ByteArray} (hgd : o.guard = none) (s x : Operand)
    (ho : o.op = .call { callee := .builtin .append, args := #[s, x], argTypes := #[49, 9] }) (hs : a.eval s = v) (hown : w.ownsRow b 5 1 v l.length (bc l)) (hx : a.eval x = .string t)
    (hB : b ≤ w.heap.size) (hlen : l.length + t.size ≤ 1000000000)
    (h : ∀ v' w', w'.ownsRow b 5 1 v' (l.length + t.size) (bc l ++ Lib.strCells t) → w.grownBy w' v.ownBlock → (v'.ownBlock = v.ownBlock ∨ v'.ownBlock = some w.heap.size) → wpList Tryz.prog ops Q rest (a.put o.dst v') w') : wpList Tryz.prog ops Q (o :: rest) a w := by
  refine wpList_plain hgd fun K hK => ?_
  obtain ⟨v', w', h1, h2, h3, h4⟩ := run_append_s o.type hown t hlen hB
  unfold Oper.wp execOp
  simp only [ho, resolve, invoke, builtin, Sem.run_bind, Sem.run_pure, Result.andThen_ok, List.map_toArray, List.map_cons, List.map_nil, hs, hx, h1]
  exact hK _ _ (h v' w' h2 h3 h4)
/-- What a write tells. -/
def BuW (w : World) (b : Nat) (v : Value) (l : List UInt8) (e : Ending) (n : Nat) (w' : World) : Prop :=
  e = .returned (.tuple #[.int .i64 n, .nilIface]) ∧ ∃ v', Bu w' b (.pointer (some ⟨b, 0, none⟩)) v' l ∧ (v'.ownBlock = v.ownBlock ∨ v'.ownBlock = some w.heap.size) ∧ (∀ k, k < w.heap.size → k ≠ b → v.ownBlock ≠ some k → w'.heap[k]? = w.heap[k]?) ∧ Below b w w'
theorem bu_copy (w : World) (b : Nat) (p v : Value) (l : List UInt8) (h : Bu w b p v l) : Calls Tryz.prog 35 #[.pointer (some ⟨b, 0, none⟩)] w fun e w' => e = .returned (.tuple #[]) ∧ Bu w' b (.pointer (some ⟨b, 0, none⟩)) v l ∧ w'.heap.size = w.heap.size ∧ (∀ k, k ≠ b → w'.heap[k]? = w.heap[k]?) ∧ Below b w w' := by
  rcases h.pp with rfl | rfl
  · refine (Any.Builder_copyCheck_fresh lays240 Builder_Extra_156.toX72 b w (by rw [cell_of_row _ _ _ _ _ _ h.at']; rfl) (by simp [World.shape?, h.at']; rfl) (frozen_of_row _ _ _ _ _ h.at')).mono ?_
    rintro e w' ⟨rfl, rfl⟩
    have hb : Below b w (w.setCell ⟨b, 0, none⟩ (.pointer (some ⟨b, 0, none⟩))) := (Below.refl _ _).setCell (p := ⟨b, 0, none⟩) (Nat.le_refl _) _
    have ho : ∀ k, k ≠ b → (w.setCell ⟨b, 0, none⟩ (.pointer (some ⟨b, 0, none⟩))).heap[k]? = w.heap[k]? := fun k hk => heap_setCell_other w ⟨b, 0, none⟩ k _ hk
    refine ⟨rfl, ⟨?_, ?_, h.ne, .inr rfl⟩, by simp, ho, hb⟩
    · rw [bset h.at']; rfl
    · exact World.ownsRow.kept h.own (row := some b) ⟨hb.os, hb.tape, hb.output, hb.size, fun i _ hne => ho i (fun e => hne (by rw [e]))⟩ (.inr h.ne)
  · refine (Any.Builder_copyCheck_used lays240 Builder_Extra_156.toX72 b w (by rw [cell_of_row _ _ _ _ _ _ h.at']; rfl)).mono ?_
    rintro e w' ⟨rfl, rfl⟩
    exact ⟨rfl, h, rfl, fun _ _ => rfl, Below.refl _ _⟩
set_option maxRecDepth 100000 in
set_option maxHeartbeats 4000000 in
theorem bu_write (w : World) (b : Nat) (p v : Value) (l : List UInt8) (s : ByteArray) (h : Bu w b p v l) (hlen : l.length + s.size ≤ 1000000000) :
    Calls Tryz.prog 18 #[.pointer (some ⟨b, 0, none⟩), .string s] w fun e w' => BuW w b v (l ++ s.data.toList) e s.size w' := by
  have C := bu_copy w b p v l h
  have HL := Lib.hid h.ownLt
  clear h
  go_enter Tryz.func18, Tryz.ntmps18
  go_wp2_with fail
  refine C.mono ?_
  rintro e w1 ⟨rfl, h1, hz1, ho1, hb1⟩
  have c1 : w1.cell? ⟨b, 1, none⟩ = some v := by rw [cell_of_row _ _ _ _ _ _ h1.at']; rfl
  have hlt := h1.lt
  have H1 := Lib.hid h1
  have HZ1 := Lib.hid hz1
  have HO1 := Lib.hid ho1
  have HB1 := Lib.hid hb1
  have hbz : b ≤ w1.heap.size := by omega
  clear C h1 hz1 ho1 hb1
  go_wp2_with (at_builtin; refine append_s rfl _ _ rfl rfl H1.out.own rfl hbz hlen ?_)
  intro v' w2 hown' hgrow hv'
  have hb2 : w2.heap[b]? = some (.cells #[.pointer (some ⟨b, 0, none⟩), v] 51 (0, 0)) := (hgrow.block b hlt (fun e => H1.out.ne e.symm)).trans H1.out.at'
  have d1 : w2.cell? ⟨b, 1, none⟩ = some v := by rw [cell_of_row _ _ _ _ _ _ hb2]; rfl
  have f1 : w2.frozen? ⟨b, 1, none⟩ = false := frozen_of_row _ _ _ _ _ hb2
  obtain ⟨ao, n', cap, rfl⟩ : ∃ ao n' cap, v' = .slice ao n' cap := by
    rcases hown'.2 with ⟨hv, _⟩ | ⟨g, cap, cur, hv, _⟩
    · exact ⟨_, _, _, hv⟩
    · exact ⟨_, _, _, hv⟩
  have hne : (Value.slice ao n' cap).ownBlock ≠ some b := by
    rcases hv' with e | e
    · rw [e]; exact H1.out.ne
    · rw [e]; intro e2; simp only [Option.some.injEq] at e2; omega
  have FIN := Lib.hid (show Bu (w2.setCell ⟨b, 1, none⟩ (.slice ao n' cap)) b (.pointer (some ⟨b, 0, none⟩)) (.slice ao n' cap) (l ++ s.data.toList) ∧ ((Value.slice ao n' cap).ownBlock = v.ownBlock ∨ (Value.slice ao n' cap).ownBlock = some w.heap.size) ∧ (∀ k, k < w.heap.size → k ≠ b → v.ownBlock ≠ some k → (w2.setCell ⟨b, 1, none⟩ (.slice ao n' cap)).heap[k]? = w.heap[k]?) ∧ Below b w (w2.setCell ⟨b, 1, none⟩ (.slice ao n' cap)) from by
    have ho : ∀ k, k ≠ b → (w2.setCell ⟨b, 1, none⟩ (.slice ao n' cap)).heap[k]? = w2.heap[k]? := fun k hk => heap_setCell_other w2 ⟨b, 1, none⟩ k _ hk
    have hB2 : Below b w w2 := HB1.out.grown hgrow hbz (fun i hi => (HL.out i hi).1)
    have hB3 := hB2.setCell (p := ⟨b, 1, none⟩) (Nat.le_refl _) (.slice ao n' cap)
    refine ⟨⟨?_, ?_, hne, .inr rfl⟩, by rw [← HZ1.out]; exact hv', fun k hk hkb hkv => ?_, hB3⟩
    · rw [bset hb2]; rfl
    · have hs2 : Below 0 w2 (w2.setCell ⟨b, 1, none⟩ (.slice ao n' cap)) := (Below.refl _ _).setCell (p := ⟨b, 1, none⟩) (Nat.zero_le _) _
      have := World.ownsRow.kept hown' (row := some b) ⟨hs2.os, hs2.tape, hs2.output, hs2.size, fun i _ hne => ho i (fun e => hne (by rw [e]))⟩ (.inr hne)
      rw [List.length_append, ← Lib.size_eq]
      have e2 : bc (l ++ s.data.toList) = bc l ++ Lib.strCells s := by simp [bc, Lib.strCells]
      rw [e2]; exact this
    · rw [ho k hkb, hgrow.block k (by have := HZ1.out; omega) (fun e => hkv e.symm), HO1.out k hkb])
  clear hown' hgrow hv' hb2 hne
  go_wp2_with fail
  go_ret2
  exact ⟨rfl, _, FIN.out⟩
end Go.Proofs.YtafmiilkdhdngaaGreatDoor
