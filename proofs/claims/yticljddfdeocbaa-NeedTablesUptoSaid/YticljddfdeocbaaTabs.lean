/- Package need: Tables. -/
import Derived.Test.YticljddfdeocbaaTold
namespace Go.Proofs.Yticljddfdeocbaa
open Go.ChangeShapes Go.WideShapes Go.ChangeAt Go.RowKit
set_option linter.unusedVariables false
open Go.WideMaps Go.MapKept Go.WideElems Go.ChangeMaps
theorem heap_setBlock (w : World) (b : Nat) (o : Obj) (k : Nat) : (setBlock w b o).heap[k]? = if b = k ∧ b < w.heap.size then some o else w.heap[k]? := by
  unfold setBlock
  simp only [Array.getElem?_setIfInBounds]
  by_cases h : b = k
  · subst h
    by_cases h2 : b < w.heap.size
    · simp [h2]
    · simp [h2]
  · simp [h]
theorem size_setBlock (w : World) (b : Nat) (o : Obj) : (setBlock w b o).heap.size = w.heap.size := by unfold setBlock; simp
theorem Bx.setB {w : World} {B b : Nat} {T : TypeId} {v : Value} (h : Bx w B T v) (o : Obj) (hne : B ≠ b) : Bx (setBlock w b o) B T v := by
  unfold Bx
  rw [heap_setBlock, if_neg (fun e => hne e.1.symm)]
  exact h
theorem OwnNm.setB {w : World} {B b : Nat} {v : Value} {l : List Nam} (h : OwnNm w B v l) (o : Obj) (hb : b < B) : OwnNm (setBlock w b o) B v l :=
  World.ownsRow.kept h (row := some b) ⟨rfl, rfl, rfl, by rw [size_setBlock]; exact Nat.le_refl _, fun i hi hne => by rw [heap_setBlock, if_neg (fun e => hne (by rw [e.1]))]⟩ (by
    by_cases hn : v.ownBlock = none
    · exact .inl hn
    · refine .inr fun e => ?_
      have := (World.ownsRow.lt h b e).1
      omega)
theorem Fr.setB {O O' : Nat → Prop} {w u : World} (h : Fr O O' w u) {b : Nat} (o : Obj) (hb : O b) : Fr O O' w (setBlock u b o) :=
  ⟨h.os, h.tape, h.output, by rw [size_setBlock]; exact h.size, fun X hX hO => by rw [heap_setBlock, if_neg (fun e => hO (by rw [← e.1]; exact hb))]; exact h.blk X hX hO, h.own⟩
theorem Fr.drew {O O' : Nat → Prop} {w u : World} (h : Fr O O' w u) : Fr O O' w u.drew := ⟨h.os, h.tape, h.output, h.size, h.blk, h.own⟩
/-- The map laid anew. -/
theorem inv_map {lim Tc Lc Mb B : Nat} {L' : List Nam} {O O' : Nat → Prop} {w u : World} {s : Value} (hT : Bx u Tc 87 (.map (some Mb))) (hL : Bx u Lc 59 s) (hO : OwnNm u B s (once L'))
    (hd : lim ≤ Tc ∧ lim ≤ Lc ∧ lim ≤ Mb ∧ Tc ≠ Lc ∧ Tc ≠ Mb ∧ Lc ≠ Mb ∧ Tc < B ∧ Lc < B ∧ Mb < B ∧ B ≤ u.heap.size) (hw : ∀ X, O' X ↔ X = Mb ∨ X = Lc ∨ s.ownBlock = some X) (hf : Fr O O' w u) (hM : O Mb) :
    Tells (InvB lim Tc Lc Mb B) O L' w (.returned (.tuple #[])) (setBlock u Mb (.map (ents L') (once L').length)) := by
  obtain ⟨d1, d2, d3, d4, d5, d6, d7, d8, d9, d10⟩ := hd
  refine ⟨rfl, O', ⟨s, hT.setB _ d5, ?_, hL.setB _ d6, hO.setB _ d9, ⟨d1, d2, d3, d4, d5, d6, d7, d8, d9, by rw [size_setBlock]; exact d10⟩, hw⟩, hf.setB _ hM⟩
  rw [heap_setBlock, if_pos ⟨rfl, by omega⟩]
set_option maxRecDepth 100000 in
set_option maxHeartbeats 4000000 in
theorem tables_there (lim Tc Lc Mb B : Nat) (L : List Nam) (O : Nat → Prop) (x : Nam) (w : World) (hw : ∀ y ∈ L, y.wf) (hx : x ∈ L) (hL : L.length < 4194304) (hI : InvB lim Tc Lc Mb B L O w) :
    Calls Try.prog 82 #[.agg #[.int .i64 x.k, .int .i64 x.n, .int .i64 x.m, .int .i64 x.d], .pointer (some ⟨Tc, 0, none⟩), .pointer (some ⟨Lc, 0, none⟩)] w (Tells (InvB lim Tc Lc Mb B) O (L ++ [x]) w) := by
  obtain ⟨s, hT, hM, hL1, hO1, hd, hOw⟩ := hI
  obtain ⟨w0, hw0, c0, c1, c2, c3, hB, hsz⟩ := box4n w x.k x.n x.m x.d 54
  have hT0 := (hT.below hB).cell
  have hMl : Mb < w.heap.size := by omega
  have hM0 := (hB.block Mb hMl).trans hM
  obtain ⟨j, hj⟩ := there_run hw hx
  obtain ⟨r1, r2, r3⟩ := hj w0 Mb hM0
  obtain ⟨q1, q2, q3⟩ := hj w0.drew Mb hM0
  have hpos : 0 < ntimes x L := by
    rcases Nat.eq_zero_or_pos (ntimes x L) with h0 | h0
    · exact absurd hx ((ntimes_zero x L).1 h0)
    · exact h0
  have hle := ntimes_len x L
  have hz : (((ntimes x L : Nat) : Int) == 0) = false := by simp; omega
  have W1 : IntKind.i64.wrap ((ntimes x L : Nat) + 1) = (ntimes x L : Nat) + 1 := IntWalk.i64_in _ (by omega)
  have hv : x.val = .agg #[.int .i64 x.k, .int .i64 x.n, .int .i64 x.m, .int .i64 x.d] := rfl
  have hg : goInt j = .int .i64 (j : Int) := rfl
  rw [hv] at r1 r2 q1 q2
  rw [hg] at r2 r3 q2 q3
  clear hg
  clear hj
  have FIN := Lib.hid (inv_map (lim := lim) (Tc := Tc) (Lc := Lc) (Mb := Mb) (B := B) (L' := L ++ [x]) (O := O) (O' := O) (w := w) (u := w0.drew) (show Bx w0 Tc 87 (.map (some Mb)) from hT.below hB) (show Bx w0 Lc 59 s from hL1.below hB) (show OwnNm w0 B s (once (L ++ [x])) by rw [once_snoc, if_pos ((once_mem L x).2 hx)]; exact hO1.below hB) (by obtain ⟨d1, d2, d3, d4, d5, d6, d7, d8, d9, d10⟩ := hd; exact ⟨d1, d2, d3, d4, d5, d6, d7, d8, d9, by show B ≤ w0.heap.size; omega⟩) hOw (Fr.of_below hB).drew ((hOw Mb).2 (.inl rfl)))
  generalize ntimes x L = q at *
  subst hw0
  clear hv
  go_enter Try.func82, Try.ntmps82
  go_wp2_with fail
  go_region
  all_goals
    go_end0
    exact FIN.out
set_option maxRecDepth 100000 in
set_option maxHeartbeats 4000000 in
theorem tables_gone (lim Tc Lc Mb B : Nat) (L : List Nam) (O : Nat → Prop) (x : Nam) (w : World) (hw : ∀ y ∈ L, y.wf) (hxw : x.wf) (hx : x ∉ L) (hL : L.length < 4194304) (hI : InvB lim Tc Lc Mb B L O w) :
    Calls Try.prog 82 #[.agg #[.int .i64 x.k, .int .i64 x.n, .int .i64 x.m, .int .i64 x.d], .pointer (some ⟨Tc, 0, none⟩), .pointer (some ⟨Lc, 0, none⟩)] w (Tells (InvB lim Tc Lc Mb B) O (L ++ [x]) w) := by
  obtain ⟨s, hT, hM, hL1, hO1, ⟨d1, d2, d3, d4, d5, d6, d7, d8, d9, d10⟩, hOw⟩ := hI
  obtain ⟨w0, hw0, c0, c1, c2, c3, hB, hsz⟩ := box4n w x.k x.n x.m x.d 54
  have hT0 := hT.below hB
  have t0 := hT0.cell
  have hMl : Mb < w.heap.size := by omega
  have hM0 := (hB.block Mb hMl).trans hM
  obtain ⟨r1, _⟩ := gone_run hw hxw hx w0 Mb hM0
  have hL0 := hL1.below hB
  have l0 := hL0.cell
  have hO0 := Lib.hid (hO1.below hB)
  have hol := Nat.le_trans (once_len L) (Nat.le_of_lt hL)
  have hv : x.val = .agg #[.int .i64 x.k, .int .i64 x.n, .int .i64 x.m, .int .i64 x.d] := rfl
  have ES := Lib.hid (show once (L ++ [x]) = once L ++ [x] by rw [once_snoc, if_neg (fun h => hx ((once_mem L x).1 h))])
  have GR := Lib.hid (fun u b hb => gone_run hw hxw hx u b hb)
  have PR := Lib.hid (fun u b hb => pushed_run hw hxw hx u b hb)
  rw [hv] at r1 GR PR
  have hsown : ∀ X, s.ownBlock = some X → B ≤ X ∧ X < w.heap.size := fun X h => World.ownsRow.lt hO1 X h
  have HSO := Lib.hid hsown
  have HOW := Lib.hid hOw
  have HX0 := Lib.hid (show s.ownBlock ≠ some w.heap.size from fun h => by have := (hsown _ h).2; omega)
  have FB := Lib.hid (Fr.of_below (O := O) hB)
  have hOm : O Mb := (hOw Mb).2 (.inl rfl)
  have hOl : O Lc := (hOw Lc).2 (.inr (.inl rfl))
  have hWB : B ≤ w0.heap.size := by omega
  have hxs : w.heap.size < w0.heap.size := by omega
  have hcs : (∃ g c, s = .slice (some ⟨g, 0, none⟩) (once L).length c) ∨ s = .slice none 0 0 := by
    rcases hO1.kind with ⟨h, _⟩ | h
    · exact .inr h
    · exact .inl h
  obtain ⟨a, n0, cs, rfl⟩ : ∃ a n c, s = .slice a n c := by
    rcases hcs with ⟨g, c, rfl⟩ | rfl
    · exact ⟨_, _, _, rfl⟩
    · exact ⟨_, _, _, rfl⟩
  have HT0 := Lib.hid hT0
  have HL0 := Lib.hid hL0
  have HM0 := Lib.hid hM0
  clear hT hM hL1 hO1 hOw hcs hT0 hL0 hM0 hsown hB
  have HW0 := Lib.hid hw0
  clear hv
  generalize once L = l at *
  generalize ents L = es at *
  subst hw0
  clear HW0
  go_enter Try.func82, Try.ntmps82
  go_wp2_with (at_builtin; refine append_nm rfl _ _ rfl rfl hO0.out (by show Value.slice (some ⟨w.heap.size + 1, 0, none⟩) 1 1 = _; simp) hWB (by omega) ?_; (
    intro v' w4 hO4 hb4 hx4 hg4
    obtain ⟨g4, c4, e4⟩ := (hO4.kind).resolve_left (fun h => by have h2 := congrArg List.length h.2; simp at h2)
    have hl4 : (l ++ [x]).length = l.length + 1 := by simp
    rw [hl4] at e4
    subst e4
    have hL4 : Bx w4 Lc 59 (.slice a n0 cs) := (hb4.block Lc d8).trans HL0.out
    have l4 := hL4.cell
    have lf := frozen_of_row w4 Lc 0 _ _ hL4
    have hT4 : Bx w4 Tc 87 (.map (some Mb)) := (hb4.block Tc d7).trans HT0.out
    have hM4 := (hb4.block Mb d9).trans HM0.out
    have bu := But.set w4 Lc 0 (.slice (some ⟨g4, 0, none⟩) (l.length + 1) c4)
    have hs4 := hb4.size
    have hL5 := hL4.set (.slice (some ⟨g4, 0, none⟩) (l.length + 1) c4)
    have hT5 := hT4.but bu d4
    have t5 := hT5.cell
    have hM5 := (bu.o Mb (by omega) (fun e => d6 e.symm)).trans hM4
    have hO5 := hO4.setCell d8 (.slice (some ⟨g4, 0, none⟩) (l.length + 1) c4)
    have n0' := bu.cell (X := w.heap.size) (j := 0) (by omega) (by omega) ((World.cell?_of_block (hx4 w.heap.size hxs HX0.out)).trans c0)
    have n1' := bu.cell (X := w.heap.size) (j := 1) (by omega) (by omega) ((World.cell?_of_block (hx4 w.heap.size hxs HX0.out)).trans c1)
    have n2' := bu.cell (X := w.heap.size) (j := 2) (by omega) (by omega) ((World.cell?_of_block (hx4 w.heap.size hxs HX0.out)).trans c2)
    have n3' := bu.cell (X := w.heap.size) (j := 3) (by omega) (by omega) ((World.cell?_of_block (hx4 w.heap.size hxs HX0.out)).trans c3)
    obtain ⟨q1, q2⟩ := GR.out (w4.setCell ⟨Lc, 0, none⟩ (.slice (some ⟨g4, 0, none⟩) (l.length + 1) c4)).drew Mb hM5
    have hM6 : (setBlock (w4.setCell ⟨Lc, 0, none⟩ (.slice (some ⟨g4, 0, none⟩) (l.length + 1) c4)).drew Mb (.map (es.push ⟨.agg #[.int .i64 x.k, .int .i64 x.n, .int .i64 x.m, .int .i64 x.d], .int .i64 0, l.length⟩) (l.length + 1))).heap[Mb]? = some (.map (es.push ⟨.agg #[.int .i64 x.k, .int .i64 x.n, .int .i64 x.m, .int .i64 x.d], .int .i64 0, l.length⟩) (l.length + 1)) := by rw [heap_setBlock, if_pos ⟨rfl, by have h9 := bu.z; show Mb < (w4.setCell ⟨Lc, 0, none⟩ (.slice (some ⟨g4, 0, none⟩) (l.length + 1) c4)).heap.size; omega⟩]
    obtain ⟨q3, q4⟩ := PR.out _ Mb hM6
    have hg : goInt l.length = .int .i64 (l.length : Int) := rfl
    rw [hg] at q2 q4
    have FR5 : Fr O (fun X => X = Mb ∨ X = Lc ∨ (Value.slice (some ⟨g4, 0, none⟩) (l.length + 1) c4).ownBlock = some X) w (w4.setCell ⟨Lc, 0, none⟩ (.slice (some ⟨g4, 0, none⟩) (l.length + 1) c4)) := by
      have h0 := FB.out
      refine ⟨(bu.b 0 (by omega) (by omega)).os.trans (hb4.os.trans h0.os), (bu.b 0 (by omega) (by omega)).tape.trans (hb4.tape.trans h0.tape), (bu.b 0 (by omega) (by omega)).output.trans (hb4.output.trans h0.output), by have := bu.z; have := h0.size; omega, fun X hX hn => ?_, fun X hX => ?_⟩
      · rw [bu.o X (by have := h0.size; omega) (fun e => hn (by rw [e]; exact hOl)), hx4 X (by have := h0.size; omega) (fun e => hn ((HOW.out X).2 (.inr (.inr e))))]
        exact h0.blk X hX hn
      · rcases hX with rfl | rfl | hX
        · exact .inl hOm
        · exact .inl hOl
        · rcases hg4 X hX with h7 | h7
          · exact .inl ((HOW.out X).2 (.inr (.inr h7)))
          · right; have := h0.size; omega
    have FIN := Lib.hid (inv_map (lim := lim) (Tc := Tc) (Lc := Lc) (Mb := Mb) (B := B) (L' := L ++ [x]) (O := O) (O' := fun X => X = Mb ∨ X = Lc ∨ (Value.slice (some ⟨g4, 0, none⟩) (l.length + 1) c4).ownBlock = some X) (w := w) (u := setBlock (w4.setCell ⟨Lc, 0, none⟩ (.slice (some ⟨g4, 0, none⟩) (l.length + 1) c4)).drew Mb (.map (es.push ⟨.agg #[.int .i64 x.k, .int .i64 x.n, .int .i64 x.m, .int .i64 x.d], .int .i64 0, l.length⟩) (l.length + 1)))
      (Bx.setB (show Bx (w4.setCell ⟨Lc, 0, none⟩ (.slice (some ⟨g4, 0, none⟩) (l.length + 1) c4)).drew Tc 87 (.map (some Mb)) from hT5) _ d5) (Bx.setB (show Bx (w4.setCell ⟨Lc, 0, none⟩ (.slice (some ⟨g4, 0, none⟩) (l.length + 1) c4)).drew Lc 59 _ from hL5) _ d6) (OwnNm.setB (show OwnNm (w4.setCell ⟨Lc, 0, none⟩ (.slice (some ⟨g4, 0, none⟩) (l.length + 1) c4)).drew B _ (once (L ++ [x])) by rw [ES.out]; exact hO5) _ d9)
      ⟨d1, d2, d3, d4, d5, d6, d7, d8, d9, by rw [size_setBlock]; have h9 := bu.z; show B ≤ (w4.setCell ⟨Lc, 0, none⟩ (.slice (some ⟨g4, 0, none⟩) (l.length + 1) c4)).heap.size; omega⟩ (fun X => Iff.rfl) ((FR5.drew).setB _ hOm) hOm)
    clear hO4 hb4 hx4 hg4 hL4 hT4 hM4 bu hL5 hT5 hM5 hO5 hM6 hg FR5 hl4))
  go_region
  all_goals
    go_end0
    exact FIN.out
end Go.Proofs.Yticljddfdeocbaa
