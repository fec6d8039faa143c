/- lru: the front row's changes: remove, ahead. -/
import Derived.Test.YtncpikaegcookaaLrj
namespace Go.Proofs.Ytncpikaegcookaa
open Go.ChangeShapes Go.WideShapes Go.ChangeAt Go.RowKit
set_option linter.unusedVariables false
set_option linter.unusedSimpArgs false
def fblk : Value → Option Nat
  | .slice (some a) _ _ => some a.block
  | _ => none
/-- What lay in w but for block o is as it was. -/
structure Bv (w w' : World) (q : Option Nat) : Prop where
  o : ∀ k, k < w.heap.size → q ≠ some k → w'.heap[k]? = w.heap[k]?
  z : w.heap.size ≤ w'.heap.size
  b : ∀ H, (∀ F, q = some F → H ≤ F) → H ≤ w.heap.size → Below H w w'
theorem Bv.of_below {w w' : World} (h : Below w.heap.size w w') (o : Option Nat) : Bv w w' o := ⟨fun k hk _ => h.block k hk, h.size, fun H _ h2 => h.mono h2⟩
theorem Bv.of_but {w w' : World} {F : Nat} (h : But w w' F) : Bv w w' (some F) := ⟨fun k hk hn => h.o k hk (fun e => hn (by rw [e])), h.z, fun H h1 h2 => h.b H (h1 F rfl) h2⟩
theorem FR.blk {w : World} {F : Nat} {v : Value} {ts : List Nat} (h : FR w F v ts) : fblk v = none ∨ fblk v = some F := by
  rcases h with ⟨rfl, _⟩ | ⟨cap, L, rfl, _⟩
  · exact .inl rfl
  · exact .inr rfl
theorem FR.below {w w' : World} {F : Nat} {v : Value} {ts : List Nat} (h : FR w F v ts) (hb : Below w.heap.size w w') : FR w' F v ts := by
  rcases h with h | ⟨cap, L, h1, h2, h3⟩
  · exact .inl h
  · exact .inr ⟨cap, L, h1, h2.below hb, h3⟩
theorem FR.keep {w w' : World} {F : Nat} {v : Value} {ts : List Nat} (h : FR w F v ts) (hb : ∀ X, fblk v = some X → w'.heap[X]? = w.heap[X]?) : FR w' F v ts := by
  rcases h with h | ⟨cap, L, rfl, h2, h3⟩
  · exact .inl h
  · exact .inr ⟨cap, L, rfl, (hb F rfl).trans h2, h3⟩
theorem l_insert (F V t : Nat) (v : Value) (ts : List Nat) (W : World) (h : FR W F v ts) (hn : ts.length ≤ 1000) (hV : W.heap[V]? = some (.cells #[ptr t] 52 (0, 0))) (hVF : fblk v ≠ some V) :
    Calls Try.prog 32 #[v, .int .i64 0, .slice (some ⟨V, 0, none⟩) 1 1] W fun e w' => ∃ v' F', e = .returned v' ∧ FR w' F' v' (t :: ts) ∧ ((F' = F ∧ fblk v = some F) ∨ W.heap.size ≤ F') ∧ Bv W w' (fblk v) := by
  rcases h with ⟨rfl, rfl⟩ | ⟨cap, L, rfl, hF, hL, hc, hc1, hcap, h1, hts⟩
  · refine (ins_nil V t W hV).mono ?_
    rintro e w' ⟨v', rfl, h1, h2⟩
    exact ⟨v', _, rfl, h1, .inr (Nat.le_refl _), Bv.of_below h2 _⟩
  · have hne : V ≠ F := fun e => hVF (by rw [e]; rfl)
    by_cases h0 : ts.length = 0
    · have : ts = [] := List.length_eq_zero_iff.1 h0
      subst this
      refine (ins_room F V t cap L W hF hL hc1 hcap h1 hV).mono ?_
      rintro e w' ⟨v', rfl, h1, h2⟩
      exact ⟨v', F, rfl, h1, .inl ⟨rfl, rfl⟩, Bv.of_but h2⟩
    · by_cases hr : ts.length + 1 ≤ cap
      · refine (ins_shift F V t ts.length cap L ts W hF hL rfl (by omega) hr hcap h1 hts hV hne).mono ?_
        rintro e w' ⟨v', rfl, h1, h2⟩
        exact ⟨v', F, rfl, h1, .inl ⟨rfl, rfl⟩, Bv.of_but h2⟩
      · have e1 : cap = ts.length := by omega
        subst e1
        refine (ins_grow F V t ts.length L ts W hF hL rfl (by omega) (by omega) h1 hts hV).mono ?_
        rintro e w' ⟨v', rfl, h1, h2⟩
        exact ⟨v', _, rfl, h1, .inr (Nat.le_refl _), Bv.of_below h2 _⟩
/-- A list's block. -/
def LB (w : World) (Lb : Nat) (room : Int) (v : Value) (M : Nat) : Prop := w.heap[Lb]? = some (.cells #[.int .i64 room, v, .map (some M)] 51 (0, 0))
theorem LB.lt {w : World} {Lb M : Nat} {room : Int} {v : Value} (h : LB w Lb room v M) : Lb < w.heap.size := Nat.lt_of_not_le fun hn => by
  unfold LB at h; rw [Array.getElem?_eq_none hn] at h; cases h
theorem LB.cells {w : World} {Lb M : Nat} {room : Int} {v : Value} (h : LB w Lb room v M) : w.cell? ⟨Lb, 0, none⟩ = some (.int .i64 room) ∧ w.cell? ⟨Lb, 1, none⟩ = some v ∧ w.cell? ⟨Lb, 2, none⟩ = some (.map (some M)) ∧ w.frozen? ⟨Lb, 1, none⟩ = false :=
  ⟨by rw [cell_of_row _ _ _ _ _ _ h]; rfl, by rw [cell_of_row _ _ _ _ _ _ h]; rfl, by rw [cell_of_row _ _ _ _ _ _ h]; rfl, frozen_of_row _ _ _ _ _ h⟩
theorem LB.front {w : World} {Lb M : Nat} {room : Int} {v : Value} (h : LB w Lb room v M) (v' : Value) : LB (w.setCell ⟨Lb, 1, none⟩ v') Lb room v' M := by
  unfold LB; rw [row_set1 h]; rfl
/-- The front's row is another block than the list's, or a thing's. -/
theorem FR.apart {w : World} {F : Nat} {v : Value} {ts : List Nat} (h : FR w F v ts) {X : Nat} {cs : Array Value} {T : TypeId} {fr : Nat × Nat} (hX : w.heap[X]? = some (.cells cs T fr)) (hT : T ≠ 52) : fblk v ≠ some X := by
  rcases h with ⟨rfl, _⟩ | ⟨cap, L, rfl, h2, _⟩
  · intro e; cases e
  · intro e
    have e2 : F = X := Option.some.inj e
    subst e2
    unfold FB at h2
    rw [hX] at h2
    simp only [Option.some.injEq, Obj.cells.injEq] at h2
    exact hT h2.2.1
theorem FR.apartM {w : World} {F : Nat} {v : Value} {ts : List Nat} (h : FR w F v ts) {X : Nat} {o : Obj} (hX : w.heap[X]? = some o) (ho : ∀ cs T fr, o ≠ .cells cs T fr) : fblk v ≠ some X := by
  rcases h with ⟨rfl, _⟩ | ⟨cap, L, rfl, h2, _⟩
  · intro e; cases e
  · intro e
    have e2 : F = X := Option.some.inj e
    subst e2
    unfold FB at h2
    rw [hX] at h2
    exact ho _ _ _ (Option.some.inj h2)
/-- What two parts of a list change: its block, and the row. -/
structure Bl (w w' : World) (Lb : Nat) (q : Option Nat) : Prop where
  o : ∀ k, k < w.heap.size → k ≠ Lb → q ≠ some k → w'.heap[k]? = w.heap[k]?
  z : w.heap.size ≤ w'.heap.size
  b : ∀ H, H ≤ Lb → (∀ F, q = some F → H ≤ F) → H ≤ w.heap.size → Below H w w'
set_option maxRecDepth 100000 in
set_option maxHeartbeats 4000000 in
theorem l_remove (Lb M F i t : Nat) (room : Int) (v : Value) (ts : List Nat) (W : World) (hB : LB W Lb room v M) (h : FR W F v ts) (hn : ts.length ≤ 1000) (hi : ts[i]? = some t) (hd : ts.Nodup) (hT : ∀ (j x : Nat), ts[j]? = some x → ∃ c, W.heap[x]? = some (.cells c 57 (0, 0))) :
    Calls Try.prog 23 #[.pointer (some ⟨Lb, 0, none⟩), ptr t] W fun e w' => e = .returned (.tuple #[]) ∧ ∃ v', LB w' Lb room v' M ∧ FR w' F v' (ts.eraseIdx i) ∧ fblk v' = fblk v ∧ Bl W w' Lb (fblk v) := by
  have hin := (List.getElem?_eq_some_iff.1 hi).1
  have hap := h.apart hB (by decide)
  have h0 := h
  rcases h0 with ⟨_, rfl⟩ | ⟨cap, L, rfl, hF, hL, hc, hc1, hcap, h1, hts⟩
  · simp at hin
  have CI := Lib.hid (l_index F ts.length cap i t ts L W hF hts rfl hc (by omega) hi hd hT)
  have CD := Lib.hid (l_delete F ts.length cap i L W hF hL hc hin hcap h1)
  have HB := Lib.hid hB
  have hFL : F ≠ Lb := fun e => hap (by rw [e]; rfl)
  have HFL := Lib.hid hFL
  obtain ⟨c0, c1, c2, f1⟩ := hB.cells
  have HF := Lib.hid hF.lt
  have hlb := hB.lt
  have WR : wrap64 ((i : Int) + 1) = ((i + 1 : Nat) : Int) := by simp only [wrap64]; omega
  have DL := Lib.hid (fun (w' : World) (hw : FB w' F (delL L ts.length i)) => (show FR w' F (.slice (some ⟨F, 0, none⟩) (ts.length - 1) cap) (ts.eraseIdx i) from by
    have hlen : (ts.eraseIdx i).length = ts.length - 1 := by rw [List.length_eraseIdx]; simp [hin]
    refine .inr ⟨cap, _, by rw [hlen], hw, ?_, by omega, hc1, hcap, ?_, ?_⟩
    · unfold delL
      rw [List.length_append, List.length_eraseIdx, List.length_cons, List.length_take, List.length_drop]
      rw [Nat.min_eq_left (by omega), if_pos hin]
      omega
    · intro u hu
      unfold delL at hu
      rcases List.mem_append.1 hu with hu | hu
      · exact h1 u (List.mem_of_mem_take (List.mem_of_mem_eraseIdx hu))
      · rcases List.mem_cons.1 hu with rfl | hu
        · rfl
        · exact h1 u (List.mem_of_mem_drop hu)
    · intro j x hj
      have hjl := (List.getElem?_eq_some_iff.1 hj).1
      rw [hlen] at hjl
      unfold delL
      rw [List.getElem?_append_left (by rw [List.length_eraseIdx, List.length_take, Nat.min_eq_left (by omega), if_pos hin]; omega)]
      rw [List.getElem?_eraseIdx] at hj ⊢
      split at hj
      · rename_i h9
        rw [if_pos h9, List.getElem?_take, if_pos (by omega)]
        exact hts j x hj
      · rename_i h9
        rw [if_neg h9, List.getElem?_take, if_pos (by omega)]
        exact hts (j + 1) x hj))
  clear hB h hF hT hd hts h1 hL hi hap
  unfold ptr
  go_enter Try.func23, Try.ntmps23
  go_wp2_with fail
  refine (CI.out).mono ?_
  rintro e w' ⟨rfl, rfl⟩
  go_wp2_with fail
  refine (CD.out).mono ?_
  rintro e w1 ⟨rfl, hF1, hB1⟩
  have hB2 : LB w1 Lb room (.slice (some ⟨F, 0, none⟩) ts.length cap) M := (hB1.o Lb hlb (fun e => HFL.out e.symm)).trans HB.out
  have hlb1 := hB2.lt
  obtain ⟨-, d1, -, g1⟩ := hB2.cells
  have E := Lib.hid (show LB (w1.setCell ⟨Lb, 1, none⟩ (.slice (some ⟨F, 0, none⟩) (ts.length - 1) cap)) Lb room (.slice (some ⟨F, 0, none⟩) (ts.length - 1) cap) M ∧ FR (w1.setCell ⟨Lb, 1, none⟩ (.slice (some ⟨F, 0, none⟩) (ts.length - 1) cap)) F (.slice (some ⟨F, 0, none⟩) (ts.length - 1) cap) (ts.eraseIdx i) ∧ Bl w' (w1.setCell ⟨Lb, 1, none⟩ (.slice (some ⟨F, 0, none⟩) (ts.length - 1) cap)) Lb (some F) from
    ⟨hB2.front _, DL.out _ ((heap_setCell_other w1 ⟨Lb, 1, none⟩ F _ HFL.out).trans hF1),
      fun k hk h1 h2 => (heap_setCell_other w1 ⟨Lb, 1, none⟩ k _ h1).trans (hB1.o k hk (fun e => h2 (by rw [e]))), by simpa using hB1.z,
      fun H h1 h2 h3 => (hB1.b H (h2 F rfl) h3).setCell (p := ⟨Lb, 1, none⟩) h1 _⟩)
  clear hF1 hB1 hB2 c0 c1 c2 f1
  go_wp2_with fail
  go_end0
  exact ⟨rfl, _, E.out.1, E.out.2.1, rfl, E.out.2.2⟩
end Go.Proofs.Ytncpikaegcookaa
