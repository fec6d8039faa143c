/- A range over a function, once more: the iterator tells of each thing how it stands to what came and to the world; the assignment may lay memory. -/
import Derived.Test.YtcbiennifmfkgaaRangeb
import Derived.Test.YtcbiennifmfkgaaOwnt
namespace Go.Proofs.Ytcbiennifmfkgaa
open Go.ChangeShapes Go.WideShapes Go.ChangeAt Go.RowKit
set_option linter.unusedVariables false
set_option linter.unusedSimpArgs false
/-- Memory before n, and from B on, is as it was. -/
def Kw (n B : Nat) (A C : World) : Prop := Below n A C ∧ ∀ (k : Nat) (o : Obj), B ≤ k → A.heap[k]? = some o → C.heap[k]? = some o
theorem Kw.trans {n B : Nat} {A C D : World} (h : Kw n B A C) (g : Kw n B C D) : Kw n B A D := ⟨h.1.trans g.1, fun k o hk ho => g.2 k o hk (h.2 k o hk ho)⟩
theorem Kw.le {n n' B B' : Nat} {A C : World} (h : Kw n B A C) (hn : n' ≤ n) (hB : B ≤ B') : Kw n' B' A C := ⟨h.1.mono hn, fun k o hk ho => h.2 k o (by omega) ho⟩
theorem Kw.of {n B : Nat} {A C : World} (h : Below A.heap.size A C) (hn : n ≤ A.heap.size) : Kw n B A C := ⟨h.mono hn, fun k o _ ho => (h.block k (Array.getElem?_eq_some_iff.1 ho).1).trans ho⟩
theorem Kw.put {n B l : Nat} {A : World} (hl : n ≤ l) (hB : l < B) (hz : l < A.heap.size) (o : Obj) : Kw n B A (A.putObj l o) :=
  ⟨(Below.refl n A).grown (grownBy_putObj' A l o) (by omega) (fun k e => by cases e; exact hl), fun k x hk hx => (World.putObj_heap_other (by omega)).trans hx⟩
theorem Kw.set {n B b i : Nat} {A : World} (v : Value) (hb : n ≤ b) (hB : b < B) : Kw n B A (A.setCell ⟨b, i, none⟩ v) :=
  ⟨(Below.refl n A).setCell (p := ⟨b, i, none⟩) hb v, fun k x hk hx => (heap_setCell_other A ⟨b, i, none⟩ k v (by show k ≠ b; omega)).trans hx⟩
/-- Memory from B on is as it was. -/
def Kc (B : Nat) (A C : World) : Prop := ∀ (k : Nat) (o : Obj), B ≤ k → A.heap[k]? = some o → C.heap[k]? = some o
/-- The iterator's contract. -/
def SeqRel {α : Type} (F : Fence) (n : Nat) (P : Program) (g : Nat) (lb : Array Value) (enc : α → Array Value) (n₀ : Nat) (S Sp : List α → Prop) (Rel : List α → α → World → Prop) (w : World) : Prop :=
  ∀ (l : Nat) (J Jx : List α → World → Prop) (W : World), Below w.heap.size w W → Low W.heap.size J → Low W.heap.size Jx →
    (∀ pre x V, J pre V → W.heap.size ≤ V.heap.size → Rel pre x V → YieldAt F (n - 1) P l (enc x) V fun e V' => (e = .returned (.bool true) ∧ J (pre ++ [x]) V' ∧ Kw n₀ W.heap.size V V') ∨ (e = .returned (.bool false) ∧ Jx (pre ++ [x]) V' ∧ Kc W.heap.size V V')) →
    J [] W → CallsIn F n P g (#[.func (.yield l) #[] #[]] ++ lb) W fun e W' => (∃ v, e = .returned v) ∧ ((∃ xs, S xs ∧ J xs W') ∨ ∃ pre, Sp pre ∧ Jx pre W')
/-- How the body may be left. -/
def postR {α : Type} (n₀ B : Nat) (I : List α → World → Prop) (Ix : Code → List α → World → Prop) (xs : List α) (W : World) : Exit → Act → World → Prop
  | .normal, _, W' => Kw n₀ B W W' ∧ I xs W'
  | .ret, _, W' => (∀ (k : Nat) (o : Obj), B ≤ k → W.heap[k]? = some o → W'.heap[k]? = some o) ∧ Ix .ret xs W'
  | .exit id, _, W' => (∀ (k : Nat) (o : Obj), B ≤ k → W.heap[k]? = some o → W'.heap[k]? = some o) ∧ Ix (.exit id) xs W'
  | .goto t, _, W' => (∀ (k : Nat) (o : Obj), B ≤ k → W.heap[k]? = some o → W'.heap[k]? = some o) ∧ Ix (.goto t) xs W'
  | .panic _, _, _ => False
  | .outgrown, _, _ => False
variable {F : Fence} {n : Nat} {P : Program}
theorem wp_range_rel {α : Type} {g : Operand} {ps : Array Tmp} {assign body : Code} {Q : Exit → Act → World → Prop} {a : Act} {w : World}
    (hro : F.round = none) (h1 : 1 ≤ n) {gf : Nat} {lb : Array Value} (hg : a.eval g = .func (.func gf) #[] lb) (hFg : F.fn gf) (eg : ∀ args w, (callFunc gf args).run P w = .ok (.enter gf args) w)
    {enc : α → Array Value} {n₀ : Nat} {S Sp : List α → Prop} {Rel : List α → α → World → Prop} {w0 : World} (hseq : SeqRel F (n - 1) P gf lb enc n₀ S Sp Rel w0) (hn : n₀ ≤ w.heap.size)
    (hR1 : ∀ (pre : List α) (x : α) (A C : World), w.heap.size ≤ A.heap.size → Rel pre x A → Below A.heap.size A C → Rel pre x C)
    (hR2 : ∀ (pre : List α) (x : α) (A : World) (l : Nat) (o o' : Obj), w.heap.size ≤ l → A.heap[l]? = some o → o.isCells = false → Rel pre x A → Rel pre x (A.putObj l o'))
    (hb0 : Below w0.heap.size w0 w) (hps : ∀ x, (enc x).size = ps.size)
    (I : List α → World → Prop) (Ix : Code → List α → World → Prop) (hI : Low w.heap.size I) (hIx : ∀ c, Low w.heap.size (Ix c)) (h0 : I [] w) (a₁ : α → World → Act) (w₁ : α → World → World) (hw₁ : ∀ x V, Below V.heap.size V (w₁ x V))
    (hassign : ∀ (l : Nat) (x : α) (W : World) (K : Act → World → Prop), K (a₁ x W) (w₁ x W) →
      assign.wpIn (F.inRound l) (n - 1 - 1) P (Exit.then K (fun _ _ _ => False)) { tmps := (ps.zip (enc x)).foldl (fun t (p, v) => t.setIfInBounds p v) a.tmps, defers := [] } W)
    (hbody : ∀ (l : Nat) (pre : List α) (x : α) (V W : World), I pre W → Rel pre x W → w.heap.size ≤ l → l < V.heap.size → W.heap.size = (w₁ x V).heap.size → (∀ k, k ≠ l → W.heap[k]? = (w₁ x V).heap[k]?) → body.wpIn (F.inRound l) (n - 1 - 1) P (postR n₀ w.heap.size I Ix (pre ++ [x]) W) (a₁ x V) W)
    (hdone : ∀ (D : Nat) (xs : List α) (W : World), w.heap.size ≤ D → S xs → I xs W → W.heap[D]? = some (.deferred (some [])) → Q .normal { a with defers := { target := .collected D, args := #[] } :: a.defers } W)
    (hstop : ∀ (D : Nat) (c : Code) (pre : List α) (W : World), w.heap.size ≤ D → Sp pre → Ix c pre W → W.heap[D]? = some (.deferred (some [])) → c.wpIn F n P Q { a with defers := { target := .collected D, args := #[] } :: a.defers } W) :
    (Code.rangeFunc g ps assign body).wpIn F n P Q a w := by
  refine wpIn_rangeFunc (fun fn hfn => ?_)
  rw [hro]
  let ob : LoopState → Option Code → Loop := fun st pe => { state := st, pending := pe, fn, tmps := a.tmps, params := ps, assign, body, defers := w.heap.size }
  obtain ⟨L, hL⟩ : ∃ L, w.heap.size + 1 = L := ⟨_, rfl⟩
  obtain ⟨W1, hW1⟩ : ∃ W1, (w.alloc (.deferred (some []))).alloc (.loop (ob .ready none)) = W1 := ⟨_, rfl⟩
  have s1 : W1.heap.size = L + 1 := by rw [← hW1, ← hL]; simp
  have hl1 : W1.heap[L]? = some (.loop (ob .ready none)) := by
    have := World.alloc_heap_new (w.alloc (.deferred (some []))) (.loop (ob .ready none))
    rwa [World.size_alloc, hW1, hL] at this
  have hd1 : W1.heap[w.heap.size]? = some (.deferred (some [])) := by
    rw [← hW1]; exact (Below.heap_alloc _ _ _ (by simp)).trans (World.alloc_heap_new w _)
  have b1 : Below w.heap.size w W1 := by rw [← hW1]; exact ((Below.refl _ w).alloc (Nat.le_refl _) _).alloc (by simp) _
  refine ⟨L, [{ target := .collected w.heap.size, args := #[] }], W1, { target := .fn (.func gf) lb, args := #[.func (.yield L) #[] #[]] }, W1, gf, #[.func (.yield L) #[] #[]] ++ lb, W1, ?_, ?_, ?_, ?_, fun _ => h1, ?_⟩
  · rw [← hW1, ← hL]; exact run_enterLoop_outer _ _ _ _ _
  · simp only [resolve, hg]; simp [go_sem]
  · intro f' hf'; simp [Target.leads] at hf'; subst hf'; exact hFg
  · simp [invoke, go_sem, eg]
  have hlow : ∀ (st : LoopState) (pe : Option Code), Low (β := List α) W1.heap.size (fun _ W => W.heap[L]? = some (.loop (ob st pe)) ∧ W.heap[w.heap.size]? = some (.deferred (some []))) := fun _ _ => (low_block (by omega)).and (low_block (by omega))
  refine (hseq L (fun pre W => I pre W ∧ W.heap[L]? = some (.loop (ob .ready none)) ∧ W.heap[w.heap.size]? = some (.deferred (some [])))
    (fun pre W => ∃ c, Ix c pre W ∧ W.heap[L]? = some (.loop (ob .done (some c))) ∧ W.heap[w.heap.size]? = some (.deferred (some [])))
    W1 (hb0.trans (b1.mono hb0.size)) ((hI.le (by omega)).and (hlow _ _)) (fun s A C hj hb => by
      obtain ⟨c, h1, h2⟩ := hj
      exact ⟨c, (hIx c).le (by omega) s A C h1 hb, hlow _ _ s A C h2 hb⟩) ?_ ⟨hI [] w W1 h0 b1, hl1, hd1⟩).mono ?_
  · rintro pre x V ⟨hi, hl, hd⟩ hVs hrel
    have hsz : L < V.heap.size := (Array.getElem?_eq_some_iff.1 hl).1
    have hbV := hw₁ x V
    obtain ⟨V0, hV0⟩ : ∃ V0, w₁ x V = V0 := ⟨_, rfl⟩
    rw [hV0] at hbV
    have hl0 : V0.heap[L]? = some (.loop (ob .ready none)) := (hbV.block L hsz).trans hl
    have hd0 : V0.heap[w.heap.size]? = some (.deferred (some [])) := (hbV.block _ (by omega)).trans hd
    have hsz0 : L < V0.heap.size := Nat.lt_of_lt_of_le hsz hbV.size
    obtain ⟨V1, hV1⟩ : ∃ V1, V0.putObj L (.loop { ob .ready none with state := .busy }) = V1 := ⟨_, rfl⟩
    have hl1' : V1.heap[L]? = some (.loop { ob .ready none with state := .busy }) := by rw [← hV1]; exact World.putObj_heap_same hsz0
    have hd1' : V1.heap[w.heap.size]? = some (.deferred (some [])) := by rw [← hV1]; exact (World.putObj_heap_other (by omega)).trans hd0
    have k0 : Kw n₀ W1.heap.size V V0 := Kw.of hbV (by omega)
    have k1 : Kw n₀ W1.heap.size V0 V1 := by rw [← hV1]; exact Kw.put (by omega) (by omega) hsz0 _
    have i1 : I pre V1 := by rw [← hV1]; exact low_put hI _ (hI _ _ _ hi (hbV.mono (by omega))) (by omega) hsz0
    have r1 : Rel pre x V1 := by rw [← hV1]; exact hR2 _ _ _ _ _ _ (by omega) hl0 rfl (hR1 _ _ _ _ (by omega) hrel hbV)
    refine ⟨fn, _, assign, body, run_yield (P := P) (args := enc x) hl (hps x), roundIn_of_wpIn hfn (hassign _ x V _ ?_)⟩
    rw [hV0]
    refine ⟨V1, by rw [← hV1]; exact run_beginRound hl0 rfl, ?_⟩
    have fin : ∀ (j : Option Code) (V2 : World), (∀ (k : Nat) (o : Obj), w.heap.size ≤ k → V1.heap[k]? = some o → V2.heap[k]? = some o) → ∃ V3, (Instr.endRound L j).run P V2 = .ok (.bool j.isNone) V3 ∧ V2.putObj L (.loop (ob (if j.isNone then .ready else .done) j)) = V3 ∧
        V2.heap[L]? = some (.loop { ob .ready none with state := .busy }) ∧ V3.heap[L]? = some (.loop (ob (if j.isNone then .ready else .done) j)) ∧ V3.heap[w.heap.size]? = some (.deferred (some [])) := fun j V2 hk => by
      have e := hk _ _ (by omega) hl1'
      exact ⟨_, run_endRound (P := P) j e, rfl, e, World.putObj_heap_same (Array.getElem?_eq_some_iff.1 e).1, (World.putObj_heap_other (by omega)).trans (hk _ _ (Nat.le_refl _) hd1')⟩
    have out : ∀ (c : Code) (V2 : World), (∀ (k : Nat) (o : Obj), w.heap.size ≤ k → V1.heap[k]? = some o → V2.heap[k]? = some o) → Ix c (pre ++ [x]) V2 → ∃ b V3, (Instr.endRound L (some c)).run P V2 = .ok b V3 ∧ ((Ending.returned b = .returned (.bool true) ∧ (I (pre ++ [x]) V3 ∧ V3.heap[L]? = some (.loop (ob .ready none)) ∧ V3.heap[w.heap.size]? = some (.deferred (some []))) ∧ Kw n₀ W1.heap.size V V3) ∨
        (Ending.returned b = .returned (.bool false) ∧ (∃ c, Ix c (pre ++ [x]) V3 ∧ V3.heap[L]? = some (.loop (ob .done (some c))) ∧ V3.heap[w.heap.size]? = some (.deferred (some []))) ∧ Kc W1.heap.size V V3)) := fun c V2 hk hi => by
      obtain ⟨V3, r, e, hl2, hl3, hd3⟩ := fin (some c) V2 hk
      exact ⟨_, V3, r, .inr ⟨rfl, ⟨c, by rw [← e]; exact low_put (hIx c) _ hi (by omega) (Array.getElem?_eq_some_iff.1 hl2).1, hl3, hd3⟩, fun k o hB ho => by rw [← e]; exact (World.putObj_heap_other (by omega)).trans (hk k o (by omega) (k1.2 k o hB (k0.2 k o hB ho)))⟩⟩
    have hb := hbody L pre x V V1 i1 r1 (by omega) hsz (by rw [hV0, ← hV1]; simp) (fun k hk => by rw [hV0, ← hV1]; exact World.putObj_heap_other (fun e => hk e))
    refine wpIn_mono hb ?_
    rintro e a3 V2 hp
    cases e with
    | normal =>
      obtain ⟨hkp, hi2⟩ := hp
      obtain ⟨V3, r, e, hl2, hl3, hd3⟩ := fin none V2 hkp.2
      exact ⟨_, V3, r, .inl ⟨rfl, ⟨by rw [← e]; exact low_put hI _ hi2 (by omega) (Array.getElem?_eq_some_iff.1 hl2).1, hl3, hd3⟩, ((k0.trans k1).trans (hkp.le (Nat.le_refl _) (by omega))).trans (by rw [← e]; exact Kw.put (by omega) (by omega) (Array.getElem?_eq_some_iff.1 hl2).1 _)⟩⟩
    | ret => exact out .ret V2 hp.1 hp.2
    | exit i => exact out (.exit i) V2 hp.1 hp.2
    | goto t => exact out (.goto t) V2 hp.1 hp.2
    | panic ch => exact hp.elim
    | outgrown => exact hp.elim
  · rintro e W2 ⟨⟨v, rfl⟩, (⟨xs, hS, hi, hl, hd⟩ | ⟨pre, hSp, c, hi, hl, hd⟩)⟩
    · exact ⟨none, _, run_endLoop (P := P) hl (by simp [ob]), hdone _ xs _ (Nat.le_refl _) hS (low_put hI _ hi (by omega) (Array.getElem?_eq_some_iff.1 hl).1) ((World.putObj_heap_other (by omega)).trans hd)⟩
    · exact ⟨some c, _, run_endLoop (P := P) hl (by simp [ob]), hstop _ c pre _ (Nat.le_refl _) hSp (low_put (hIx c) _ hi (by omega) (Array.getElem?_eq_some_iff.1 hl).1) ((World.putObj_heap_other (by omega)).trans hd)⟩
end Go.Proofs.Ytcbiennifmfkgaa
