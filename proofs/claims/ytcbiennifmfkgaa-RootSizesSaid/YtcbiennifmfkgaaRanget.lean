/- A range over a function, where the iterator lays its memory ahead of the first thing that it tells, and writes no more; the body grows rows of its own. -/
import Derived.Test.YtcbiennifmfkgaaRanger
namespace Go.Proofs.Ytcbiennifmfkgaa
open Go.ChangeShapes Go.WideShapes Go.ChangeAt Go.RowKit
set_option linter.unusedVariables false
set_option linter.unusedSimpArgs false
/-- Block n, and memory from B to T, is as it was. -/
def Kt (n B T : Nat) (A C : World) : Prop := (∀ o, A.heap[n]? = some o → C.heap[n]? = some o) ∧ ∀ (k : Nat) (o : Obj), B ≤ k → k < T → A.heap[k]? = some o → C.heap[k]? = some o
theorem Kt.trans {n B T : Nat} {A C D : World} (h : Kt n B T A C) (g : Kt n B T C D) : Kt n B T A D := ⟨fun o ho => g.1 o (h.1 o ho), fun k o hk hT ho => g.2 k o hk hT (h.2 k o hk hT ho)⟩
theorem Kt.size {n B T k : Nat} {A C : World} (h : Kt n B T A C) (hk : k < A.heap.size) (hB : B ≤ k) (hT : k < T) : k < C.heap.size := (Array.getElem?_eq_some_iff.1 (h.2 k _ hB hT (Array.getElem?_eq_getElem hk))).1
theorem Kt.le {n B B' T : Nat} {A C : World} (h : Kt n B T A C) (hB : B ≤ B') : Kt n B' T A C := ⟨h.1, fun k o hk hT ho => h.2 k o (by omega) hT ho⟩
theorem Kt.put {n B T l : Nat} {A : World} (hl : n < l) (hB : l < B) (hz : l < A.heap.size) (o : Obj) : Kt n B T A (A.putObj l o) :=
  ⟨fun x hx => (World.putObj_heap_other (by omega)).trans hx, fun k x hk _ hx => (World.putObj_heap_other (by omega)).trans hx⟩
/-- The iterator's contract. -/
def SeqTo {α : Type} (F : Fence) (n : Nat) (P : Program) (g : Nat) (lb : Array Value) (enc : α → Array Value) (n₀ : Nat) (S Sp : List α → Prop) (Rel : List α → α → Prop) (w : World) : Prop :=
  ∀ (l : Nat) (J : Nat → List α → World → Prop) (Jx : List α → World → Prop) (W : World), Below w.heap.size w W → (∀ C, Below W.heap.size W C → J C.heap.size [] C) →
    (∀ T pre x V, J T pre V → W.heap.size ≤ T → T ≤ V.heap.size → Rel pre x → YieldAt F (n - 1) P l (enc x) V fun e V' => (e = .returned (.bool true) ∧ J T (pre ++ [x]) V' ∧ Kt n₀ W.heap.size T V V') ∨ (e = .returned (.bool false) ∧ Jx (pre ++ [x]) V')) →
    CallsIn F n P g (#[.func (.yield l) #[] #[]] ++ lb) W fun e W' => (∃ v, e = .returned v) ∧ ((∃ T xs, S xs ∧ J T xs W') ∨ ∃ pre, Sp pre ∧ Jx pre W')
/-- How the body may be left. -/
def postT {α : Type} (n₀ B T : Nat) (I : Nat → List α → World → Prop) (xs : List α) (W : World) : Exit → Act → World → Prop
  | .normal, _, W' => Kt n₀ B T W W' ∧ I T xs W'
  | _, _, _ => False
variable {F : Fence} {n : Nat} {P : Program}
theorem wp_range_to {α : Type} {g : Operand} {ps : Array Tmp} {assign body : Code} {Q : Exit → Act → World → Prop} {a : Act} {w : World}
    (hro : F.round = none) (h1 : 1 ≤ n) {gf : Nat} {lb : Array Value} (hg : a.eval g = .func (.func gf) #[] lb) (hFg : F.fn gf) (eg : ∀ args w, (callFunc gf args).run P w = .ok (.enter gf args) w)
    {enc : α → Array Value} {n₀ : Nat} {S Sp : List α → Prop} {Rel : List α → α → Prop} {w0 : World} (hseq : SeqTo F (n - 1) P gf lb enc n₀ S Sp Rel w0) (hn : n₀ < w.heap.size) (hb0 : Below w0.heap.size w0 w) (hps : ∀ x, (enc x).size = ps.size)
    (I : Nat → List α → World → Prop) (hIp : ∀ (T : Nat) (pre : List α) (A : World) (l : Nat) (o o' : Obj), w.heap.size ≤ l → A.heap[l]? = some o → o.isCells = false → I T pre A → I T pre (A.putObj l o')) (h0 : ∀ C, Below w.heap.size w C → I C.heap.size [] C) (a₁ : α → Act)
    (hassign : ∀ (l : Nat) (x : α) (W : World) (K : Act → World → Prop), K (a₁ x) W →
      assign.wpIn (F.inRound l) (n - 1 - 1) P (Exit.then K (fun _ _ _ => False)) { tmps := (ps.zip (enc x)).foldl (fun t (p, v) => t.setIfInBounds p v) a.tmps, defers := [] } W)
    (hbody : ∀ (l T : Nat) (pre : List α) (x : α) (W : World), I T pre W → Rel pre x → w.heap.size ≤ T → T ≤ W.heap.size → body.wpIn (F.inRound l) (n - 1 - 1) P (postT n₀ w.heap.size T I (pre ++ [x]) W) (a₁ x) W)
    (hdone : ∀ (D T : Nat) (xs : List α) (W : World), w.heap.size ≤ D → S xs → I T xs W → W.heap[D]? = some (.deferred (some [])) → Q .normal { a with defers := { target := .collected D, args := #[] } :: a.defers } W) :
    (Code.rangeFunc g ps assign body).wpIn F n P Q a w := by
  refine wpIn_rangeFunc (fun fn hfn => ?_)
  rw [hro]
  let ob : LoopState → Option Code → Loop := fun st pe => { state := st, pending := pe, fn, tmps := a.tmps, params := ps, assign, body, defers := w.heap.size }
  obtain ⟨L, hL⟩ : ∃ L, w.heap.size + 1 = L := ⟨_, rfl⟩
  obtain ⟨W1, hW1⟩ : ∃ W1, (w.alloc (.deferred (some []))).alloc (.loop (ob .ready none)) = W1 := ⟨_, rfl⟩
  have s1 : W1.heap.size = L + 1 := by rw [← hW1, ← hL]; simp
  have hl1 : W1.heap[L]? = some (.loop (ob .ready none)) := by
    have := World.alloc_heap_new (w.alloc (.deferred (some []))) (.loop (ob .ready none))
    rwa [World.size_alloc, hW1, hL] at this
  have hd1 : W1.heap[w.heap.size]? = some (.deferred (some [])) := by
    rw [← hW1]; exact (Below.heap_alloc _ _ _ (by simp)).trans (World.alloc_heap_new w _)
  have b1 : Below w.heap.size w W1 := by rw [← hW1]; exact ((Below.refl _ w).alloc (Nat.le_refl _) _).alloc (by simp) _
  refine ⟨L, [{ target := .collected w.heap.size, args := #[] }], W1, { target := .fn (.func gf) lb, args := #[.func (.yield L) #[] #[]] }, W1, gf, #[.func (.yield L) #[] #[]] ++ lb, W1, ?_, ?_, ?_, ?_, fun _ => h1, ?_⟩
  · rw [← hW1, ← hL]; exact run_enterLoop_outer _ _ _ _ _
  · simp only [resolve, hg]; simp [go_sem]
  · intro f' hf'; simp [Target.leads] at hf'; subst hf'; exact hFg
  · simp [invoke, go_sem, eg]
  refine (hseq L (fun T pre W => I T pre W ∧ W.heap[L]? = some (.loop (ob .ready none)) ∧ W.heap[w.heap.size]? = some (.deferred (some [])))
    (fun _ _ => False) W1 (hb0.trans (b1.mono hb0.size)) (fun C hC => ⟨h0 C (b1.trans (hC.mono (by omega))), (hC.block L (by omega)).trans hl1, (hC.block _ (by omega)).trans hd1⟩) ?_).mono ?_
  · rintro T pre x V ⟨hi, hl, hd⟩ hT hTV hrel
    have hsz : L < V.heap.size := (Array.getElem?_eq_some_iff.1 hl).1
    obtain ⟨V1, hV1⟩ : ∃ V1, V.putObj L (.loop { ob .ready none with state := .busy }) = V1 := ⟨_, rfl⟩
    have hl1' : V1.heap[L]? = some (.loop { ob .ready none with state := .busy }) := by rw [← hV1]; exact World.putObj_heap_same hsz
    have hd1' : V1.heap[w.heap.size]? = some (.deferred (some [])) := by rw [← hV1]; exact (World.putObj_heap_other (by omega)).trans hd
    have k1 : Kt n₀ W1.heap.size T V V1 := by rw [← hV1]; exact Kt.put (by omega) (by omega) hsz _
    have i1 : I T pre V1 := by rw [← hV1]; exact hIp _ _ _ _ _ _ (by omega) hl rfl hi
    have z1 : V1.heap.size = V.heap.size := by rw [← hV1]; simp
    refine ⟨fn, _, assign, body, run_yield (P := P) (args := enc x) hl (hps x), roundIn_of_wpIn hfn (hassign _ x V _ ⟨V1, by rw [← hV1]; exact run_beginRound hl rfl, ?_⟩)⟩
    refine wpIn_mono (hbody L T pre x V1 i1 hrel (by omega) (by omega)) ?_
    rintro e a3 V2 hp
    cases e with
    | normal =>
      obtain ⟨hkp, hi2⟩ := hp
      have e := hkp.2 _ _ (by omega) (by omega) hl1'
      have ed := hkp.2 _ _ (Nat.le_refl _) (by omega) hd1'
      have hz2 := (Array.getElem?_eq_some_iff.1 e).1
      refine ⟨_, _, run_endRound (P := P) none e, .inl ⟨rfl, ⟨hIp _ _ _ _ _ _ (by omega) e rfl hi2, World.putObj_heap_same hz2, (World.putObj_heap_other (by omega)).trans ed⟩, (k1.trans (hkp.le (by omega))).trans (Kt.put (by omega) (by omega) hz2 _)⟩⟩
    | ret => exact hp.elim
    | exit i => exact hp.elim
    | goto t => exact hp.elim
    | panic ch => exact hp.elim
    | outgrown => exact hp.elim
  · rintro e W2 ⟨⟨v, rfl⟩, (⟨T, xs, hS, hi, hl, hd⟩ | ⟨pre, hSp, hf⟩)⟩
    · exact ⟨none, _, run_endLoop (P := P) hl (by simp [ob]), hdone _ T xs _ (Nat.le_refl _) hS (hIp _ _ _ _ _ _ (by omega) hl rfl hi) ((World.putObj_heap_other (by omega)).trans hd)⟩
    · exact hf.elim
end Go.Proofs.Ytcbiennifmfkgaa
