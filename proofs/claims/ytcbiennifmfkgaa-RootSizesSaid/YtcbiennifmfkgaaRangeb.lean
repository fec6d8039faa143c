/- A range over a function whose iterator writes, behind a yield, into memory that it laid itself. -/
import Derived.RangeFuncFrom
import Derived.RangeFuncNested
import Derived.RangeFuncBound
import Derived.RangeFuncCalls
import Derived.RangeFuncLeaves
import Derived.Shelf.Abstract
import Derived.Shelf.RegionOpen
import Derived.WalkKit
import Derived.OwnWalkIn
import Derived.TacticsInMore
import Derived.LoopNIn
import Derived.LoopIn
import Derived.Test.YtcbiennifmfkgaaD11
namespace Go.Proofs.Ytcbiennifmfkgaa
open Go.ChangeShapes Go.WideShapes Go.ChangeAt Go.RowKit
set_option linter.unusedVariables false
set_option linter.unusedSimpArgs false
/-- What is said of blocks before B alone. -/
def Low {β : Type} (B : Nat) (J : β → World → Prop) : Prop := ∀ s A C, J s A → Below B A C → J s C
theorem Low.le {β : Type} {B B' : Nat} {J : β → World → Prop} (h : Low B J) (hB : B ≤ B') : Low B' J := fun s A C hj hb => h s A C hj (hb.mono hB)
theorem Low.and {β : Type} {B : Nat} {J K : β → World → Prop} (h : Low B J) (g : Low B K) : Low B (fun s W => J s W ∧ K s W) := fun s A C hj hb => ⟨h s A C hj.1 hb, g s A C hj.2 hb⟩
theorem low_block {β : Type} {B l : Nat} {o : Obj} (hl : l < B) : Low B (fun (_ : β) W => W.heap[l]? = some o) := fun _ _ _ hj hb => (hb.block l hl).trans hj
theorem low_put {β : Type} {B l : Nat} {J : β → World → Prop} (h : Low B J) {s : β} {W : World} (o : Obj) (hj : J s W) (hB : B ≤ l) (hl : l < W.heap.size) : J s (W.putObj l o) :=
  h s _ _ hj ((Below.refl B W).grown (grownBy_putObj' W l o) (by omega) (fun k e => by cases e; exact hB))
/-- The iterator's contract: what it does itself, between its yields, is to memory from its call on. -/
def SeqLow {α : Type} (F : Fence) (n : Nat) (P : Program) (g : Nat) (lb : Array Value) (enc : α → Array Value) (Kp : World → World → Prop) (S Sp : List α → Prop) (N : Nat) (w : World) : Prop :=
  ∀ (l : Nat) (J Jx : List α → World → Prop) (W : World), Below w.heap.size w W → Low W.heap.size J → Low W.heap.size Jx →
    (∀ pre x V, J pre V → pre.length < N → YieldAt F (n - 1) P l (enc x) V fun e V' => (e = .returned (.bool true) ∧ J (pre ++ [x]) V' ∧ Kp V V') ∨ (e = .returned (.bool false) ∧ Jx (pre ++ [x]) V')) →
    J [] W → CallsIn F n P g (#[.func (.yield l) #[] #[]] ++ lb) W fun e W' => (∃ v, e = .returned v) ∧ ((∃ xs, S xs ∧ J xs W') ∨ ∃ pre, Sp pre ∧ Jx pre W')
variable {F : Fence} {n : Nat} {P : Program}
theorem wp_range_low {α : Type} {g : Operand} {ps : Array Tmp} {assign body : Code} {Q : Exit → Act → World → Prop} {a : Act} {w : World}
    (hro : F.round = none) (h1 : 1 ≤ n) {gf : Nat} {lb : Array Value} (hg : a.eval g = .func (.func gf) #[] lb) (hFg : F.fn gf) (eg : ∀ args w, (callFunc gf args).run P w = .ok (.enter gf args) w)
    {enc : α → Array Value} {Kp : World → World → Prop} {S Sp : List α → Prop} {N : Nat} {w0 : World} (hseq : SeqLow F (n - 1) P gf lb enc Kp S Sp N w0)
    (hKt : ∀ A B C : World, Kp A B → Kp B C → Kp A C) (hKb : ∀ (W : World) (l : Nat) (o o' : Obj), w.heap.size ≤ l → W.heap[l]? = some o → o.isCells = false → Kp W (W.putObj l o')) (hb0 : Below w0.heap.size w0 w) (hps : ∀ x, (enc x).size = ps.size)
    (I : List α → World → Prop) (Ix : Code → List α → World → Prop) (hI : Low w.heap.size I) (hIx : ∀ c, Low w.heap.size (Ix c)) (h0 : I [] w) (a₁ : α → Act)
    (hassign : ∀ (l : Nat) (x : α) (W : World) (K : Act → World → Prop), K (a₁ x) W →
      assign.wpIn (F.inRound l) (n - 1 - 1) P (Exit.then K (fun _ _ _ => False)) { tmps := (ps.zip (enc x)).foldl (fun t (p, v) => t.setIfInBounds p v) a.tmps, defers := [] } W)
    (hbody : ∀ (l : Nat) (pre : List α) (x : α) (W : World), I pre W → pre.length < N → body.wpIn (F.inRound l) (n - 1 - 1) P (ownPostK Kp I Ix (pre ++ [x]) W) (a₁ x) W)
    (hdone : ∀ (D : Nat) (xs : List α) (W : World), w.heap.size ≤ D → S xs → I xs W → W.heap[D]? = some (.deferred (some [])) → Q .normal { a with defers := { target := .collected D, args := #[] } :: a.defers } W)
    (hstop : ∀ (D : Nat) (c : Code) (pre : List α) (W : World), w.heap.size ≤ D → Sp pre → Ix c pre W → W.heap[D]? = some (.deferred (some [])) → c.wpIn F n P Q { a with defers := { target := .collected D, args := #[] } :: a.defers } W) :
    (Code.rangeFunc g ps assign body).wpIn F n P Q a w := by
  refine wpIn_rangeFunc (fun fn hfn => ?_)
  rw [hro]
  -- the loop as an object, by its state and what is to be done behind it
  let ob : LoopState → Option Code → Loop := fun st pe => { state := st, pending := pe, fn, tmps := a.tmps, params := ps, assign, body, defers := w.heap.size }
  obtain ⟨L, hL⟩ : ∃ L, w.heap.size + 1 = L := ⟨_, rfl⟩
  obtain ⟨W1, hW1⟩ : ∃ W1, (w.alloc (.deferred (some []))).alloc (.loop (ob .ready none)) = W1 := ⟨_, rfl⟩
  have s1 : W1.heap.size = L + 1 := by rw [← hW1, ← hL]; simp
  have hl1 : W1.heap[L]? = some (.loop (ob .ready none)) := by
    have := World.alloc_heap_new (w.alloc (.deferred (some []))) (.loop (ob .ready none))
    rwa [World.size_alloc, hW1, hL] at this
  have hd1 : W1.heap[w.heap.size]? = some (.deferred (some [])) := by
    rw [← hW1]; exact (Below.heap_alloc _ _ _ (by simp)).trans (World.alloc_heap_new w _)
  have b1 : Below w.heap.size w W1 := by rw [← hW1]; exact ((Below.refl _ w).alloc (Nat.le_refl _) _).alloc (by simp) _
  refine ⟨L, [{ target := .collected w.heap.size, args := #[] }], W1, { target := .fn (.func gf) lb, args := #[.func (.yield L) #[] #[]] }, W1, gf, #[.func (.yield L) #[] #[]] ++ lb, W1, ?_, ?_, ?_, ?_, fun _ => h1, ?_⟩
  · rw [← hW1, ← hL]; exact run_enterLoop_outer _ _ _ _ _
  · simp only [resolve, hg]; simp [go_sem]
  · intro f' hf'; simp [Target.leads] at hf'; subst hf'; exact hFg
  · simp [invoke, go_sem, eg]
  have hlow : ∀ (st : LoopState) (pe : Option Code), Low (β := List α) W1.heap.size (fun _ W => W.heap[L]? = some (.loop (ob st pe)) ∧ W.heap[w.heap.size]? = some (.deferred (some []))) := fun _ _ => (low_block (by omega)).and (low_block (by omega))
  refine (hseq L (fun pre W => I pre W ∧ W.heap[L]? = some (.loop (ob .ready none)) ∧ W.heap[w.heap.size]? = some (.deferred (some [])))
    (fun pre W => ∃ c, Ix c pre W ∧ W.heap[L]? = some (.loop (ob .done (some c))) ∧ W.heap[w.heap.size]? = some (.deferred (some [])))
    W1 (hb0.trans (b1.mono hb0.size)) ((hI.le (by omega)).and (hlow _ _)) (fun s A C hj hb => by
      obtain ⟨c, h1, h2⟩ := hj
      exact ⟨c, (hIx c).le (by omega) s A C h1 hb, hlow _ _ s A C h2 hb⟩) ?_ ⟨hI [] w W1 h0 b1, hl1, hd1⟩).mono ?_
  · -- one round
    rintro pre x V ⟨hi, hl, hd⟩ hn
    have hsz : L < V.heap.size := (Array.getElem?_eq_some_iff.1 hl).1
    obtain ⟨V1, hV1⟩ : ∃ V1, V.putObj L (.loop { ob .ready none with state := .busy }) = V1 := ⟨_, rfl⟩
    have hl1' : V1.heap[L]? = some (.loop { ob .ready none with state := .busy }) := by rw [← hV1]; exact World.putObj_heap_same hsz
    have hd1' : V1.heap[w.heap.size]? = some (.deferred (some [])) := by rw [← hV1]; exact (World.putObj_heap_other (by omega)).trans hd
    have k1 : Kp V V1 := by rw [← hV1]; exact hKb _ _ _ _ (by omega) hl rfl
    have i1 : I pre V1 := by rw [← hV1]; exact low_put hI _ hi (by omega) hsz
    refine ⟨fn, _, assign, body, run_yield (P := P) (args := enc x) hl (hps x), roundIn_of_wpIn hfn (hassign _ x V _ ⟨V1, by rw [← hV1]; exact run_beginRound hl rfl, ?_⟩)⟩
    -- behind the body: the loop's object is as it was; its end is written
    have fin : ∀ (j : Option Code) (V2 : World), KeepsOthers V1 V2 → ∃ V3, (Instr.endRound L j).run P V2 = .ok (.bool j.isNone) V3 ∧ V2.putObj L (.loop (ob (if j.isNone then .ready else .done) j)) = V3 ∧
        V2.heap[L]? = some (.loop { ob .ready none with state := .busy }) ∧ V3.heap[L]? = some (.loop (ob (if j.isNone then .ready else .done) j)) ∧ V3.heap[w.heap.size]? = some (.deferred (some [])) := fun j V2 hk => by
      have e := hk.same _ _ hl1' rfl
      exact ⟨_, run_endRound (P := P) j e, rfl, e, World.putObj_heap_same (Array.getElem?_eq_some_iff.1 e).1, (World.putObj_heap_other (by omega)).trans (hk.same _ _ hd1' rfl)⟩
    have out : ∀ (c : Code) (V2 : World), KeepsOthers V1 V2 → Ix c (pre ++ [x]) V2 → ∃ b V3, (Instr.endRound L (some c)).run P V2 = .ok b V3 ∧ ((Ending.returned b = .returned (.bool true) ∧ (I (pre ++ [x]) V3 ∧ V3.heap[L]? = some (.loop (ob .ready none)) ∧ V3.heap[w.heap.size]? = some (.deferred (some []))) ∧ Kp V V3) ∨
        (Ending.returned b = .returned (.bool false) ∧ ∃ c, Ix c (pre ++ [x]) V3 ∧ V3.heap[L]? = some (.loop (ob .done (some c))) ∧ V3.heap[w.heap.size]? = some (.deferred (some [])))) := fun c V2 hk hi => by
      obtain ⟨V3, r, e, hl2, hl3, hd3⟩ := fin (some c) V2 hk
      exact ⟨_, V3, r, .inr ⟨rfl, c, by rw [← e]; exact low_put (hIx c) _ hi (by omega) (Array.getElem?_eq_some_iff.1 hl2).1, hl3, hd3⟩⟩
    refine wpIn_mono (hbody _ pre x V1 i1 hn) ?_
    rintro e a3 V2 hp
    cases e with
    | normal =>
      obtain ⟨hk, hkp, hi2⟩ := hp
      obtain ⟨V3, r, e, hl2, hl3, hd3⟩ := fin none V2 hk
      exact ⟨_, V3, r, .inl ⟨rfl, ⟨by rw [← e]; exact low_put hI _ hi2 (by omega) (Array.getElem?_eq_some_iff.1 hl2).1, hl3, hd3⟩, hKt _ _ _ (hKt _ _ _ k1 hkp) (by rw [← e]; exact hKb _ _ _ _ (by omega) hl2 rfl)⟩⟩
    | ret => exact out .ret V2 hp.1 hp.2
    | exit i => exact out (.exit i) V2 hp.1 hp.2
    | goto t => exact out (.goto t) V2 hp.1 hp.2
    | panic ch => exact hp.elim
    | outgrown => exact hp.elim
  · rintro e W2 ⟨⟨v, rfl⟩, (⟨xs, hS, hi, hl, hd⟩ | ⟨pre, hSp, c, hi, hl, hd⟩)⟩
    · exact ⟨none, _, run_endLoop (P := P) hl (by simp [ob]), hdone _ xs _ (Nat.le_refl _) hS (low_put hI _ hi (by omega) (Array.getElem?_eq_some_iff.1 hl).1) ((World.putObj_heap_other (by omega)).trans hd)⟩
    · exact ⟨some c, _, run_endLoop (P := P) hl (by simp [ob]), hstop _ c pre _ (Nat.le_refl _) hSp (low_put (hIx c) _ hi (by omega) (Array.getElem?_eq_some_iff.1 hl).1) ((World.putObj_heap_other (by omega)).trans hd)⟩
end Go.Proofs.Ytcbiennifmfkgaa
