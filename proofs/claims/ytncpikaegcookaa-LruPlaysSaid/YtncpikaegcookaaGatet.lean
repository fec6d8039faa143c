/- The gate law, where the store waits for a load by a chain of operations. -/
import Derived.Test.YtncpikaegcookaaGate
namespace Go.Proofs.Ytncpikaegcookaa
open Go.ChangeShapes Go.WideShapes Go.ChangeAt Go.RowKit
set_option linter.unusedVariables false
section
variable {P : Program} {ops : Array Oper} {Q : Exit → Act → World → Prop} {md : Region.Mode} {S : World → Prop} {s : Nat}
/-- Each waits for the next one. -/
def chainB (md : Region.Mode) (ops : Array Oper) : List Nat → Bool
  | [] => true
  | [_] => true
  | x :: y :: r => waitsB md ops x y && chainB md ops (y :: r)
theorem chain_ready : ∀ (L : List Nat) (i : Nat) {listed : Array Bool}, chainB md ops (L ++ [i]) = true → (∀ x ∈ L ++ [i], listed.getD x true = false) → ∀ x ∈ L, x ∉ Region.ready md ops listed
  | [], _, _, _, _, x, hx => by cases hx
  | [y], i, listed, h, hu, x, hx => by
    rw [List.mem_singleton] at hx; subst hx
    have h1 : waitsB md ops x i = true := by
      have : chainB md ops [x, i] = true := h
      unfold chainB at this
      rw [Bool.and_eq_true] at this
      exact this.1
    exact (waits_ready (s := x) h1 (hu i (by simp))).2
  | y :: z :: L, i, listed, h, hu, x, hx => by
    have h' : chainB md ops (y :: z :: (L ++ [i])) = true := h
    unfold chainB at h'
    rw [Bool.and_eq_true] at h'
    rcases List.mem_cons.1 hx with rfl | hx
    · exact (waits_ready (s := x) h'.1 (hu z (by simp))).2
    · exact chain_ready (z :: L) i h'.2 (fun t ht => hu t (List.mem_cons_of_mem _ ht)) x hx
theorem gate_firstT {i : Nat} {oi : Oper} {v : Value} (L : List Nat) (hi : ops[i]? = some oi) (hsel : ∀ (j : Nat) (o : Oper) cs b, ops[j]? = some o → o.op ≠ .select cs b)
    (hQ : ∀ c a w, Q (.panic c) (a.put oi.dst v) w → Q (.panic c) a w) (hch : chainB md ops (s :: L ++ [i]) = true) (hsi : s ≠ i) :
    ∀ (fuel : Nat) (listed : Array Bool) (a : Act) (w : World),
      (∀ j oj, ops[j]? = some oj → j ≠ i → listed.getD j true = false → (∀ e ∈ oj.after, Region.binds md e = true → e.on ≠ i) → oi.apart ops oj = true) →
      i ∈ Region.ready md ops listed → YieldsIf P ops S oi v a → (∀ x ∈ s :: L ++ [i], listed.getD x true = false) → S w →
      wpGate P md ops Q S s fuel (listed.setIfInBounds i true) (a.put oi.dst v) w → wpGate P md ops Q S s (fuel + 1) listed a w := by
  intro fuel
  induction fuel with
  | zero =>
    intro listed a w _ hr hy _ hS H
    refine ⟨fun h => (by rw [h] at hr; cases hr), fun j hj => ?_⟩
    by_cases hji : j = i
    · subst hji; exact hy.wpOp hi hS ⟨fun _ => hS, H⟩
    · have := ready_mono hj hji
      rw [H.1] at this
      cases this
  | succ fuel ih =>
    intro listed a w hfree hr hy hu hS H
    have hui := (mem_ready.1 hr).1
    have hnr := chain_ready (s :: L) i hch hu
    have hsr := hnr s (List.mem_cons_self ..)
    refine ⟨fun h => (by rw [h] at hr; cases hr), fun j hj => ?_⟩
    by_cases hji : j = i
    · subst hji; exact hy.wpOp hi hS ⟨fun _ => hS, H⟩
    · have hjs : j ≠ s := fun e => hsr (e ▸ hj)
      have h1 := H.2 j (ready_mono hj hji)
      obtain ⟨hjun, oj, hoj, hall⟩ := mem_ready.1 hj
      have hnot : ∀ e ∈ oj.after, Region.binds md e = true → e.on ≠ i := fun e he hb heq => by
        have h1 := hall e he hb
        rw [heq] at h1
        rcases Nat.lt_or_ge i listed.size with h' | h'
        · simp [h'] at hui h1; rw [hui] at h1; cases h1
        · simp [Array.getElem?_eq_none h'] at hui
      have h2 := wpOp_putIf hoj (hfree j oj hoj hji hjun hnot) (fun cs b => hsel i oi cs b hi) (fun cs b => hsel j oj cs b hoj) hQ hy h1
      have hfree' : ∀ k ok, ops[k]? = some ok → k ≠ i → (listed.setIfInBounds j true).getD k true = false →
          (∀ e ∈ ok.after, Region.binds md e = true → e.on ≠ i) → oi.apart ops ok = true := fun k ok hk hki hun hno => by
        refine hfree k ok hk hki ?_ hno
        by_cases hjk : j = k
        · subst hjk; exact hjun
        · rw [getD_set_ne true hjk] at hun; exact hun
      have hu2 : ∀ x ∈ s :: L ++ [i], (listed.setIfInBounds j true).getD x true = false := fun x hx => by
        have hjx : j ≠ x := fun e => by
          subst e
          rcases List.mem_append.1 hx with h | h
          · exact hnr j h hj
          · rw [List.mem_singleton] at h; exact hji h
        rw [getD_set_ne true hjx]; exact hu x hx
      have hu3 : ((listed.setIfInBounds i true).setIfInBounds j true).getD s true = false := by
        rw [getD_set_ne true hjs, getD_set_ne true (Ne.symm hsi)]; exact hu s (List.mem_cons_self ..)
      refine wpOp_mono (fun a' w' h3 => ⟨fun _ => h3.2.1 hu3, ih (listed.setIfInBounds j true) a' w' hfree' (ready_mono hr (Ne.symm hji)) h3.1 hu2 (h3.2.1 hu3) ?_⟩) h2
      rw [Array.setIfInBounds_comm _ _ hji]
      exact h3.2.2
/-- A load is taken ahead: number s waits for it by the chain L. -/
theorem gate_takeT {i : Nat} {oi : Oper} {v : Value} {fuel : Nat} {listed : Array Bool} {a : Act} {w : World} (L : List Nat) (hi : ops[i]? = some oi)
    (hs : Region.noSelect ops = true) (hf : Region.free md ops listed i = true) (hr : (Region.ready md ops listed).contains i = true) (hch : (chainB md ops (s :: L ++ [i]) && (s != i) && (s :: L ++ [i]).all (fun x => listed.getD x true == false)) = true)
    (hQ : ∀ c a w, Q (.panic c) (a.put oi.dst v) w → Q (.panic c) a w) (hy : YieldsIf P ops S oi v a) (hS : S w)
    (h : wpGate P md ops Q S s fuel (listed.setIfInBounds i true) (a.put oi.dst v) w) : wpGate P md ops Q S s (fuel + 1) listed a w := by
  rw [Bool.and_eq_true, Bool.and_eq_true] at hch
  refine gate_firstT L hi (Region.noSelect_spec hs) hQ hch.1.1 (by simpa using hch.1.2) fuel listed a w (Region.free_spec hi hf) (by simpa using hr) hy (fun x hx => ?_) hS h
  have := (List.all_eq_true.1 hch.2) x hx
  simpa using this
/-- Number s has come up: what yields in whatever world is taken. -/
theorem gate_takeP {i : Nat} {oi : Oper} {v : Value} {fuel : Nat} {listed : Array Bool} {a : Act} {w : World} (hi : ops[i]? = some oi)
    (hs : Region.noSelect ops = true) (hf : Region.free md ops listed i = true) (hr : (Region.ready md ops listed).contains i = true) (hsi : (s != i) = true) (hp : listed.getD s true = true)
    (hQ : ∀ c a w, Q (.panic c) (a.put oi.dst v) w → Q (.panic c) a w) (hy : YieldsIf P ops (fun _ => True) oi v a)
    (h : wpGate P md ops Q S s fuel (listed.setIfInBounds i true) (a.put oi.dst v) w) : wpGate P md ops Q S s (fuel + 1) listed a w :=
  gate_firstF hi (Region.noSelect_spec hs) hQ (by simpa using hsi) fuel listed a w (Region.free_spec hi hf) (by simpa using hr) hy (fun h => by rw [hp] at h; cases h) h
end
end Go.Proofs.Ytncpikaegcookaa
