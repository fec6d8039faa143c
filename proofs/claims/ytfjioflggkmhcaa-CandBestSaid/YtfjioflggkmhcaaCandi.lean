/- Reference 19's List: what its walk stands on. -/
import Derived.Test.YtfjioflggkmhcaaCandh
namespace Go.Proofs.Ytfjioflggkmhcaa
open Go.ChangeShapes Go.WideShapes Go.ChangeAt Go.RowKit
set_option linter.unusedVariables false
set_option linter.unusedSimpArgs false
theorem pr_at {n i : Nat} (h1 : 1 ≤ n) (hi : i < (fa n).length) : ∃ p, (fsts (fa n)).getD i 0 = ((p : Nat) : Int) ∧ (prN n).take (i + 1) = (prN n).take i ++ [p] ∧ (pwN n).take (i + 1) = (pwN n).take i ++ [p ^ mu p n] ∧ 2 ≤ p ∧ p ∣ n ∧ p ^ mu p n ∣ n ∧ 2 ≤ p ^ mu p n := by
  obtain ⟨g1, g2, g3, g4, g5⟩ := fa_pow h1 hi
  have hm : ((fa n).getD i (0, 0)).1 ^ mu ((fa n).getD i (0, 0)).1 n ∈ pwN n := by
    unfold pwN
    refine List.mem_map.2 ⟨(fa n)[i], List.getElem_mem hi, ?_⟩
    rw [List.getD, List.getElem?_eq_getElem hi, Option.getD_some] at g4 ⊢
    rw [← g4]
  obtain ⟨k1, k2⟩ := pwN_in h1 hm
  refine ⟨((fa n).getD i (0, 0)).1, fsts_at _ _, ?_, ?_, g1, g2, k2, k1⟩
  · rw [List.take_add_one]; unfold prN; rw [List.getElem?_map, List.getElem?_eq_getElem hi, List.getD, List.getElem?_eq_getElem hi]; rfl
  · rw [List.take_add_one]; unfold pwN; rw [List.getElem?_map, List.getElem?_eq_getElem hi, ← g4, List.getD, List.getElem?_eq_getElem hi]; rfl
/-- A row of ints that is not the row of the call's own. -/
def Apart (v : Value) (pa : Option Addr) : Prop := ∀ x, pa = some x → v.ownBlock ≠ some x.block
theorem RowI.keepB {w w' : World} {a : Option Addr} {n : Nat} {xs : List Int} (h : RowI w a n xs) (hs : w.heap.size ≤ w'.heap.size) (hb : ∀ x, a = some x → x.block < w.heap.size → w'.heap[x.block]? = w.heap[x.block]?) : RowI w' a n xs := by
  refine ⟨h.len, ?_, h.wf, h.small⟩
  rcases h.reads with h0 | ⟨b, off, rfl, hlt, hc⟩
  · exact .inl h0
  · exact .inr ⟨b, off, rfl, by omega, fun i hi => by rw [World.cell?_of_block (a := ⟨b, off + i, none⟩) (show w'.heap[b]? = w.heap[b]? from hb ⟨b, off, none⟩ rfl hlt)]; exact hc i hi⟩
theorem Owns.apart {w : World} {B n : Nat} {ys : List Int} {v : Value} (h : Owns w B 3 .i64 v ys) (hn : ys.length = n) (hw : ∀ x ∈ ys, (Lit.int .i64 x).wf = true) (hs : n ≤ 17592186044415) : ∃ a c, v = .slice a n c ∧ RowI w a n ys ∧ ∀ x, a = some x → B ≤ x.block := by
  obtain ⟨a, c, e, hr, _, _⟩ := h.shape
  refine ⟨a, c, by rw [e, hn], ⟨hn, hr, hw, hs⟩, fun x ex => ?_⟩
  exact (World.ownsRow.lt h x.block (by rw [e, ex]; rfl)).1
/-- 'append(l, node)'. -/
theorem append_t1 {ops : Array Oper} {rest : List Oper} {o : Oper} {a : Act} {Q : Exit → Act → World → Prop} {W : World} {B : Nat} {v : Value} {l : List Nd} {k n : Int} {p : Option Addr} {m c : Nat} {ks : Fo} (hgd : o.guard = none) (s x : Operand)
    (ho : o.op = .call { callee := .builtin .append, args := #[s, x], argTypes := #[22, 22] }) (hs : a.eval s = v) (hown : OwnT W 0 B v l) (hx : a.eval x = .slice (some ⟨W.heap.size, 0, none⟩) 1 1) (hk : KidsS W (offB W 0 B v) (.slice p m c) ks)
    (hB : B ≤ W.heap.size) (hlen : l.length < 1099511627776)
    (h : ∀ v' w', OwnT w' 0 B v' (l ++ [⟨k, n, ks⟩]) → Below B W w' → (∀ X, X < W.heap.size → v.ownBlock ≠ some X → w'.heap[X]? = W.heap[X]? ∧ v'.ownBlock ≠ some X) → (∃ a n c, v' = .slice a n c) → wpList Try.prog ops Q rest (a.put o.dst v') w') : wpList Try.prog ops Q (o :: rest) a (W.alloc (.cells #[.int .i64 k, .int .i64 n, .slice p m c] 24)) := by
  have hn := heap_alloc_new W (.cells #[.int .i64 k, .int .i64 n, .slice p m c] 24)
  have bb := (Below.refl W.heap.size W).alloc (Nat.le_refl _) (.cells #[.int .i64 k, .int .i64 n, .slice p m c] 24)
  have hsz := World.size_alloc W (.cells #[.int .i64 k, .int .i64 n, .slice p m c] 24)
  generalize W.alloc (.cells #[.int .i64 k, .int .i64 n, .slice p m c] 24) = u at *
  have hO := hown.below bb
  have hown2 := hown
  obtain ⟨i0, hi⟩ : ∃ i, Try.prog.info? 24 = some i := by
    cases h0 : Try.prog.info? 24 with
    | none => have := info_desc; rw [h0] at this; cases this
    | some i => exact ⟨i, rfl⟩
  have h1 := info_desc
  rw [hi] at h1
  simp only [Option.map_some, Option.some.injEq, Prod.mk.injEq] at h1
  obtain ⟨hz, hsz3, hby⟩ := h1
  obtain ⟨z, hz1, hz2⟩ : ∃ z, i0.zero = some z ∧ z.cells.size = 3 := by
    cases h0 : i0.zero with
    | none => rw [h0] at hz; cases hz
    | some z => rw [h0] at hz; simp at hz; exact ⟨z, rfl, hz⟩
  obtain ⟨xs, ho1, ho2⟩ := hO
  have hN : NodsS u (offB u 0 B v) [.int .i64 k, .int .i64 n, .slice p m c] [⟨k, n, ks⟩] := ⟨_, [], rfl, hk.carry (fun b hb => ⟨⟨by have := hb.1; omega, hb.2⟩, bb.block b hb.1⟩), rfl⟩
  refine wpList_plain hgd fun _ hK => wp_append_lies _ s x 22 ho B 24 i0 z 3 40 Try.underlying22 hi hz1 hsz3 hby hz2 (by decide) v l.length xs hs ho1 _ 1 1 [.int .i64 k, .int .i64 n, .slice p m c] hx rfl (cells3 hn) hN.one (by decide) (by unfold maxLen; omega) (by omega) (by omega) _ rfl ?_
  intro g cap w' h2 h3 h4 _
  refine hK _ _ (h _ w' ⟨_, by rw [List.length_append]; exact h2, (ho2.append hN).carry (fun b ⟨hb1, hb2, hb3⟩ => ⟨⟨Nat.lt_of_lt_of_le hb1 h3.size, fun e => ?_, hb3⟩, h3.block b hb1 (fun e => hb2 e.symm)⟩)⟩ ((bb.mono hB).grown h3 (by omega) (fun i hi => (World.ownsRow.lt ho1 i hi).1)) (fun X hX hne => ⟨(h3.block X (by omega) (fun e => hne e.symm)).trans (bb.block X hX), fun e => ?_⟩) ⟨_, _, _, rfl⟩)
  · have e' : g = b := by simpa [Value.ownBlock] using e
    subst e'
    rcases h4 with h4 | h4
    · exact hb2 h4
    · omega
  · have e' : g = X := by simpa [Value.ownBlock] using e
    subst e'
    rcases h4 with h4 | h4
    · exact hne h4
    · omega
end Go.Proofs.Ytfjioflggkmhcaa
