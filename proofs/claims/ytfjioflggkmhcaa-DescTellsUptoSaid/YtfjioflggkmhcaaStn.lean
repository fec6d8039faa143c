/- A stack of nodes: a row of nodes of the call's own that grows and is cut; what is to come, in order. -/
import Derived.Test.YtfjioflggkmhcaaRanger
import Derived.Test.YtfjioflggkmhcaaStk
import Derived.Deep.AppendLies
namespace Go.Proofs.Ytfjioflggkmhcaa
open Go.ChangeShapes Go.WideShapes Go.ChangeAt Go.RowKit
set_option linter.unusedVariables false
set_option linter.unusedSimpArgs false
/-- All nodes that are to come: of the last one first. -/
def remR : List Nd → List Nd
  | [] => []
  | d :: r => remR r ++ (d :: d.ks.pre)
theorem remR_app : ∀ a b : List Nd, remR (a ++ b) = remR b ++ remR a
  | [], b => by simp [remR]
  | d :: a, b => by simp only [List.cons_append, remR, remR_app a b, List.append_assoc]
theorem remR_len : ∀ a : List Nd, a.length ≤ (remR a).length
  | [] => Nat.le_refl _
  | d :: a => by have := remR_len a; simp only [remR, List.length_append, List.length_cons]; omega
theorem OwnD.kept {w w' : World} {B lim : Nat} {v : Value} {l : List Nd} (h : OwnD w B lim v l) (hb : Below lim w w') (hk : ∀ k o, B ≤ k → w.heap[k]? = some o → w'.heap[k]? = some o) : OwnD w' B lim v l := by
  obtain ⟨xs, ⟨h0, h1⟩, h2⟩ := h
  exact ⟨xs, ⟨h0, h1.imp id (fun ⟨g, cap, cur, e, hB, hg, h3⟩ => ⟨g, cap, cur, e, hB, hk g _ hB hg, h3⟩)⟩, h2.carry hb⟩
theorem Nods.take : ∀ {w : World} {lim : Nat} {xs : List Value} {l m : List Nd}, Nods w lim xs (l ++ m) → Nods w lim (xs.take (l.length * 3)) l
  | _, _, _, [], _, _ => by simp [Nods]
  | _, _, _, d :: l, m, ⟨v, ys, e, hk, h⟩ => by
    subst e
    refine ⟨v, ys.take (l.length * 3), ?_, hk, Nods.take h⟩
    rw [List.length_cons, show (l.length + 1) * 3 = l.length * 3 + 1 + 1 + 1 by omega]
    rfl
theorem OwnD.pop {w : World} {B lim : Nat} {v : Value} {l : List Nd} {d : Nd} (h : OwnD w B lim v (l ++ [d])) : ∃ g cap a c, v = .slice (some ⟨g, 0, none⟩) (l.length + 1) cap ∧ l.length + 1 ≤ cap ∧ cap ≤ 9223372036854775807 ∧
    w.cell? ⟨g, l.length * 3, none⟩ = some (.int .i64 d.k) ∧ w.cell? ⟨g, l.length * 3 + 1, none⟩ = some (.int .i64 d.n) ∧ w.cell? ⟨g, l.length * 3 + 2, none⟩ = some (.slice a d.ks.len c) ∧ Kids w lim (.slice a d.ks.len c) d.ks ∧ c ≤ 9223372036854775807 ∧ d.ks.len ≤ c ∧ OwnD w B lim (.slice (some ⟨g, 0, none⟩) l.length cap) l := by
  obtain ⟨a0, c0, hv, hl0, hc0, hget⟩ := h.shape
  obtain ⟨g, u, ha, hg, hBg, e0, e1, e2, hk⟩ := hget l.length (by simp)
  have hd : (l ++ [d])[l.length]'(by simp) = d := by simp
  rw [hd] at e0 e1 hk
  subst ha
  obtain ⟨xs, ⟨hx0, hx1⟩, hx2⟩ := h
  rw [List.length_append, List.length_singleton] at hv hl0
  rcases hx1 with ⟨hn, hz⟩ | ⟨g', cap, cur, e, hB', hh, hn, hm, hs, ht⟩
  · simp at hz
  · rw [hv] at e
    simp only [Value.slice.injEq, Option.some.injEq, Addr.mk.injEq, and_true] at e
    obtain ⟨rfl, -, rfl⟩ := e
    obtain ⟨a, c, rfl, hc1, hc2, hc3⟩ := hk
    refine ⟨g, c0, a, c, hv, hl0, by unfold maxLen at hc0; omega, e0, e1, e2, ⟨a, c, rfl, hc1, hc2, hc3⟩, by unfold maxLen at hc2; omega, hc1, xs.take (l.length * 3), ⟨?_, .inr ⟨g, c0, cur, rfl, hB', hh, by omega, hm, hs, ?_⟩⟩, hx2.take⟩
    · rw [List.length_take, hx0, List.length_append]; simp
    · rw [← ht, List.take_take]; congr 1; simp
/-- One node more. -/
theorem stn_push {F : Fence} {n : Nat} {ops : Array Oper} {rest : List Oper} {o : Oper} {a : Act} {Q : Exit → Act → World → Prop} {W : World} {lim B : Nat} {v : Value} {l : List Nd} {k m : Int} {u : Value} {f : Fo} (hgd : o.guard = none) (s x : Operand)
    (ho : o.op = .call { callee := .builtin .append, args := #[s, x], argTypes := #[22, 22] }) (hs : a.eval s = v) (hS : OwnD W B lim v l) (hx : a.eval x = .slice (some ⟨W.heap.size, 0, none⟩) 1 1) (hK : Kids W lim u f)
    (hl : lim ≤ B) (hB : B ≤ W.heap.size) (hlen : l.length < 1099511627776)
    (h : ∀ g c w', OwnD w' B lim (.slice (some ⟨g, 0, none⟩) (l.length + 1) c) (l ++ [⟨k, m, f⟩]) → Below B W w' → (v.ownBlock = some g ∨ W.heap.size ≤ g) → (∀ i, i < W.heap.size → v.ownBlock ≠ some i → w'.heap[i]? = W.heap[i]?) → wpListIn F n Try.prog ops Q rest (a.put o.dst (.slice (some ⟨g, 0, none⟩) (l.length + 1) c)) w') : wpListIn F n Try.prog ops Q (o :: rest) a (W.alloc (.cells #[.int .i64 k, .int .i64 m, u] 24)) := by
  have hn := heap_alloc_new W (.cells #[.int .i64 k, .int .i64 m, u] 24)
  have bb := (Below.refl W.heap.size W).alloc (Nat.le_refl _) (.cells #[.int .i64 k, .int .i64 m, u] 24)
  have hsz := World.size_alloc W (.cells #[.int .i64 k, .int .i64 m, u] 24)
  have hS2 := hS.below (Nat.le_trans hl hB) bb
  have hK2 := hK.carry (bb.mono (Nat.le_trans hl hB))
  generalize W.alloc (.cells #[.int .i64 k, .int .i64 m, u] 24) = w1 at *
  obtain ⟨i0, hi⟩ : ∃ i, Try.prog.info? 24 = some i := by
    cases h0 : Try.prog.info? 24 with
    | none => have := info_desc; rw [h0] at this; cases this
    | some i => exact ⟨i, rfl⟩
  have h1 := info_desc
  rw [hi] at h1
  simp only [Option.map_some, Option.some.injEq, Prod.mk.injEq] at h1
  obtain ⟨hz, hsz1, hby⟩ := h1
  obtain ⟨z, hz1, hz2⟩ : ∃ z, i0.zero = some z ∧ z.cells.size = 3 := by
    cases h0 : i0.zero with
    | none => rw [h0] at hz; cases hz
    | some z => rw [h0] at hz; simp at hz; exact ⟨z, rfl, hz⟩
  obtain ⟨xs, ho1, ho2⟩ := hS2
  have hnw : Nods w1 lim [.int .i64 k, .int .i64 m, u] [⟨k, m, f⟩] := ⟨u, [], rfl, hK2, rfl⟩
  obtain ⟨g, cap, w', hrun, r1, r2, r3, _⟩ := run_append_lies (P := Try.prog) w1 22 o.type B 24 i0 z 3 40 Try.underlying22 hi hz1 hsz1 hby hz2 (by decide) v l.length xs ho1 ⟨W.heap.size, 0, none⟩ 1 1 [.int .i64 k, .int .i64 m, u] rfl (fun j y hj => by
    rw [Addr.add_lit, cell_of_row _ _ _ _ _ _ hn]
    simpa using hj) hnw.one (by decide) (by unfold maxLen; omega) (by omega) (by omega) _ rfl
  refine wpListIn_plain hgd fun K hK' => ?_
  unfold Oper.wpIn
  refine ⟨?_, ?_⟩
  · simp [Oper.about, ho, resolve, Target.leads, Sem.run_pure]
  · rw [Oper.semAt_plain F _ _ (by rw [ho]; intro c hc'; cases hc')]
    simp [execOp, ho, resolve, invoke, builtin, hs, hx, hrun, Result.andThen]
    have hb2 : Below B w1 w' := ⟨r2.os, r2.tape, r2.output, r2.size, fun k hk => r2.block k (by omega) (fun e => by have := (World.ownsRow.lt ho1 k e.symm).1; omega)⟩
    refine hK' _ _ (h g cap w' ⟨_, by rw [List.length_append]; exact r1, (ho2.append hnw).carry (hb2.mono hl)⟩ ((bb.mono hB).trans hb2) (r3.imp id (fun e => by omega)) (fun i hi hne => ?_))
    exact (r2.block i (by omega) (fun e => hne e.symm)).trans (bb.block i hi)
end Go.Proofs.Ytfjioflggkmhcaa
