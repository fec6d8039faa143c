/- Package cand's add: 'l.all = append(l.all, ds...)'. -/
import Derived.Test.YtfjioflggkmhcaaCande
import Derived.Deep.AppendSrc
namespace Go.Proofs.Ytfjioflggkmhcaa
open Go.ChangeShapes Go.WideShapes Go.ChangeAt Go.RowKit
set_option linter.unusedVariables false
set_option linter.unusedSimpArgs false
theorem info_descs : ∃ i0, Try.prog.info? 24 = some i0 ∧ i0.size = 3 := by
  obtain ⟨i0, hi⟩ : ∃ i, Try.prog.info? 24 = some i := by
    cases h0 : Try.prog.info? 24 with
    | none => have := info_desc; rw [h0] at this; cases this
    | some i => exact ⟨i, rfl⟩
  have h1 := info_desc
  rw [hi] at h1
  simp only [Option.map_some, Option.some.injEq, Prod.mk.injEq] at h1
  exact ⟨i0, hi, h1.2.1⟩
/-- Of none. -/
theorem append_t_none {ops : Array Oper} {rest : List Oper} {o : Oper} {a : Act} {Q : Exit → Act → World → Prop} {W : World} {lim B : Nat} {v : Value} {l : List Nd} {p : Option Addr} {c : Nat} (hgd : o.guard = none) (s x : Operand)
    (ho : o.op = .call { callee := .builtin .append, args := #[s, x], argTypes := #[22, 22] }) (hs : a.eval s = v) (hown : OwnT W lim B v l) (hx : a.eval x = .slice p 0 c)
    (h : wpList Try.prog ops Q rest (a.put o.dst v) W) : wpList Try.prog ops Q (o :: rest) a W := by
  obtain ⟨i0, hi, hsz⟩ := info_descs
  have hsrc : Src Try.prog i0.size 22 (.slice p 0 c) 0 [] W := by
    cases p with
    | none => exact Src.ofNil W Try.underlying22 c
    | some ad => exact Src.ofSlice W Try.underlying22 ad 0 c [] (by simp) (fun j u hj => by simp at hj) (fun u hu => by cases hu)
  have hrun : (Builtin.append_ #[22, 22] o.type #[v, .slice p 0 c]).run Try.prog W = .ok v W := by
    obtain ⟨xs, ⟨_, h1⟩, _⟩ := hown
    rcases h1 with ⟨rfl, hn⟩ | ⟨g, cap, cur, rfl, hb, hh, hn, hm, hs, ht⟩
    · have hT : Try.prog.underlying 22 = some (.slice 24) := Try.underlying22
      rcases hsrc.kind with ⟨e', hk⟩ | hk <;> simp [Builtin.append_, run_underlying hT, run_underlying hk, sizeOf, typeInfo, hi, hsrc.len, hsrc.cells]
    · exact run_append_room_src (P := Try.prog) W 22 22 o.type 24 i0 Try.underlying22 hi g 0 l.length cap _ 0 [] hsrc (by omega) (fun j hj => by simp at hj) (fun j hj => by simp at hj)
  refine wpList_plain hgd fun _ hK => ?_
  unfold Oper.wp execOp
  simp only [ho, resolve, invoke, builtin, Sem.run_bind, Sem.run_pure, Result.andThen_ok, List.map_toArray, List.map_cons, List.map_nil, hx, hs, hrun]
  exact hK _ _ h
/-- The list's box, and its row. -/
def ListAt (w : World) (X : Nat) (v : Value) (l : List Nd) : Prop := w.heap[X]? = some (.cells #[v] 74 (0, 0)) ∧ OwnT w 0 (X + 1) v l
theorem box_cells {w : World} {g : Nat} {a : Value} {T : TypeId} (h : w.heap[g]? = some (.cells #[a] T (0, 0))) : w.cell? ⟨g, 0, none⟩ = some a ∧ w.frozen? ⟨g, 0, none⟩ = false := ⟨by rw [cell_of_row _ _ _ _ _ _ h]; rfl, frozen_of_row _ _ _ _ _ h⟩
set_option maxRecDepth 100000 in
set_option maxHeartbeats 2000000 in
theorem cand_add (X : Nat) (v : Value) (l l2 : List Nd) (p : Option Addr) (m c : Nat) (w : World) (hL : ListAt w X v l) (hm : l2.length = m) (hlen : l.length + m ≤ 1099511627776)
    (hn : m = 0 ∨ ∃ ad news, p = some ad ∧ NodsS w (offB w 0 (X + 1) v) news l2 ∧ ∀ j u, news[j]? = some u → w.cell? (ad.add j) = some u) :
    Calls Try.prog 65 #[.pointer (some ⟨X, 0, none⟩), .slice p m c] w fun e w' => (∃ z, e = .returned z) ∧ (∃ v', ListAt w' X v' (l ++ l2)) ∧ Below X w w' := by
  obtain ⟨hX, hO⟩ := hL
  obtain ⟨x0, f0⟩ := box_cells hX
  obtain ⟨sa, sn, sc, rfl⟩ := hO.form
  have lX := block_lt_of_cell x0
  have HO := Lib.hid hO
  have HX := Lib.hid hX
  have ownL := Lib.hid hO.ownLe
  have hXlt : X < w.heap.size := lX
  clear hO hX
  rcases hn with h0 | ⟨ad, news, rfl, hN, hc⟩
  · subst h0
    have e : l2 = [] := List.length_eq_zero_iff.1 hm
    subst e
    have HX2 := Lib.hid (row_setCell3 HX.out (.slice sa sn sc) (o := 0))
    have HO2 := Lib.hid (HO.out.keep (But.set w X 0 (.slice sa sn sc)) (Nat.zero_le _) (Nat.lt_succ_self _))
    have HB2 := Lib.hid ((Below.refl X w).setCell (p := ⟨X, 0, none⟩) (Nat.le_refl _) (.slice sa sn sc))
    go_enter Try.func65, Try.ntmps65
    go_wp2_with (at_builtin; refine append_t_none rfl _ _ rfl rfl HO.out rfl ?_)
    refine bodyPost_end (results_none rfl _ _ _) rfl ?_
    exact ⟨⟨_, rfl⟩, ⟨_, HX2.out, by first | exact HO2.out | (rw [List.append_nil]; exact HO2.out)⟩, HB2.out⟩
  · by_cases hm0 : m = 0
    · subst hm0
      have e : l2 = [] := List.length_eq_zero_iff.1 hm
      subst e
      have HX2 := Lib.hid (row_setCell3 HX.out (.slice sa sn sc) (o := 0))
      have HO2 := Lib.hid (HO.out.keep (But.set w X 0 (.slice sa sn sc)) (Nat.zero_le _) (Nat.lt_succ_self _))
      have HB2 := Lib.hid ((Below.refl X w).setCell (p := ⟨X, 0, none⟩) (Nat.le_refl _) (.slice sa sn sc))
      clear hc hN
      go_enter Try.func65, Try.ntmps65
      go_wp2_with (at_builtin; refine append_t_none rfl _ _ rfl rfl HO.out rfl ?_)
      refine bodyPost_end (results_none rfl _ _ _) rfl ?_
      exact ⟨⟨_, rfl⟩, ⟨_, HX2.out, by first | exact HO2.out | (rw [List.append_nil]; exact HO2.out)⟩, HB2.out⟩
    have HN := Lib.hid hN
    have HC := Lib.hid hc
    clear hN hc
    go_enter Try.func65, Try.ntmps65
    go_wp2_with (at_builtin; refine wpList_plain rfl fun _ hK => wp_append_t _ _ rfl rfl HO.out rfl hm HN.out HC.out (by omega) (by omega) hlen fun v7 u7 hO7 hg7 => hK _ _ ?_; (
      clear hK
      obtain ⟨a7, n7, c7, rfl⟩ := hO7.form
      have own := ownL.out
      have HX7 := Lib.hid ((hg7.block X hXlt (fun e => by have := own X e.symm; omega)).trans HX.out)
      have HB7 := Lib.hid ((Below.refl X w).grown hg7 (by omega) (fun i hi => by have := own i hi; omega))
      have HO7 := Lib.hid hO7
      obtain ⟨y0, g0⟩ := box_cells HX7.out
      clear hO7 hg7 own x0 f0))
    have HX2 := Lib.hid (row_setCell3 HX7.out (.slice a7 n7 c7) (o := 0))
    have HO2 := Lib.hid (HO7.out.keep (But.set u7 X 0 (.slice a7 n7 c7)) (Nat.zero_le _) (Nat.lt_succ_self _))
    have HB2 := Lib.hid (HB7.out.setCell (p := ⟨X, 0, none⟩) (Nat.le_refl _) (.slice a7 n7 c7))
    refine bodyPost_end (results_none rfl _ _ _) rfl ?_
    exact ⟨⟨_, rfl⟩, ⟨_, HX2.out, HO2.out⟩, HB2.out⟩
end Go.Proofs.Ytfjioflggkmhcaa
