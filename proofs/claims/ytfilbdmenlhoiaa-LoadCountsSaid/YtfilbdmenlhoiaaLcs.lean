/- LoadCounts: what the statement holds in memory. -/
import Derived.Test.YtfilbdmenlhoiaaLcw
import Derived.Test.YtfilbdmenlhoiaaLv45
namespace Go.Proofs.Ytfilbdmenlhoiaa
open Go.ChangeShapes Go.WideShapes Go.ChangeAt Go.RowKit
set_option linter.unusedVariables false
open Go.WideMaps Go.MapKept Go.WideElems Go.ChangeMaps Go.Maps
set_option linter.unusedSimpArgs false
theorem rowO_ok {w : World} {lim : Nat} {v : Value} {l : List Oi} (h : RowO w lim v l) : okO l ∧ ∀ x ∈ l, i64ok x.who := by
  have h0 := h
  obtain ⟨p, c, rfl, -⟩ := h0
  have key : ∀ x ∈ l, (i64ok x.f ∧ i64ok x.t) ∧ i64ok x.who := fun x hx => by
    obtain ⟨i, hi⟩ := List.mem_iff_getElem?.1 hx
    obtain ⟨b, o, cs, -, -, hv, -⟩ := h.get hi
    exact ⟨⟨hv.ok.2.2.2.1, hv.ok.2.2.2.2⟩, hv.ok.1⟩
  exact ⟨fun x hx => (key x hx).1, fun x hx => (key x hx).2⟩
theorem flatL_get : ∀ {L : List Ld} {k : Nat} {x : Ld}, L[k]? = some x → ∀ j v, x.cs.toList[j]? = some v → (flatL L)[k * 4 + j]? = some v
  | [], k, x, h, _, _, _ => by simp at h
  | y :: L, 0, x, h, j, v, hv => by
    simp at h; subst h
    unfold flatL
    rw [List.map_cons, List.flatten_cons, List.getElem?_append_left (by have := (List.getElem?_eq_some_iff.1 hv).1; simpa [Ld.cs] using this)]
    rw [Nat.zero_mul, Nat.zero_add]; exact hv
  | y :: L, k + 1, x, h, j, v, hv => by
    rw [List.getElem?_cons_succ] at h
    have ih := flatL_get h j v hv
    unfold flatL at ih ⊢
    rw [List.map_cons, List.flatten_cons, List.getElem?_append_right (by simp [Ld.cs]; omega)]
    rw [show (k + 1) * 4 + j - y.cs.toList.length = k * 4 + j by simp [Ld.cs]; omega]
    exact ih
theorem LK.of_flat {w : World} {K : Nat} {T : TypeId} {L : List Ld} (hn : L.length = 8) (h : w.heap[K]? = some (.cells (flatL L).toArray T (0, 0))) : LK w K L := by
  refine ⟨hn, g_lt h, fun k x hx j v hv => ?_, fun j hj => ⟨?_, frozen_of_row _ _ _ _ _ h⟩⟩
  · rw [cell_of_row _ _ _ _ _ _ h]
    have := flatL_get hx j v hv
    simpa using this
  · rw [cell_of_row _ _ _ _ _ _ h, Nat.zero_add]
    have : j < (flatL L).toArray.size := by rw [List.size_toArray, flatL_len, hn]; omega
    rw [Array.getElem?_eq_getElem this]; rfl
/-- A whole value goes into the block that was made last. -/
theorem wpl_newT {T : TypeId} {ops : Array Oper} {rest : List Oper} {op : Oper} {a : Act} {W w1 : World} {Q : Exit → Act → World → Prop} {cs z : Array Value} (hgd : op.guard = none) (x y : Operand) (ho : op.op = .store T x y)
    (hx : a.eval x = .pointer (some ⟨W.heap.size, 0, none⟩)) (hy : a.eval y = .agg cs) (hst : (Instr.storeAt T (.pointer (some ⟨W.heap.size, 0, none⟩)) (.agg cs)).run Try.prog (W.alloc (.cells z T)) = .ok () w1)
    (h : wpList Try.prog ops Q rest (a.put op.dst undef) w1) : wpList Try.prog ops Q (op :: rest) a (W.alloc (.cells z T)) := by
  refine wpList_plain hgd fun K hK => ?_
  unfold Oper.wp execOp
  simp only [ho, hx, hy, Sem.run_bind, hst, Result.andThen_ok, Sem.run_pure]
  exact hK _ _ h
/-- The statement's memory: the kinds in A, the clients' map in M, a sum in B. -/
structure LS (W : World) (A B M : Nat) (l : List Oi) (s : Ld) (w : World) : Prop where
  a : LK w A (kindsL l)
  b : LdB w B s
  m : w.heap[M]? = some (gMap (aMap ldE (clTo l l.length)))
  w : Below W.heap.size W w
  n : A < B ∧ M < B ∧ W.heap.size ≤ B
theorem LS.below {W w w' : World} {A B M : Nat} {l : List Oi} {s : Ld} (h : LS W A B M l s w) (hb : Below w.heap.size w w') : LS W A B M l s w' :=
  ⟨h.a.below h.a.s hb, (hb.block _ (g_lt h.b)).trans h.b, (hb.block _ (g_lt h.m)).trans h.m, h.w.trans (hb.mono h.w.size), h.n⟩
theorem LS.drew {W w : World} {A B M : Nat} {l : List Oi} {s : Ld} (h : LS W A B M l s w) : LS W A B M l s w.drew := h.below ((Below.refl _ _).drew)
theorem LS.put {W w : World} {A B M : Nat} {l : List Oi} {s : Ld} (h : LS W A B M l s w) (y : Ld) : LS W A B M l y (w.setCells B 0 y.cs.toList) := by
  obtain ⟨n1, n2, n3⟩ := h.n
  have hB := setCells_below (Nat.le_refl B) y.cs.toList 0 w
  refine ⟨h.a.below n1 hB, u4_at h.b, (hB.block _ n2).trans h.m, h.w.trans (hB.mono n3), h.n⟩
theorem LS.load {W w : World} {A B M : Nat} {l : List Oi} {s : Ld} (h : LS W A B M l s w) : w.rangeAt B 0 [.int .i64 s.c, .int .i64 s.e, .int .i64 s.d, .int .i64 s.g] := fun j v hj => by
  rw [Nat.zero_add, cell_of_row _ _ _ _ _ _ h.b]; simpa using hj
theorem LS.there {W w : World} {A B M : Nat} {l : List Oi} {s : Ld} (h : LS W A B M l s w) : w.there B 0 4 := fun j hj => by
  refine ⟨?_, frozen_of_row _ _ _ _ _ h.b⟩
  rw [cell_of_row _ _ _ _ _ _ h.b, Nat.zero_add]
  have hj' : j = 0 ∨ j = 1 ∨ j = 2 ∨ j = 3 := by omega
  rcases hj' with rfl | rfl | rfl | rfl <;> rfl
/-- .. and a second sum behind it. -/
structure LT (W : World) (A B C M : Nat) (l : List Oi) (s o : Ld) (w : World) : Prop where
  l : LS W A C M l o w
  b : LdB w B s
  n : B < C
theorem LT.below {W w w' : World} {A B C M : Nat} {l : List Oi} {s o : Ld} (h : LT W A B C M l s o w) (hb : Below w.heap.size w w') : LT W A B C M l s o w' :=
  ⟨h.l.below hb, (hb.block _ (g_lt h.b)).trans h.b, h.n⟩
theorem LT.drew {W w : World} {A B C M : Nat} {l : List Oi} {s o : Ld} (h : LT W A B C M l s o w) : LT W A B C M l s o w.drew := h.below ((Below.refl _ _).drew)
theorem LT.put {W w : World} {A B C M : Nat} {l : List Oi} {s o : Ld} (h : LT W A B C M l s o w) (y : Ld) : LT W A B C M l s y (w.setCells C 0 y.cs.toList) :=
  ⟨h.l.put y, ((setCells_below (Nat.le_refl C) y.cs.toList 0 w).block _ h.n).trans h.b, h.n⟩
theorem LT.load {W w : World} {A B C M : Nat} {l : List Oi} {s o : Ld} (h : LT W A B C M l s o w) : w.rangeAt B 0 [.int .i64 s.c, .int .i64 s.e, .int .i64 s.d, .int .i64 s.g] := fun j v hj => by
  rw [Nat.zero_add, cell_of_row _ _ _ _ _ _ h.b]; simpa using hj
/-- The sums, part by part. -/
def kindD (i : Nat) : List Int := (List.range i).map Int.ofNat
theorem kindD_succ (i : Nat) : kindD (i + 1) = kindD i ++ [(i : Int)] := by unfold kindD; rw [List.range_succ, List.map_append]; rfl
theorem kindD_nodup (i : Nat) : (kindD i).Nodup := by
  induction i with
  | zero => exact List.nodup_nil
  | succ i ih =>
    rw [kindD_succ, List.nodup_append]
    refine ⟨ih, by simp, fun a ha b hb e => ?_⟩
    rw [List.mem_singleton] at hb
    subst hb; subst e
    unfold kindD at ha
    obtain ⟨j, hj, e⟩ := List.mem_map.1 ha
    rw [List.mem_range] at hj
    have : (j : Int) = i := e
    omega
theorem partS_snoc (key : Oi → Int) (l : List Oi) (D : List Int) (d : Int) : partS key l (D ++ [d]) = ladd (partS key l D) (ofN (l.filter (fun y => decide (key y = d)))) := by unfold partS; rw [List.foldl_append]; rfl
theorem partS_ok (key : Oi → Int) (l : List Oi) (ho : okO l) (D : List Int) : (partS key l D).ok ∧ 0 ≤ (partS key l D).g := by
  have : ∀ (D : List Int) (s : Ld), (s.ok ∧ 0 ≤ s.g) → (D.foldl (fun s d => ladd s (ofN (l.filter (fun y => decide (key y = d))))) s).ok ∧ 0 ≤ (D.foldl (fun s d => ladd s (ofN (l.filter (fun y => decide (key y = d))))) s).g := by
    intro D
    induction D with
    | nil => intro s hs; exact hs
    | cons d D ih => intro s hs; exact ih _ (ladd_ok hs (ofN_ok (ho.filter _)).1)
  exact this D _ ⟨⟨by unfold i64ok; simp, by unfold i64ok; simp, by unfold i64ok; simp, by unfold i64ok; simp⟩, Int.le_refl _⟩
theorem kind_all (l : List Oi) (hn : l.length ≤ 10000) : partS kf l (kindD 8) = ofN l :=
  partS_all kf l hn (kindD_nodup 8) (fun x _ => by
    unfold kindD
    refine List.mem_map.2 ⟨(kf x).toNat, ?_, ?_⟩
    · rw [List.mem_range]; unfold kf; split <;> omega
    · have : 0 ≤ kf x := by unfold kf; split <;> omega
      exact Int.toNat_of_nonneg this)
def whoD (l : List Oi) (i : Nat) : List Int := (clTo l i).map Prod.fst
theorem whoD_succ {l : List Oi} {i : Nat} {x : Oi} (h : l[i]? = some x) : whoD l (i + 1) = if ((l.take i).filter (fun y => decide (y.who = x.who))).length = 0 then whoD l i ++ [x.who] else whoD l i := by
  have hi : i ≤ l.length := Nat.le_of_lt (List.getElem?_eq_some_iff.1 h).1
  unfold whoD
  rw [clTo_succ h, clS, aput_keys]
  by_cases hm : x.who ∈ (clTo l i).map Prod.fst
  · rw [if_pos hm, if_neg]
    obtain ⟨y, hy, e⟩ := (clTo_keys l i hi x.who).1 hm
    intro h0
    have : y ∈ (l.take i).filter (fun y => decide (y.who = x.who)) := List.mem_filter.2 ⟨hy, by simp [e]⟩
    rw [List.length_eq_zero_iff.1 h0] at this
    cases this
  · rw [if_neg hm, if_pos]
    rw [List.length_eq_zero_iff, List.filter_eq_nil_iff]
    intro y hy e
    exact hm ((clTo_keys l i hi x.who).2 ⟨y, hy, by simpa using e⟩)
theorem whoD_len (l : List Oi) (i : Nat) : (whoD l i).length = (clTo l i).length := by unfold whoD; rw [List.length_map]
theorem whoD_le (l : List Oi) : ∀ i, i ≤ l.length → (whoD l i).length ≤ i
  | 0, _ => by simp [whoD, clTo]
  | i + 1, hi => by
    obtain ⟨x, hx⟩ : ∃ x, l[i]? = some x := ⟨_, List.getElem?_eq_getElem (by omega)⟩
    have ih := whoD_le l i (by omega)
    rw [whoD_succ hx]
    split
    · rw [List.length_append, List.length_singleton]; omega
    · omega
theorem who_all (l : List Oi) (hn : l.length ≤ 10000) (hw : ∀ x ∈ l, i64ok x.who) : partS (fun x => x.who) l (whoD l l.length) = ofN l :=
  partS_all _ l hn (clTo_am l hw l.length (Nat.le_refl _)).d (fun x hx => (clTo_keys l l.length (Nat.le_refl _) x.who).2 ⟨x, by rw [List.take_length]; exact hx, rfl⟩)
end Go.Proofs.Ytfilbdmenlhoiaa
