/- LoadCounts: maps of ints to whatever, in numbers; the sum of parts is the whole. -/
import Derived.Test.YtfilbdmenlhoiaaLkn
namespace Go.Proofs.Ytfilbdmenlhoiaa
open Go.ChangeShapes Go.WideShapes Go.ChangeAt Go.RowKit
set_option linter.unusedVariables false
open Go.WideMaps Go.MapKept Go.WideElems Go.ChangeMaps Go.Maps
set_option linter.unusedSimpArgs false
section
variable {α : Type}
def aget (z : α) : List (Int × α) → Int → α
  | [], _ => z
  | p :: l, k => if p.1 = k then p.2 else aget z l k
def aput : List (Int × α) → Int → α → List (Int × α)
  | [], k, v => [(k, v)]
  | p :: l, k, v => if p.1 = k then (k, v) :: l else p :: aput l k v
/-- Keys in words' range, each just once. -/
structure AM (m : List (Int × α)) : Prop where
  r : ∀ p ∈ m, i64ok p.1
  d : (m.map Prod.fst).Nodup
theorem AM.nil : AM ([] : List (Int × α)) := ⟨fun p h => (by cases h), List.nodup_nil⟩
theorem aget_none (z : α) : ∀ {m : List (Int × α)} {k : Int}, (∀ p ∈ m, p.1 ≠ k) → aget z m k = z ∧ ∀ v, aput m k v = m ++ [(k, v)]
  | [], k, _ => ⟨rfl, fun v => rfl⟩
  | p :: l, k, h => by
    obtain ⟨h1, h2⟩ := aget_none z (m := l) (k := k) (fun q hq => h q (List.mem_cons_of_mem _ hq))
    have := h p (List.mem_cons_self ..)
    exact ⟨by rw [aget, if_neg this, h1], fun v => by rw [aput, if_neg this, h2, List.cons_append]⟩
theorem aget_some (z : α) : ∀ {m : List (Int × α)} {j : Nat} {p : Int × α}, (m.map Prod.fst).Nodup → m[j]? = some p → aget z m p.1 = p.2 ∧ ∀ v, aput m p.1 v = m.set j (p.1, v)
  | [], j, p, _, h => by simp at h
  | q :: l, 0, p, hn, h => by
    simp at h; subst h
    exact ⟨by rw [aget, if_pos rfl], fun v => by rw [aput, if_pos rfl, List.set_cons_zero]⟩
  | q :: l, j + 1, p, hn, h => by
    rw [List.map_cons, List.nodup_cons] at hn
    rw [List.getElem?_cons_succ] at h
    obtain ⟨h1, h2⟩ := aget_some z hn.2 h
    have hne : q.1 ≠ p.1 := fun e => hn.1 (by rw [e]; exact List.mem_map.2 ⟨p, List.mem_of_getElem? h, rfl⟩)
    exact ⟨by rw [aget, if_neg hne, h1], fun v => by rw [aput, if_neg hne, h2, List.set_cons_succ]⟩
theorem aput_keys : ∀ (m : List (Int × α)) (k : Int) (v : α), (aput m k v).map Prod.fst = if k ∈ m.map Prod.fst then m.map Prod.fst else m.map Prod.fst ++ [k]
  | [], k, v => by simp [aput]
  | p :: l, k, v => by
    rw [aput]
    by_cases h : p.1 = k
    · rw [if_pos h]; subst h; simp
    · rw [if_neg h, List.map_cons, aput_keys l k v]
      have : k ∈ (p :: l).map Prod.fst ↔ k ∈ l.map Prod.fst := by
        rw [List.map_cons, List.mem_cons]
        exact ⟨fun e => e.resolve_left (fun e => h e.symm), .inr⟩
      by_cases h2 : k ∈ l.map Prod.fst
      · rw [if_pos h2, if_pos (this.2 h2), List.map_cons]
      · rw [if_neg h2, if_neg (fun e => h2 (this.1 e)), List.map_cons, List.cons_append]
theorem aget_put (z : α) : ∀ (m : List (Int × α)) (k j : Int) (v : α), aget z (aput m k v) j = if k = j then v else aget z m j
  | [], k, j, v => by simp [aput, aget]
  | p :: l, k, j, v => by
    rw [aput]
    by_cases h : p.1 = k
    · rw [if_pos h, aget, aget]
      by_cases hj : k = j
      · rw [if_pos hj, if_pos hj]
      · rw [if_neg hj, if_neg hj, if_neg (by rw [h]; exact hj)]
    · rw [if_neg h, aget, aget, aget_put z l k j v]
      by_cases hj : p.1 = j
      · rw [if_pos hj, if_pos hj, if_neg (by omega)]
      · rw [if_neg hj, if_neg hj]
theorem AM.put {m : List (Int × α)} (h : AM m) {k : Int} (hk : i64ok k) (v : α) : AM (aput m k v) := by
  have e := aput_keys m k v
  refine ⟨fun p hp => ?_, ?_⟩
  · have hp1 : p.1 ∈ (aput m k v).map Prod.fst := List.mem_map.2 ⟨p, hp, rfl⟩
    rw [e] at hp1
    have : p.1 ∈ m.map Prod.fst ∨ p.1 = k := by
      split at hp1
      · exact .inl hp1
      · rcases List.mem_append.1 hp1 with h1 | h1
        · exact .inl h1
        · rw [List.mem_singleton] at h1; exact .inr h1
    rcases this with h1 | h1
    · obtain ⟨q, hq, e2⟩ := List.mem_map.1 h1
      rw [← e2]; exact h.r q hq
    · rw [h1]; exact hk
  · rw [e]
    split
    · exact h.d
    · rename_i hn
      rw [List.nodup_append]
      exact ⟨h.d, by simp, fun a ha b hb e2 => by rw [List.mem_singleton] at hb; subst hb; subst e2; exact hn ha⟩
/-- The map's entries. -/
def aMap (enc : α → Value) (m : List (Int × α)) : List (Value × Value) := m.map fun p => (.int .i64 p.1, enc p.2)
theorem AM.keys {m : List (Int × α)} (h : AM m) (enc : α → Value) : GKeys Try.prog 3 (aMap enc m) := by
  refine ⟨fun p hp => ?_, fun i j x y hi hj e => ?_⟩
  · obtain ⟨q, hq, rfl⟩ := List.mem_map.1 hp
    exact ⟨_, int_key' (h.r q hq)⟩
  · unfold aMap at hi hj
    rw [List.getElem?_map] at hi hj
    obtain ⟨p, hp, rfl⟩ := Option.map_eq_some_iff.1 hi
    obtain ⟨q, hq, rfl⟩ := Option.map_eq_some_iff.1 hj
    simp only [Value.int.injEq, true_and] at e
    have h1 : (m.map Prod.fst)[i]? = some p.1 := by rw [List.getElem?_map, hp]; rfl
    have h2 : (m.map Prod.fst)[j]? = some q.1 := by rw [List.getElem?_map, hq]; rfl
    exact (List.getElem?_inj (List.getElem?_eq_some_iff.1 h1).1 h.d).1 (by rw [h1, h2, e])
theorem am_look {T E : TypeId} (hT : Try.prog.underlying T = some (.map 3 E)) {m : List (Int × α)} (h : AM m) (enc : α → Value) (z : α) (hz : ∀ u : World, (zeroValue E).run Try.prog u = .ok (enc z) u) {k : Int} (hk : i64ok k) (w : World) (b : Nat) (hb : w.heap[b]? = some (gMap (aMap enc m))) :
    (Instr.lookup T (.map (some b)) (.int .i64 k) false).run Try.prog w = .ok (enc (aget z m k)) w ∧
    ∀ v, (Instr.mapUpdate T (.map (some b)) (.int .i64 k) (enc v)).run Try.prog w = .ok () (setBlock w b (gMap (aMap enc (aput m k v)))) := by
  by_cases hc : ∃ p ∈ m, p.1 = k
  · obtain ⟨p, hp, rfl⟩ := hc
    obtain ⟨j, hj⟩ := List.mem_iff_getElem?.1 hp
    have hj2 : (aMap enc m)[j]? = some (.int .i64 p.1, enc p.2) := by unfold aMap; rw [List.getElem?_map, hj]; rfl
    obtain ⟨h1, _, _, _, h5⟩ := g_there im_keyed hT (h.keys enc) hj2 w b hb
    obtain ⟨e1, e2⟩ := aget_some z h.d hj
    refine ⟨by rw [e1]; exact h1, fun v => ?_⟩
    rw [e2]
    have := h5 (enc v)
    have e3 : (aMap enc m).set j (.int .i64 p.1, enc v) = aMap enc (m.set j (p.1, v)) := by unfold aMap; rw [List.map_set]
    rw [← e3]; exact this
  · have hn : ∀ p ∈ m, p.1 ≠ k := fun p hp e => hc ⟨p, hp, e⟩
    obtain ⟨e1, e2⟩ := aget_none z hn
    obtain ⟨h1, _, _, h4⟩ := g_gone im_keyed hT (h.keys enc) hz (int_key' hk) (fun p hp e => by
      obtain ⟨q, hq, rfl⟩ := List.mem_map.1 hp
      simp only [Value.int.injEq, true_and] at e
      exact hn q hq e) w b hb
    refine ⟨by rw [e1]; exact h1, fun v => ?_⟩
    rw [e2]
    have := h4 (enc v)
    have e3 : aMap enc m ++ [(.int .i64 k, enc v)] = aMap enc (m ++ [(k, v)]) := by unfold aMap; rw [List.map_append]; rfl
    rw [← e3]; exact this
end
def ldE (x : Ld) : Value := .agg #[.int .i64 x.c, .int .i64 x.e, .int .i64 x.d, .int .i64 x.g]
def z4 : Ld := ⟨0, 0, 0, 0⟩
theorem zero_ld (u : World) : (zeroValue 25).run Try.prog u = .ok (ldE z4) u := by kernel_rfl
/-- The clients' map behind i calls. -/
def clS (m : List (Int × Ld)) (x : Oi) : List (Int × Ld) := aput m x.who (lsum [aget z4 m x.who, oneN x])
def clTo (l : List Oi) (i : Nat) : List (Int × Ld) := (l.take i).foldl clS []
theorem clTo_succ {l : List Oi} {i : Nat} {x : Oi} (h : l[i]? = some x) : clTo l (i + 1) = clS (clTo l i) x := by
  unfold clTo
  rw [List.take_add_one, h, List.foldl_append]
  rfl
def whoL (l : List Oi) (k : Int) : Ld := ofN (l.filter (fun y => decide (y.who = k)))
theorem whoL_ok {l : List Oi} (h : okO l) (k : Int) : (whoL l k).ok ∧ 0 ≤ (whoL l k).g := ofN_ok (h.filter _)
theorem clTo_get (l : List Oi) (ho : okO l) : ∀ i, i ≤ l.length → ∀ k, aget z4 (clTo l i) k = whoL (l.take i) k
  | 0, _, k => rfl
  | i + 1, hi, k => by
    obtain ⟨x, hx⟩ : ∃ x, l[i]? = some x := ⟨_, List.getElem?_eq_getElem (by omega)⟩
    have ih := clTo_get l ho i (by omega)
    have hxo := ho x (List.mem_of_getElem? hx)
    rw [clTo_succ hx, clS, aget_put, ih, ih]
    unfold whoL
    rw [who_succ hx]
    by_cases hk : x.who = k
    · subst hk
      rw [if_pos rfl, if_pos rfl, ofN_snoc]
      have h8 := whoL_ok (ho.take i) x.who
      unfold whoL at h8
      rw [lsum_two h8, ladd_one h8]
    · rw [if_neg hk, if_neg hk, List.append_nil]
theorem clTo_am (l : List Oi) (hw : ∀ x ∈ l, i64ok x.who) : ∀ i, i ≤ l.length → AM (clTo l i)
  | 0, _ => AM.nil
  | i + 1, hi => by
    obtain ⟨x, hx⟩ : ∃ x, l[i]? = some x := ⟨_, List.getElem?_eq_getElem (by omega)⟩
    rw [clTo_succ hx, clS]
    exact (clTo_am l hw i (by omega)).put (hw x (List.mem_of_getElem? hx)) _
/-- The keys behind i calls: those whose Who is one of them. -/
theorem clTo_keys (l : List Oi) : ∀ i, i ≤ l.length → ∀ k, k ∈ (clTo l i).map Prod.fst ↔ ∃ y ∈ l.take i, y.who = k
  | 0, _, k => by simp [clTo]
  | i + 1, hi, k => by
    obtain ⟨x, hx⟩ : ∃ x, l[i]? = some x := ⟨_, List.getElem?_eq_getElem (by omega)⟩
    have ih := clTo_keys l i (by omega)
    rw [clTo_succ hx, clS, aput_keys]
    have e : l.take (i + 1) = l.take i ++ [x] := by rw [List.take_add_one, hx]; rfl
    rw [e]
    constructor
    · intro h
      split at h
      · obtain ⟨y, hy, e⟩ := (ih k).1 h
        exact ⟨y, List.mem_append_left _ hy, e⟩
      · rcases List.mem_append.1 h with h | h
        · obtain ⟨y, hy, e⟩ := (ih k).1 h
          exact ⟨y, List.mem_append_left _ hy, e⟩
        · rw [List.mem_singleton] at h
          exact ⟨x, by simp, h.symm⟩
    · rintro ⟨y, hy, rfl⟩
      rcases List.mem_append.1 hy with hy | hy
      · have := (ih y.who).2 ⟨y, hy, rfl⟩
        split
        · exact this
        · exact List.mem_append_left _ this
      · rw [List.mem_singleton] at hy
        subst hy
        split
        · assumption
        · simp
/-- The sum of parts. -/
def partS (key : Oi → Int) (l : List Oi) (D : List Int) : Ld := D.foldl (fun s d => ladd s (ofN (l.filter (fun y => decide (key y = d))))) ⟨0, 0, 0, 0⟩
def cntS (key : Oi → Int) (p : Oi → Bool) (l : List Oi) : List Int → Nat
  | [] => 0
  | d :: D => (l.filter (fun y => decide (key y = d))).countP p + cntS key p l D
def maxS (key : Oi → Int) (l : List Oi) : List Int → Int
  | [] => 0
  | d :: D => max (longN (l.filter (fun y => decide (key y = d)))) (maxS key l D)
theorem cntS_nil (key : Oi → Int) (p : Oi → Bool) : ∀ D, cntS key p [] D = 0
  | [] => rfl
  | d :: D => by rw [cntS, cntS_nil key p D]; rfl
theorem cntS_cons (key : Oi → Int) (p : Oi → Bool) (x : Oi) (l : List Oi) : ∀ D : List Int, D.Nodup → cntS key p (x :: l) D = cntS key p l D + (if key x ∈ D ∧ p x = true then 1 else 0)
  | [], _ => by simp [cntS]
  | d :: D, h => by
    rw [List.nodup_cons] at h
    rw [cntS, cntS, cntS_cons key p x l D h.2]
    by_cases hd : key x = d
    · subst hd
      rw [List.filter_cons_of_pos (by simp), List.countP_cons]
      have hno : ¬ (key x ∈ D ∧ p x = true) := fun e => h.1 e.1
      rw [if_neg hno]
      by_cases hp : p x = true
      · rw [if_pos hp, if_pos ⟨List.mem_cons_self .., hp⟩]; omega
      · rw [if_neg hp, if_neg (fun e => hp e.2)]; omega
    · rw [List.filter_cons_of_neg (by simp [hd])]
      by_cases hp : key x ∈ D ∧ p x = true
      · rw [if_pos hp, if_pos ⟨List.mem_cons_of_mem _ hp.1, hp.2⟩]; omega
      · rw [if_neg hp, if_neg]
        · omega
        · rintro ⟨h1, h2⟩
          rcases List.mem_cons.1 h1 with h1 | h1
          · exact hd h1
          · exact hp ⟨h1, h2⟩
theorem cntS_all (key : Oi → Int) (p : Oi → Bool) {D : List Int} (hD : D.Nodup) : ∀ l : List Oi, (∀ x ∈ l, key x ∈ D) → cntS key p l D = l.countP p
  | [], _ => cntS_nil key p D
  | x :: l, h => by
    rw [cntS_cons key p x l D hD, cntS_all key p hD l (fun y hy => h y (List.mem_cons_of_mem _ hy)), List.countP_cons]
    by_cases hp : p x = true
    · rw [if_pos hp, if_pos ⟨h x (List.mem_cons_self ..), hp⟩]
    · rw [if_neg hp, if_neg (fun e => hp e.2)]
theorem longN_ge : ∀ (l : List Oi) (g : Int), g ≤ l.foldl longS g ∧ (∀ x ∈ l, x.t ≠ -1 → lastN x ≤ l.foldl longS g) ∧ (∀ b : Int, g ≤ b → (∀ x ∈ l, x.t ≠ -1 → lastN x ≤ b) → l.foldl longS g ≤ b)
  | [], g => ⟨Int.le_refl _, fun x hx => (by cases hx), fun b hb _ => hb⟩
  | x :: l, g => by
    obtain ⟨h1, h2, h3⟩ := longN_ge l (longS g x)
    have hs : g ≤ longS g x := by unfold longS; split <;> omega
    rw [List.foldl_cons]
    refine ⟨by omega, fun y hy ht => ?_, fun b hb hall => h3 b ?_ (fun y hy => hall y (List.mem_cons_of_mem _ hy))⟩
    · rcases List.mem_cons.1 hy with rfl | hy
      · have : lastN y ≤ longS g y := by unfold longS; rw [if_neg ht]; omega
        omega
      · exact h2 y hy ht
    · unfold longS
      split
      · exact hb
      · rename_i ht
        have := hall x (List.mem_cons_self ..) ht
        omega
theorem maxS_ge (key : Oi → Int) (l : List Oi) : ∀ D : List Int, 0 ≤ maxS key l D ∧ (∀ d ∈ D, longN (l.filter (fun y => decide (key y = d))) ≤ maxS key l D) ∧ (∀ b : Int, 0 ≤ b → (∀ d ∈ D, longN (l.filter (fun y => decide (key y = d))) ≤ b) → maxS key l D ≤ b)
  | [] => ⟨Int.le_refl _, fun d hd => (by cases hd), fun b hb _ => hb⟩
  | d :: D => by
    obtain ⟨h1, h2, h3⟩ := maxS_ge key l D
    rw [maxS]
    refine ⟨by omega, fun e he => ?_, fun b hb hall => ?_⟩
    · rcases List.mem_cons.1 he with rfl | he
      · omega
      · have := h2 e he; omega
    · have h4 := hall d (List.mem_cons_self ..)
      have h5 := h3 b hb (fun e he => hall e (List.mem_cons_of_mem _ he))
      omega
theorem maxS_all (key : Oi → Int) {D : List Int} (l : List Oi) (h : ∀ x ∈ l, key x ∈ D) : maxS key l D = longN l := by
  obtain ⟨a1, a2, a3⟩ := maxS_ge key l D
  obtain ⟨b1, b2, b3⟩ := longN_ge l 0
  apply Int.le_antisymm
  · refine a3 _ b1 (fun d hd => ?_)
    obtain ⟨_, _, c3⟩ := longN_ge (l.filter (fun y => decide (key y = d))) 0
    exact c3 _ b1 (fun x hx ht => b2 x (List.mem_filter.1 hx).1 ht)
  · refine b3 _ a1 (fun x hx ht => ?_)
    obtain ⟨_, c2, _⟩ := longN_ge (l.filter (fun y => decide (key y = key x))) 0
    have h1 := c2 x (List.mem_filter.2 ⟨hx, by simp⟩) ht
    have h2 := a2 (key x) (h x hx)
    unfold longN at h2
    omega
theorem cntS_snoc (key : Oi → Int) (p : Oi → Bool) (l : List Oi) (d : Int) : ∀ D : List Int, cntS key p l (D ++ [d]) = cntS key p l D + (l.filter (fun y => decide (key y = d))).countP p
  | [] => by simp [cntS]
  | e :: D => by rw [List.cons_append, cntS, cntS, cntS_snoc key p l d D]; omega
theorem maxS_snoc (key : Oi → Int) (l : List Oi) (d : Int) : ∀ D : List Int, maxS key l (D ++ [d]) = max (maxS key l D) (longN (l.filter (fun y => decide (key y = d))))
  | [] => by
    have := (longN_ge (l.filter (fun y => decide (key y = d))) 0).1
    unfold longN
    show max _ 0 = max 0 _
    unfold longN
    omega
  | e :: D => by rw [List.cons_append, maxS, maxS, maxS_snoc key l d D]; omega
theorem cntS_le (key : Oi → Int) (p : Oi → Bool) (l : List Oi) {D : List Int} (hD : D.Nodup) : cntS key p l D ≤ l.length := by
  induction l with
  | nil => rw [cntS_nil]; exact Nat.le_refl _
  | cons x l ih =>
    rw [cntS_cons key p x l D hD, List.length_cons]
    split <;> omega
theorem partS_num (key : Oi → Int) (l : List Oi) (hn : l.length ≤ 10000) : ∀ (n : Nat) (D : List Int), D.length = n → D.Nodup → partS key l D = ⟨(cntS key (fun _ => true) l D : Nat), (cntS key errB l D : Nat), (cntS key endB l D : Nat), maxS key l D⟩ := by
  intro n
  induction n with
  | zero =>
    intro D h _
    rw [List.length_eq_zero_iff.1 h]
    rfl
  | succ n ih =>
    intro D h hD
    obtain ⟨E, d, rfl⟩ : ∃ E d, D = E ++ [d] := ⟨D.dropLast, D.getLast (by intro e; subst e; simp at h), (List.dropLast_concat_getLast _).symm⟩
    rw [List.length_append, List.length_singleton] at h
    have hE : E.Nodup := (List.nodup_append.1 hD).1
    have e1 : partS key l (E ++ [d]) = ladd (partS key l E) (ofN (l.filter (fun y => decide (key y = d)))) := by unfold partS; rw [List.foldl_append]; rfl
    have hfl : (l.filter (fun y => decide (key y = d))).length ≤ l.length := List.length_filter_le ..
    have c0 := cntS_le key (fun _ => true) l hD
    have c1 := cntS_le key errB l hD
    have c2 := cntS_le key endB l hD
    rw [e1, ih E (by omega) hE, ofN_all _ (by omega), ladd]
    rw [cntS_snoc] at c0 c1 c2
    rw [cntS_snoc, cntS_snoc, cntS_snoc, maxS_snoc]
    have e0 : (l.filter (fun y => decide (key y = d))).countP (fun _ => true) = (l.filter (fun y => decide (key y = d))).length := by simp
    rw [e0] at c0 ⊢
    simp only [Ld.mk.injEq, wrap64, and_true]
    refine ⟨by omega, by omega, by omega⟩
theorem partS_all (key : Oi → Int) (l : List Oi) (hn : l.length ≤ 10000) {D : List Int} (hD : D.Nodup) (h : ∀ x ∈ l, key x ∈ D) : partS key l D = ofN l := by
  rw [partS_num key l hn _ D rfl hD, cntS_all key _ hD l h, cntS_all key _ hD l h, cntS_all key _ hD l h, maxS_all key l h, ofN_all l hn]
  simp
end Go.Proofs.Ytfilbdmenlhoiaa
