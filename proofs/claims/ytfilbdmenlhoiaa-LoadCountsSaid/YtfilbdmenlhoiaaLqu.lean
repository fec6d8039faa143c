/- load: Quiet. By program (genlq.py). -/
import Derived.Test.YtfilbdmenlhoiaaLsp
import Derived.Carry
namespace Go.Proofs.Ytfilbdmenlhoiaa
open Go.ChangeShapes Go.WideShapes Go.ChangeAt Go.RowKit
set_option linter.unusedVariables false
open Go.WideMaps Go.MapKept Go.WideElems Go.ChangeMaps
set_option linter.unusedSimpArgs false
/-- One call more: what changes at which times, and how many end then. -/
def qstep (s : List (Int × Int) × List (Int × Int)) (x : Oi) : List (Int × Int) × List (Int × Int) :=
  if x.t = -1 then (iput s.1 x.f (wrap64 (iget s.1 x.f + 1)), s.2)
  else if x.f < x.t then (iput (iput s.1 x.f (wrap64 (iget s.1 x.f + 1))) x.t (wrap64 (iget (iput s.1 x.f (wrap64 (iget s.1 x.f + 1))) x.t - 1)), iput s.2 x.t (wrap64 (iget s.2 x.t + 1)))
  else (s.1, iput s.2 x.t (wrap64 (iget s.2 x.t + 1)))
def qTo (l : List Oi) : Nat → List (Int × Int) × List (Int × Int)
  | 0 => ([], [])
  | i + 1 => match l[i]? with
    | some x => qstep (qTo l i) x
    | none => qTo l i
theorem qTo_succ {l : List Oi} {i : Nat} {x : Oi} (h : l[i]? = some x) : qTo l (i + 1) = qstep (qTo l i) x := by rw [qTo, h]
/-- Two maps at G. -/
structure Q2 (w : World) (G : Nat) (c e : List (Int × Int)) : Prop where
  g : w.heap[G]? = some (gMap (iMap c))
  k : w.heap[G + 1]? = some (gMap (iMap e))
  c : IM c
  e : IM e
theorem Q2.below {w w' : World} {G : Nat} {c e : List (Int × Int)} (h : Q2 w G c e) (hb : Below w.heap.size w w') : Q2 w' G c e :=
  ⟨(hb.block _ (g_lt h.g)).trans h.g, (hb.block _ (g_lt h.k)).trans h.k, h.c, h.e⟩
theorem Q2.set1 {w : World} {G : Nat} {c e c' : List (Int × Int)} (h : Q2 w G c e) (hc : IM c') : Q2 (setBlock w G (gMap (iMap c'))) G c' e :=
  ⟨gs_at (g_lt h.g), (gs_heap (by omega)).trans h.k, hc, h.e⟩
theorem Q2.set2 {w : World} {G : Nat} {c e e' : List (Int × Int)} (h : Q2 w G c e) (he : IM e') : Q2 (setBlock w (G + 1) (gMap (iMap e'))) G c e' :=
  ⟨(gs_heap (by omega)).trans h.g, gs_at (g_lt h.k), h.c, he⟩
/-- The maps, and a call of the round's own in block r. -/
structure QS (w W : World) (G r : Nat) (cs : Array Value) (c e : List (Int × Int)) : Prop where
  q : Q2 w G c e
  o : w.heap[r]? = some (.cells cs 51 (0, 0))
  b : Below G W w
  l : G + 1 < r
theorem QS.below {w w' W : World} {G r : Nat} {cs : Array Value} {c e : List (Int × Int)} (h : QS w W G r cs c e) (hb : Below w.heap.size w w') : QS w' W G r cs c e :=
  ⟨h.q.below hb, (hb.block _ (g_lt h.o)).trans h.o, h.b.trans (hb.mono (Nat.le_of_lt (g_lt h.q.g))), h.l⟩
theorem QS.set1 {w W : World} {G r : Nat} {cs : Array Value} {c e c' : List (Int × Int)} (h : QS w W G r cs c e) (hc : IM c') : QS (setBlock w G (gMap (iMap c'))) W G r cs c' e :=
  ⟨h.q.set1 hc, (gs_heap (by have := h.l; omega)).trans h.o, h.b.trans (gs_below (Nat.le_refl _)), h.l⟩
theorem QS.set2 {w W : World} {G r : Nat} {cs : Array Value} {c e e' : List (Int × Int)} (h : QS w W G r cs c e) (hc : IM e') : QS (setBlock w (G + 1) (gMap (iMap e'))) W G r cs c e' :=
  ⟨h.q.set2 hc, (gs_heap (by have := h.l; omega)).trans h.o, h.b.trans (gs_below (Nat.le_succ _)), h.l⟩
theorem QS.cell {w W : World} {G r k : Nat} {cs : Array Value} {c e : List (Int × Int)} {v : Value} (h : QS w W G r cs c e) (hk : cs[k]? = some v) : w.cell? ⟨r, k, none⟩ = some v := by
  rw [cell_of_row _ _ k cs _ (0, 0) h.o]; exact hk
theorem QS.range {w W : World} {G r : Nat} {cs : Array Value} {c e : List (Int × Int)} (h : QS w W G r cs c e) : w.rangeAt r 0 cs.toList := fun j v hj => by
  rw [Nat.zero_add]
  exact h.cell (by simpa using hj)
theorem owns_mono {w : World} {B B' : Nat} {E : TypeId} {k : IntKind} {v : Value} {ys : List Int} (h : Owns w B E k v ys) (hB : B' ≤ B) : Owns w B' E k v ys := by
  obtain ⟨h0, h1 | ⟨g, cap, cur, rfl, hg, hr⟩⟩ := h
  · exact ⟨h0, .inl h1⟩
  · exact ⟨h0, .inr ⟨g, cap, cur, rfl, Nat.le_trans hB hg, hr⟩⟩
theorem compact_in {zs : List Int} {a : Int} (h : a ∈ Lib.compact zs) : a ∈ zs := by
  unfold Lib.compact Lib.compactUpTo at h
  obtain ⟨j, hj, rfl⟩ := List.mem_map.1 h
  have hl : j < zs.length := by simpa using (List.mem_filter.1 hj).1
  simp [hl]
/-- The times at which a call ended and none is under way. -/
def quF (c e : List (Int × Int)) : List Int → Int → List Int
  | [], _ => []
  | a :: T, u => if wrap64 (u + iget c a) = 0 ∧ 0 < iget e a then a :: quF c e T (wrap64 (u + iget c a)) else quF c e T (wrap64 (u + iget c a))
def quT (l : List Oi) : List Int := Lib.compact ((keysOf [(qTo l l.length).1, (qTo l l.length).2]).mergeSort fun x y => decide (x ≤ y))
def quL (l : List Oi) : List Int := quF (qTo l l.length).1 (qTo l l.length).2 (quT l) 0
set_option maxRecDepth 100000 in
set_option maxHeartbeats 8000000 in
theorem l_quiet (b : Nat) (l : List Oi) (c : Nat) (W : World) (hM : OpsAt W W.heap.size b 0 l) (hn : l.length ≤ 10000) :
    Calls Try.prog 18 #[.slice (some ⟨b, 0, none⟩) l.length c] W fun e w' => ∃ v, e = .returned v ∧ Owns w' W.heap.size 3 .i64 v (quL l) ∧ Below W.heap.size W w' := by
  have HM := Lib.hid hM
  have HN := Lib.hid hn
  clear hM hn
  obtain ⟨G, hG⟩ : ∃ G, W.heap.size = G := ⟨_, rfl⟩
  obtain ⟨wa, hwa⟩ : ∃ wa, (W.alloc (.map #[] 0)).alloc (.map #[] 0) = wa := ⟨_, rfl⟩
  have HA := Lib.hid (show Q2 wa G [] [] ∧ Below G W wa ∧ G + 1 < wa.heap.size from by
    subst hG
    have h1 := heap_alloc_new W (.map #[] 0)
    have h2 := heap_alloc_new (W.alloc (.map #[] 0)) (.map #[] 0)
    rw [World.size_alloc, hwa] at h2
    have h3 : wa.heap[W.heap.size]? = some (.map #[] 0) := by
      rw [← hwa]
      exact (((Below.refl _ _).alloc (Nat.le_refl _) _ : Below (W.alloc (.map #[] 0)).heap.size (W.alloc (.map #[] 0)) _).block _ (by simp)).trans h1
    exact ⟨⟨h3, h2, IM.nil, IM.nil⟩, by rw [← hwa]; exact ((Below.refl _ _).alloc (Nat.le_refl _) _).alloc (by simp) _, g_lt h2⟩)
  have hmm := @run_makeMap Try.prog
  have HW := Lib.hid hwa
  clear hwa
  go_enter Try.func18, Try.ntmps18
  go_wp2_with fail
  go_loopw [15] (fun x wr => ∃ (i : Nat), x = .int .i64 i ∧ Hid (i ≤ l.length) ∧ Hid (Q2 wr G (qTo l i).1 (qTo l i).2 ∧ G + 1 < wr.heap.size) ∧ Hid ((qTo l i).1.length ≤ 2 * i ∧ (qTo l i).2.length ≤ i) ∧ Hid (Below G W wr)) (fun x _ => l.length - (match x with | .int _ n => n.toNat | _ => 0))
  case atStart =>
    rw [HW.out]
    exact ⟨0, rfl, Lib.hid (Nat.zero_le _), Lib.hid ⟨HA.out.1, HA.out.2.2⟩, Lib.hid ⟨by simp [qTo], by simp [qTo]⟩, Lib.hid HA.out.2.1⟩
  case round =>
    obtain ⟨i, rfl, HI, HQ, HL, HB⟩ := hrel
    by_cases hi : i < l.length
    · obtain ⟨x, hx⟩ : ∃ x, l[i]? = some x := ⟨_, List.getElem?_eq_getElem hi⟩
      obtain ⟨cs, hv, hc⟩ := HM.out.2 i x hx
      have hbl : b < G := hG ▸ HM.out.1
      have hc2 : ∀ k v, cs[k]? = some v → wr.cell? ⟨b, 0 + i * 19 + k, none⟩ = some v := fun k v hk => (HB.out.cell hbl).trans (hc k v hk)
      have LD := Lib.hid (ops_load hc2)
      rw [Nat.zero_add] at LD
      have HV := Lib.hid hv
      obtain ⟨w1, hw1⟩ : ∃ w1, wr.alloc (.cells cs 51) = w1 := ⟨_, rfl⟩
      have HQ1 := Lib.hid (show QS w1 W G wr.heap.size cs (qTo l i).1 (qTo l i).2 from by
        rw [← hw1]
        exact ⟨HQ.out.1.below ((Below.refl _ _).alloc (Nat.le_refl _) _), heap_alloc_new _ _, HB.out.alloc (by have := HQ.out.2; omega) _, HQ.out.2⟩)
      have HW1 := Lib.hid hw1
      have CE := Lib.hid (l_ended cs _ _ _ _ _ hv)
      have SP := Lib.hid (show qTo l (i + 1) = qstep ((qTo l i).1, (qTo l i).2) x from qTo_succ hx)
      have WR := Lib.hid (show wrap64 ((i : Int) + 1) = ((i + 1 : Nat) : Int) by have := HN.out; simp only [wrap64]; omega)
      have HX := Lib.hid hx
      have LP1 := Lib.hid (fun v => iput_len (qTo l i).1 x.f v)
      have LP2 := Lib.hid (fun k v => iput_len (iput (qTo l i).1 x.f (wrap64 (iget (qTo l i).1 x.f + 1))) k v)
      have LP3 := Lib.hid (fun k v => iput_len (qTo l i).2 k v)
      generalize (qTo l i).1 = cc, (qTo l i).2 = ee at *
      clear hv hc hc2 hw1 hx
      by_cases ht : x.t = -1
      · have hc : (x.t != -1) = false := by simp [ht]
        go_wp2_with (first | refine wpl_op rfl _ rfl _ _ rfl HV.out.n LD.out ?_ | refine wpl_op rfl _ rfl _ _ rfl HV.out.n HQ1.out.range ?_ | refine wpl_new rfl _ _ rfl rfl rfl HV.out.n HV.out.o rfl HW1.out ?_)
        refine (CE.out _).mono ?_
        rintro e w2 ⟨rfl, hw2⟩
        have HQ2 := Lib.hid (HQ1.out.below (show Below w1.heap.size w1 w2 by rw [hw2]; exact (Below.refl _ _).alloc (Nat.le_refl _) _))
        have c17_2 := HQ2.out.cell HV.out.hf
        have c18_2 := HQ2.out.cell HV.out.ht
        clear hw2
        go_wp2_with (first | refine wpl_op rfl _ rfl _ _ rfl HV.out.n LD.out ?_ | refine wpl_op rfl _ rfl _ _ rfl HV.out.n HQ1.out.range ?_ | refine wpl_op rfl _ rfl _ _ rfl HV.out.n HQ2.out.range ?_ | refine wpl_new rfl _ _ rfl rfl rfl HV.out.n HV.out.o rfl HW1.out ?_)
        refine (CE.out _).mono ?_
        rintro e w3 ⟨rfl, hw3⟩
        have HQ3 := Lib.hid (HQ2.out.below (show Below w2.heap.size w2 w3 by rw [hw3]; exact (Below.refl _ _).alloc (Nat.le_refl _) _))
        have c17_3 := HQ3.out.cell HV.out.hf
        have c18_3 := HQ3.out.cell HV.out.ht
        clear hw3
        obtain ⟨L4, U4⟩ := im_look HQ3.out.q.c (k := x.f) HV.out.ok.2.2.2.1 w3 G HQ3.out.q.g
        replace U4 := U4 (wrap64 (iget cc x.f + 1))
        obtain ⟨w4, hw4⟩ : ∃ w, setBlock w3 G (gMap (iMap (iput (cc) x.f (wrap64 (iget cc x.f + 1))))) = w := ⟨_, rfl⟩
        rw [hw4] at U4
        have HQ4 := Lib.hid (HQ3.out.set1 (HQ3.out.q.c.put HV.out.ok.2.2.2.1 (wrap64 (iget cc x.f + 1))))
        rw [hw4] at HQ4
        have c17_4 := HQ4.out.cell HV.out.hf
        have c18_4 := HQ4.out.cell HV.out.ht
        clear hw4
        go_wp2_with (first | refine wpl_op rfl _ rfl _ _ rfl HV.out.n LD.out ?_ | refine wpl_op rfl _ rfl _ _ rfl HV.out.n HQ1.out.range ?_ | refine wpl_op rfl _ rfl _ _ rfl HV.out.n HQ2.out.range ?_ | refine wpl_op rfl _ rfl _ _ rfl HV.out.n HQ3.out.range ?_ | refine wpl_op rfl _ rfl _ _ rfl HV.out.n HQ4.out.range ?_ | refine wpl_new rfl _ _ rfl rfl rfl HV.out.n HV.out.o rfl HW1.out ?_)
        refine (CE.out _).mono ?_
        rintro e w5 ⟨rfl, hw5⟩
        have HQ5 := Lib.hid (HQ4.out.below (show Below w4.heap.size w4 w5 by rw [hw5]; exact (Below.refl _ _).alloc (Nat.le_refl _) _))
        have c17_5 := HQ5.out.cell HV.out.hf
        have c18_5 := HQ5.out.cell HV.out.ht
        clear hw5
        go_wp2_with (first | refine wpl_op rfl _ rfl _ _ rfl HV.out.n LD.out ?_ | refine wpl_op rfl _ rfl _ _ rfl HV.out.n HQ5.out.range ?_ | refine wpl_new rfl _ _ rfl rfl rfl HV.out.n HV.out.o rfl HW1.out ?_)
        have QE : qstep (cc, ee) x = (iput cc x.f (wrap64 (iget cc x.f + 1)), ee) := by unfold qstep; rw [if_pos ht]
        rw [QE] at SP
        go_roundw
        case rel =>
          refine ⟨i + 1, by rw [WR.out], Lib.hid hi, Lib.hid ⟨by rw [SP.out]; exact HQ5.out.q, by have := HQ5.out.l; have := g_lt HQ5.out.o; omega⟩, Lib.hid ?_, Lib.hid HQ5.out.b⟩
          rw [SP.out]; have := HL.out; have := LP1.out (wrap64 (iget cc x.f + 1)); have := LP2.out x.t (wrap64 (iget (iput cc x.f (wrap64 (iget cc x.f + 1))) x.t - 1)); have := LP3.out x.t (wrap64 (iget ee x.t + 1)); constructor <;> simp only <;> omega
        case measure => simp [WR.out]; omega
      · have hc : (x.t != -1) = true := by simp [ht]
        go_wp2_with (first | refine wpl_op rfl _ rfl _ _ rfl HV.out.n LD.out ?_ | refine wpl_op rfl _ rfl _ _ rfl HV.out.n HQ1.out.range ?_ | refine wpl_new rfl _ _ rfl rfl rfl HV.out.n HV.out.o rfl HW1.out ?_)
        refine (CE.out _).mono ?_
        rintro e w2 ⟨rfl, hw2⟩
        have HQ2 := Lib.hid (HQ1.out.below (show Below w1.heap.size w1 w2 by rw [hw2]; exact (Below.refl _ _).alloc (Nat.le_refl _) _))
        have c17_2 := HQ2.out.cell HV.out.hf
        have c18_2 := HQ2.out.cell HV.out.ht
        clear hw2
        obtain ⟨L3, U3⟩ := im_look HQ2.out.q.e (k := x.t) HV.out.ok.2.2.2.2 w2 (G + 1) HQ2.out.q.k
        replace U3 := U3 (wrap64 (iget ee x.t + 1))
        obtain ⟨w3, hw3⟩ : ∃ w, setBlock w2 (G + 1) (gMap (iMap (iput (ee) x.t (wrap64 (iget ee x.t + 1))))) = w := ⟨_, rfl⟩
        rw [hw3] at U3
        have HQ3 := Lib.hid (HQ2.out.set2 (HQ2.out.q.e.put HV.out.ok.2.2.2.2 (wrap64 (iget ee x.t + 1))))
        rw [hw3] at HQ3
        have c17_3 := HQ3.out.cell HV.out.hf
        have c18_3 := HQ3.out.cell HV.out.ht
        clear hw3
        go_wp2_with (first | refine wpl_op rfl _ rfl _ _ rfl HV.out.n LD.out ?_ | refine wpl_op rfl _ rfl _ _ rfl HV.out.n HQ1.out.range ?_ | refine wpl_op rfl _ rfl _ _ rfl HV.out.n HQ2.out.range ?_ | refine wpl_op rfl _ rfl _ _ rfl HV.out.n HQ3.out.range ?_ | refine wpl_new rfl _ _ rfl rfl rfl HV.out.n HV.out.o rfl HW1.out ?_)
        refine (CE.out _).mono ?_
        rintro e w4 ⟨rfl, hw4⟩
        have HQ4 := Lib.hid (HQ3.out.below (show Below w3.heap.size w3 w4 by rw [hw4]; exact (Below.refl _ _).alloc (Nat.le_refl _) _))
        have c17_4 := HQ4.out.cell HV.out.hf
        have c18_4 := HQ4.out.cell HV.out.ht
        clear hw4
        by_cases hg : x.f < x.t
        · have hd : decide (x.f < x.t) = true := by simp [hg]
          obtain ⟨L5, U5⟩ := im_look HQ4.out.q.c (k := x.f) HV.out.ok.2.2.2.1 w4 G HQ4.out.q.g
          replace U5 := U5 (wrap64 (iget cc x.f + 1))
          obtain ⟨w5, hw5⟩ : ∃ w, setBlock w4 G (gMap (iMap (iput (cc) x.f (wrap64 (iget cc x.f + 1))))) = w := ⟨_, rfl⟩
          rw [hw5] at U5
          have HQ5 := Lib.hid (HQ4.out.set1 (HQ4.out.q.c.put HV.out.ok.2.2.2.1 (wrap64 (iget cc x.f + 1))))
          rw [hw5] at HQ5
          have c17_5 := HQ5.out.cell HV.out.hf
          have c18_5 := HQ5.out.cell HV.out.ht
          clear hw5
          go_wp2_with (first | refine wpl_op rfl _ rfl _ _ rfl HV.out.n LD.out ?_ | refine wpl_op rfl _ rfl _ _ rfl HV.out.n HQ4.out.range ?_ | refine wpl_op rfl _ rfl _ _ rfl HV.out.n HQ5.out.range ?_ | refine wpl_new rfl _ _ rfl rfl rfl HV.out.n HV.out.o rfl HW1.out ?_)
          refine (CE.out _).mono ?_
          rintro e w6 ⟨rfl, hw6⟩
          have HQ6 := Lib.hid (HQ5.out.below (show Below w5.heap.size w5 w6 by rw [hw6]; exact (Below.refl _ _).alloc (Nat.le_refl _) _))
          have c17_6 := HQ6.out.cell HV.out.hf
          have c18_6 := HQ6.out.cell HV.out.ht
          clear hw6
          obtain ⟨L7, U7⟩ := im_look HQ6.out.q.c (k := x.t) HV.out.ok.2.2.2.2 w6 G HQ6.out.q.g
          replace U7 := U7 (wrap64 (iget (iput cc x.f (wrap64 (iget cc x.f + 1))) x.t - 1))
          obtain ⟨w7, hw7⟩ : ∃ w, setBlock w6 G (gMap (iMap (iput (iput cc x.f (wrap64 (iget cc x.f + 1))) x.t (wrap64 (iget (iput cc x.f (wrap64 (iget cc x.f + 1))) x.t - 1))))) = w := ⟨_, rfl⟩
          rw [hw7] at U7
          have HQ7 := Lib.hid (HQ6.out.set1 (HQ6.out.q.c.put HV.out.ok.2.2.2.2 (wrap64 (iget (iput cc x.f (wrap64 (iget cc x.f + 1))) x.t - 1))))
          rw [hw7] at HQ7
          have c17_7 := HQ7.out.cell HV.out.hf
          have c18_7 := HQ7.out.cell HV.out.ht
          clear hw7
          go_wp2_with (first | refine wpl_op rfl _ rfl _ _ rfl HV.out.n LD.out ?_ | refine wpl_op rfl _ rfl _ _ rfl HV.out.n HQ6.out.range ?_ | refine wpl_op rfl _ rfl _ _ rfl HV.out.n HQ7.out.range ?_ | refine wpl_new rfl _ _ rfl rfl rfl HV.out.n HV.out.o rfl HW1.out ?_)
          have QE : qstep (cc, ee) x = (iput (iput cc x.f (wrap64 (iget cc x.f + 1))) x.t (wrap64 (iget (iput cc x.f (wrap64 (iget cc x.f + 1))) x.t - 1)), iput ee x.t (wrap64 (iget ee x.t + 1))) := by unfold qstep; rw [if_neg ht, if_pos hg]
          rw [QE] at SP
          go_roundw
          case rel =>
            refine ⟨i + 1, by rw [WR.out], Lib.hid hi, Lib.hid ⟨by rw [SP.out]; exact HQ7.out.q, by have := HQ7.out.l; have := g_lt HQ7.out.o; omega⟩, Lib.hid ?_, Lib.hid HQ7.out.b⟩
            rw [SP.out]; have := HL.out; have := LP1.out (wrap64 (iget cc x.f + 1)); have := LP2.out x.t (wrap64 (iget (iput cc x.f (wrap64 (iget cc x.f + 1))) x.t - 1)); have := LP3.out x.t (wrap64 (iget ee x.t + 1)); constructor <;> simp only <;> omega
          case measure => simp [WR.out]; omega
        · have hd : decide (x.f < x.t) = false := by simp [hg]
          go_wp2_with (first | refine wpl_op rfl _ rfl _ _ rfl HV.out.n LD.out ?_ | refine wpl_op rfl _ rfl _ _ rfl HV.out.n HQ4.out.range ?_ | refine wpl_new rfl _ _ rfl rfl rfl HV.out.n HV.out.o rfl HW1.out ?_)
          refine (CE.out _).mono ?_
          rintro e w5 ⟨rfl, hw5⟩
          have HQ5 := Lib.hid (HQ4.out.below (show Below w4.heap.size w4 w5 by rw [hw5]; exact (Below.refl _ _).alloc (Nat.le_refl _) _))
          have c17_5 := HQ5.out.cell HV.out.hf
          have c18_5 := HQ5.out.cell HV.out.ht
          clear hw5
          go_wp2_with (first | refine wpl_op rfl _ rfl _ _ rfl HV.out.n LD.out ?_ | refine wpl_op rfl _ rfl _ _ rfl HV.out.n HQ5.out.range ?_ | refine wpl_new rfl _ _ rfl rfl rfl HV.out.n HV.out.o rfl HW1.out ?_)
          have QE : qstep (cc, ee) x = (cc, iput ee x.t (wrap64 (iget ee x.t + 1))) := by unfold qstep; rw [if_neg ht, if_neg (show ¬ x.f < x.t by omega)]
          rw [QE] at SP
          go_roundw
          case rel =>
            refine ⟨i + 1, by rw [WR.out], Lib.hid hi, Lib.hid ⟨by rw [SP.out]; exact HQ5.out.q, by have := HQ5.out.l; have := g_lt HQ5.out.o; omega⟩, Lib.hid ?_, Lib.hid HQ5.out.b⟩
            rw [SP.out]; have := HL.out; have := LP1.out (wrap64 (iget cc x.f + 1)); have := LP2.out x.t (wrap64 (iget (iput cc x.f (wrap64 (iget cc x.f + 1))) x.t - 1)); have := LP3.out x.t (wrap64 (iget ee x.t + 1)); constructor <;> simp only <;> omega
          case measure => simp [WR.out]; omega
    · have e := (show i = l.length by have := HI.out; omega)
      subst e
      obtain ⟨cc, hcc⟩ : ∃ cc, cc = (qTo l l.length).1 := ⟨_, rfl⟩
      obtain ⟨ee, hee⟩ : ∃ ee, ee = (qTo l l.length).2 := ⟨_, rfl⟩
      rw [← hcc, ← hee] at HQ HL
      have HCC := Lib.hid hcc
      have HEE := Lib.hid hee
      clear hcc hee
      obtain ⟨w1, hw1⟩ : ∃ w1, wr.alloc (.cells #[.map (some G), .map (some (G + 1))] 66) = w1 := ⟨_, rfl⟩
      have HB1 := Lib.hid (show Below wr.heap.size wr w1 by rw [← hw1]; exact (Below.refl _ _).alloc (Nat.le_refl _) _)
      have hz1 : w1.heap.size = wr.heap.size + 1 := by rw [← hw1]; simp
      have HQ1 := Lib.hid (HQ.out.1.below HB1.out)
      have HM1 := Lib.hid (show MapsAt w1 w1.heap.size wr.heap.size [cc, ee] from ⟨by omega, fun j m hm => by
        have h2 := HQ.out.2
        match j, hm with
        | 0, hm => simp at hm; subst hm; exact ⟨G, by rw [← hw1]; exact op_new rfl, by omega, HQ1.out.g⟩
        | 1, hm => simp at hm; subst hm; exact ⟨G + 1, by rw [← hw1]; exact op_new rfl, by omega, HQ1.out.k⟩
        | j + 2, hm => simp at hm⟩)
      have HW1 := Lib.hid hw1
      have HZ1 := Lib.hid hz1
      clear hw1 hz1
      have CT := Lib.hid (l_times wr.heap.size [cc, ee] 2 w1 HM1.out (by simp) (by have := HL.out; have := HN.out; simp [keysOf]; omega))
      have CT2 := Lib.hid (show Calls Try.prog 23 #[.slice (some ⟨wr.heap.size, 0, none⟩) 2 2] w1 _ from CT.out)
      clear CT HI hi
      have hi : ¬ l.length < l.length := by omega
      go_wp2_with fail
      rw [HW1.out]
      refine CT2.out.mono ?_
      rintro e w3 ⟨v3, rfl, hO3, hB3⟩
      obtain ⟨T, hT⟩ : ∃ T, T = Lib.compact ((keysOf [cc, ee]).mergeSort fun x y => decide (x ≤ y)) := ⟨_, rfl⟩
      rw [← hT] at hO3
      have HOK := Lib.hid (show ∀ k ∈ T, i64ok k from fun k hk => by
        rw [hT] at hk
        have h1 := List.mem_mergeSort.1 (compact_in hk)
        simp only [keysOf, List.map_cons, List.map_nil, List.flatten_cons, List.flatten_nil, List.append_nil, List.mem_append, List.mem_map] at h1
        rcases h1 with ⟨p, hp, rfl⟩ | ⟨p, hp, rfl⟩
        · exact HQ.out.1.c.r p hp
        · exact HQ.out.1.e.r p hp)
      have HTL := Lib.hid (show T.length ≤ 100000 by
        have h1 := Lib.compact_length_le ((keysOf [cc, ee]).mergeSort fun x y => decide (x ≤ y))
        rw [← hT, List.length_mergeSort] at h1
        have := HL.out; have := HN.out
        simp [keysOf] at h1; omega)
      have HT := Lib.hid hT
      obtain ⟨a3, c3, rfl, hR3, -, -⟩ := hO3.shape
      have HR3 := Lib.hid hR3
      have HQ3 := Lib.hid (HQ1.out.below hB3)
      have HB3 := Lib.hid (show Below G W w3 from (HB.out.trans (HB1.out.mono (by have := HQ.out.2; omega))).trans (hB3.mono (by have := HQ.out.2; have := HZ1.out; omega)))
      have HG3 := Lib.hid (show G ≤ w3.heap.size by have := g_lt HQ3.out.g; omega)
      clear hT hO3 hR3 hB3
      go_wp2_with fail
      go_loopw [61, 8, 7] (fun x un v wq => ∃ (j : Nat) (u : Int) (acc : List Int), x = .int .i64 j ∧ un = .int .i64 u ∧ Hid (j ≤ T.length) ∧ Hid (acc ++ quF cc ee (T.drop j) u = quF cc ee T 0) ∧ Hid (acc.length ≤ j) ∧ Hid (Owns wq w3.heap.size 3 .i64 v acc) ∧ Hid (Below w3.heap.size w3 wq)) (fun x _ _ _ => T.length - (match x with | .int _ n => n.toNat | _ => 0))
      case atStart => exact ⟨0, 0, [], rfl, rfl, Lib.hid (Nat.zero_le _), Lib.hid rfl, Lib.hid (Nat.zero_le _), Lib.hid (Owns.nil _ _ _ _), Lib.hid (Below.refl _ _)⟩
      case round =>
        obtain ⟨j, u, acc, rfl, rfl, HJ, HF, HAL, HO, HBq⟩ := hrel
        obtain ⟨wq, rfl⟩ : ∃ wq, wq = wr := ⟨_, rfl⟩
        by_cases hj : j < T.length
        · obtain ⟨k, hk⟩ : ∃ k, T[j]? = some k := ⟨_, List.getElem?_eq_getElem hj⟩
          obtain ⟨bb, oo, rfl, hbb, hcell⟩ : ∃ bb oo, a3 = some ⟨bb, oo, none⟩ ∧ bb < w3.heap.size ∧ w3.cell? ⟨bb, oo + j, none⟩ = some (.int .i64 k) := by
            rcases HR3.out with h9 | ⟨bb, oo, h9, h10, h11⟩
            · rw [h9] at hj; simp at hj
            · exact ⟨bb, oo, h9, h10, by rw [h11 j hj]; simp [List.getD, hk]⟩
          have hc := (HBq.out.cell hbb).trans hcell
          have HQq := Lib.hid (HQ3.out.below HBq.out)
          have hok := HOK.out k (List.mem_of_getElem? hk)
          obtain ⟨L1, -⟩ := im_look HQq.out.c hok wq G HQq.out.g
          obtain ⟨L2, -⟩ := im_look HQq.out.e hok wq (G + 1) HQq.out.k
          have HD := Lib.hid (show T.drop j = k :: T.drop (j + 1) by rw [List.drop_eq_getElem_cons hj]; congr 1; rw [List.getElem?_eq_getElem hj] at hk; exact Option.some.inj hk)
          have WR := Lib.hid (show wrap64 ((j : Int) + 1) = ((j + 1 : Nat) : Int) by have := HTL.out; simp only [wrap64]; omega)
          clear hk hcell hok
          obtain ⟨u', hu'⟩ : ∃ u', wrap64 (u + iget cc k) = u' := ⟨_, rfl⟩
          have HU := Lib.hid hu'
          by_cases hz : u' = 0
          · by_cases hp : 0 < iget ee k
            · have hF := HF.out
              rw [HD.out, quF, if_pos (by rw [hu']; exact ⟨hz, hp⟩), hu'] at hF
              have HF2 := Lib.hid (show (acc ++ [k]) ++ quF cc ee (T.drop (j + 1)) u' = quF cc ee T 0 by rw [List.append_assoc]; exact hF)
              clear hF
              go_wp2_with (at_builtin; refine append_one Try.underlying61 info_int rfl _ _ rfl rfl HO.out rfl HBq.out.size (by have := HAL.out; have := HTL.out; omega) ?_; intro v4 w4 hO4 hb4)
              go_roundw
              case rel => exact ⟨j + 1, 0, acc ++ [k], by rw [WR.out], rfl, Lib.hid hj, Lib.hid (by have := HF2.out; rw [hz] at this; exact this), Lib.hid (by have := HAL.out; simp; omega), Lib.hid hO4, Lib.hid (HBq.out.trans hb4)⟩
              case measure => simp [WR.out]; omega
            · have hF := HF.out
              rw [HD.out, quF, if_neg (by rw [hu']; exact fun e => hp e.2), hu'] at hF
              have HF2 := Lib.hid hF
              clear hF
              go_wp2_with fail
              go_roundw
              case rel => exact ⟨j + 1, 0, acc, by rw [WR.out], by first | rfl | rw [HU.out, hz], Lib.hid hj, Lib.hid (by have := HF2.out; rw [hz] at this; exact this), Lib.hid (by have := HAL.out; omega), HO, HBq⟩
              case measure => simp [WR.out]; omega
          · have hF := HF.out
            rw [HD.out, quF, if_neg (by rw [hu']; exact fun e => hz e.1), hu'] at hF
            have HF2 := Lib.hid hF
            clear hF
            go_wp2_with fail
            go_roundw
            case rel => exact ⟨j + 1, u', acc, by rw [WR.out], rfl, Lib.hid hj, HF2, Lib.hid (by have := HAL.out; omega), HO, HBq⟩
            case measure => simp [WR.out]; omega
        · have HE := Lib.hid (show acc = quL l by
            have e : j = T.length := by have := HJ.out; omega
            have hF := HF.out
            rw [e, List.drop_length, quF, List.append_nil] at hF
            rw [hF, HCC.out, HEE.out, HT.out, HCC.out, HEE.out]
            rfl)
          go_wp2_with fail
          go_ret
          exact ⟨_, rfl, by rw [hG, ← HE.out]; exact owns_mono HO.out HG3.out, by rw [hG]; exact HB3.out.trans (HBq.out.mono HG3.out)⟩
end Go.Proofs.Ytfilbdmenlhoiaa
