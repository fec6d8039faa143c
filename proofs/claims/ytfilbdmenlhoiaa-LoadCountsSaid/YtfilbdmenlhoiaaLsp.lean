/- load: Span. -/
import Derived.Test.YtfilbdmenlhoiaaOpr
import Derived.BigQuiet
import Derived.RegionTactic
namespace Go.Proofs.Ytfilbdmenlhoiaa
open Go.ChangeShapes Go.WideShapes Go.ChangeAt Go.RowKit
set_option linter.unusedVariables false
set_option linter.unusedSimpArgs false
/-- The times of some calls, one by one. -/
def spn (i : Nat) (s : Int × Int) (x : Oi) : Int × Int :=
  let s := if i = 0 then (x.f, x.f) else s
  let s := (min s.1 x.f, max s.2 x.f)
  if x.t ≠ -1 then (s.1, max s.2 x.t) else s
def spnTo (l : List Oi) : Nat → Int × Int
  | 0 => (0, 0)
  | i + 1 => match l[i]? with
    | some x => spn i (spnTo l i) x
    | none => spnTo l i
theorem spnTo_succ {l : List Oi} {i : Nat} {x : Oi} (h : l[i]? = some x) : spnTo l (i + 1) = spn i (spnTo l i) x := by rw [spnTo, h]
theorem drewN_below {w : World} (n : Nat) : Below w.heap.size w (w.drewN n) := ⟨rfl, rfl, rfl, Nat.le_refl _, fun _ _ => rfl⟩
set_option maxRecDepth 100000 in
set_option maxHeartbeats 4000000 in
theorem l_span (b : Nat) (l : List Oi) (c : Nat) (W : World) (hM : OpsAt W W.heap.size b 0 l) (hn : l.length ≤ 100000) :
    Calls Try.prog 17 #[.slice (some ⟨b, 0, none⟩) l.length c] W fun e w' => e = .returned (.tuple #[.int .i64 (spnTo l l.length).1, .int .i64 (spnTo l l.length).2, .bool (decide (0 < l.length))]) ∧ Below W.heap.size W w' := by
  have HM := Lib.hid hM
  have HN := Lib.hid hn
  clear hM hn
  go_enter Try.func17, Try.ntmps17
  go_wp2_with fail
  go_loopw [9, 2, 3] (fun x f t wr => ∃ (i : Nat), x = .int .i64 i ∧ f = .int .i64 (spnTo l i).1 ∧ t = .int .i64 (spnTo l i).2 ∧ Hid (i ≤ l.length) ∧ Hid (Below W.heap.size W wr)) (fun x _ _ _ => l.length - (match x with | .int _ n => n.toNat | _ => 0))
  case atStart => exact ⟨0, rfl, rfl, rfl, Lib.hid (Nat.zero_le _), Lib.hid (Below.refl _ _)⟩
  case round =>
    obtain ⟨i, rfl, rfl, rfl, HI, HB⟩ := hrel
    by_cases hi : i < l.length
    · obtain ⟨cs, hv, hc⟩ := HM.out.2 i _ (List.getElem?_eq_getElem hi)
      have hc2 : ∀ k v, cs[k]? = some v → wr.cell? ⟨b, 0 + i * 19 + k, none⟩ = some v := fun k v hk => (HB.out.cell HM.out.1).trans (hc k v hk)
      have LD := Lib.hid (ops_load hc2)
      rw [Nat.zero_add] at LD
      have HV := Lib.hid hv
      obtain ⟨w1, hw1⟩ : ∃ w1, wr.alloc (.cells cs 51) = w1 := ⟨_, rfl⟩
      have c17 := op_new (w := wr) (T := 51) hv.hf
      have c18 := op_new (w := wr) (T := 51) hv.ht
      rw [hw1] at c17 c18
      have HB1 := Lib.hid (show Below wr.heap.size wr w1 by rw [← hw1]; exact (Below.refl _ _).alloc (Nat.le_refl _) _)
      have LD1 := Lib.hid (show w1.rangeAt wr.heap.size 0 cs.toList from fun j v hj => by
        rw [← hw1, Nat.zero_add]
        exact op_new (by simpa using hj))
      have HW1 := Lib.hid hw1
      have LT1 := Lib.hid (show wr.heap.size < w1.heap.size by rw [← hw1]; simp)
      have CE := Lib.hid (l_ended cs _ _ _ _ _ hv)
      clear hv hc hc2 hw1
      have SP := Lib.hid (spnTo_succ (List.getElem?_eq_getElem hi))
      have WR := Lib.hid (show wrap64 ((i : Int) + 1) = ((i + 1 : Nat) : Int) by have := HN.out; simp only [wrap64]; omega)
      by_cases h0 : i = 0
      · subst h0
        go_wp2_with (first | refine wpl_op rfl _ rfl _ _ rfl HV.out.n LD.out ?_ | refine wpl_op rfl _ rfl _ _ rfl HV.out.n LD1.out ?_ | refine wpl_new rfl _ _ rfl rfl rfl HV.out.n HV.out.o rfl HW1.out ?_)
        go_quiet (fail)
        go_wp2_with (first | refine wpl_op rfl _ rfl _ _ rfl HV.out.n LD.out ?_ | refine wpl_op rfl _ rfl _ _ rfl HV.out.n LD1.out ?_ | refine wpl_new rfl _ _ rfl rfl rfl HV.out.n HV.out.o rfl HW1.out ?_)
        go_region
        all_goals go_wp2_with (first | refine wpl_op rfl _ rfl _ _ rfl HV.out.n LD.out ?_ | refine wpl_op rfl _ rfl _ _ rfl HV.out.n LD1.out ?_ | refine wpl_new rfl _ _ rfl rfl rfl HV.out.n HV.out.o rfl HW1.out ?_)
        all_goals refine (CE.out _).mono ?_
        all_goals rintro e w2 ⟨rfl, hw2⟩
        have hb2 : Below w1.heap.size w1 w2 := by rw [hw2]; exact (drewN_below _).alloc (Nat.le_refl _) _
        have c18' := (hb2.cell (by have := LT1.out; omega)).trans c18
        have HB2 := Lib.hid ((HB.out.trans (HB1.out.mono HB.out.size)).trans (hb2.mono (by have := HB.out.size; have := LT1.out; omega)))
        clear hb2 hw2
        by_cases ht : l[0].t = -1
        · have hc : (l[0].t != -1) = false := by simp [ht]
          go_wp2_with fail
          go_roundw
          case rel => exact ⟨1, rfl, by rw [SP.out]; simp [spn, ht], by rw [SP.out]; simp [spn, ht], Lib.hid hi, HB2⟩
          case measure => simp; omega
        · have hc : (l[0].t != -1) = true := by simp [ht]
          go_wp2_with fail
          go_roundw
          case rel => exact ⟨1, rfl, by rw [SP.out]; simp [spn, ht], by rw [SP.out]; simp [spn, ht], Lib.hid hi, HB2⟩
          case measure => simp; omega
      · have h0' : ((i : Int) == 0) = false := by simp; omega
        have h0'' : ¬ ((i : Int) = 0) := by omega
        go_wp2_with (first | refine wpl_op rfl _ rfl _ _ rfl HV.out.n LD.out ?_ | refine wpl_op rfl _ rfl _ _ rfl HV.out.n LD1.out ?_ | refine wpl_new rfl _ _ rfl rfl rfl HV.out.n HV.out.o rfl HW1.out ?_)
        go_region
        all_goals go_wp2_with (first | refine wpl_op rfl _ rfl _ _ rfl HV.out.n LD.out ?_ | refine wpl_op rfl _ rfl _ _ rfl HV.out.n LD1.out ?_ | refine wpl_new rfl _ _ rfl rfl rfl HV.out.n HV.out.o rfl HW1.out ?_)
        all_goals refine (CE.out _).mono ?_
        all_goals rintro e w2 ⟨rfl, hw2⟩
        have hb2 : Below w1.heap.size w1 w2 := by rw [hw2]; exact (drewN_below _).alloc (Nat.le_refl _) _
        have c18' := (hb2.cell (by have := LT1.out; omega)).trans c18
        have HB2 := Lib.hid ((HB.out.trans (HB1.out.mono HB.out.size)).trans (hb2.mono (by have := HB.out.size; have := LT1.out; omega)))
        clear hb2 hw2
        by_cases ht : l[i].t = -1
        · have hc : (l[i].t != -1) = false := by simp [ht]
          go_wp2_with fail
          go_roundw
          case rel => exact ⟨i + 1, by rw [WR.out], by rw [SP.out]; simp [spn, ht, h0], by rw [SP.out]; simp [spn, ht, h0], Lib.hid hi, HB2⟩
          case measure => simp [WR.out]; omega
        · have hc : (l[i].t != -1) = true := by simp [ht]
          go_wp2_with fail
          go_roundw
          case rel => exact ⟨i + 1, by rw [WR.out], by rw [SP.out]; simp [spn, ht, h0], by rw [SP.out]; simp [spn, ht, h0], Lib.hid hi, HB2⟩
          case measure => simp [WR.out]; omega
    · have HE := Lib.hid (show i = l.length by have := HI.out; omega)
      go_wp2_with fail
      have e := HE.out
      subst e
      go_ret3
      exact ⟨rfl, HB.out⟩
end Go.Proofs.Ytfilbdmenlhoiaa
