/- Law 45: reference 45's Who; the statement's same. -/
import Derived.Test.YtfilbdmenlhoiaaLfo
import Derived.Test.YtfilbdmenlhoiaaLof
namespace Go.Proofs.Ytfilbdmenlhoiaa
open Go.ChangeShapes Go.WideShapes Go.ChangeAt Go.RowKit
set_option linter.unusedVariables false
set_option linter.unusedSimpArgs false
theorem who_succ {l : List Oi} {i : Nat} {x : Oi} (h : l[i]? = some x) (k : Int) : (l.take (i + 1)).filter (fun y => decide (y.who = k)) = (l.take i).filter (fun y => decide (y.who = k)) ++ (if x.who = k then [x] else []) := by
  rw [List.take_add_one, h, List.filter_append]
  by_cases hk : x.who = k <;> simp [hk]
theorem who_le (l : List Oi) (k : Int) (i : Nat) : ((l.take i).filter (fun y => decide (y.who = k))).length ≤ i :=
  Nat.le_trans (List.length_filter_le ..) (by rw [List.length_take]; omega)
set_option maxRecDepth 100000 in
set_option maxHeartbeats 8000000 in
theorem r45_who (v : Value) (l : List Oi) (k : Int) (lim : Nat) (W : World) (hR : RowO W lim v l) (hlim : lim ≤ W.heap.size) (hn : l.length ≤ 10000) :
    Calls Try.prog 13 #[v, .int .i64 k] W fun e w' => ∃ v', e = .returned v' ∧ OwnO w' W.heap.size v' (l.filter (fun y => decide (y.who = k))) ∧ Below W.heap.size W w' := by
  have HR := Lib.hid hR
  obtain ⟨p, c, rfl, -⟩ := hR
  have HN := Lib.hid hn
  have HL := Lib.hid hlim
  clear hn hlim
  go_enter Try.func13, Try.ntmps13
  go_wp2_with fail
  go_loopw [6, 5] (fun x u wr => ∃ (i : Nat), x = .int .i64 i ∧ Hid (i ≤ l.length) ∧ Hid (OwnO wr W.heap.size u ((l.take i).filter (fun y => decide (y.who = k)))) ∧ Hid (Below W.heap.size W wr)) (fun x _ _ => l.length - (match x with | .int _ n => n.toNat | _ => 0))
  case atStart => exact ⟨0, rfl, Lib.hid (Nat.zero_le _), Lib.hid (OwnO.nil _ _), Lib.hid (Below.refl _ _)⟩
  case round =>
    obtain ⟨i, rfl, HI, HO, HB⟩ := hrel
    by_cases hi : i < l.length
    · obtain ⟨x, hx⟩ : ∃ x, l[i]? = some x := ⟨_, List.getElem?_eq_getElem hi⟩
      obtain ⟨b, o, cs, rfl, hbl, hv, hc⟩ := (HR.out.below (HB.out.mono HL.out)).get hx
      have hbl2 : b < wr.heap.size := by have := HL.out; have := HB.out.size; omega
      have LD := Lib.hid (ops_load hc)
      have c0 := hc 0 _ hv.hw
      have HV := Lib.hid hv
      have FS := Lib.hid (who_succ hx k)
      have FL := Lib.hid (who_le l k i)
      have WR := Lib.hid (show wrap64 ((i : Int) + 1) = ((i + 1 : Nat) : Int) by have := HN.out; simp only [wrap64]; omega)
      obtain ⟨css, hoo, hcl, hcv⟩ := HO.out
      have HOO := Lib.hid hoo
      have HCL := Lib.hid hcl
      have hsz := HV.out.n
      have HBN := Lib.hid (show W.heap.size ≤ wr.heap.size ∧ css.length < 1000000 from ⟨HB.out.size, by have := FL.out; have := HN.out; omega⟩)
      have HCV := Lib.hid hcv
      rw [Nat.add_zero] at c0
      clear hx hc hv hoo hcl hcv
      by_cases hk : x.who = k
      · have hd : (x.who == k) = true := by simp [hk]
        have HKF := Lib.hid hk
        clear hk
        go_wp2_with (first | refine wpl_op rfl _ rfl _ _ rfl HV.out.n LD.out ?_ | (at_builtin; refine append_op rfl _ _ rfl rfl HOO.out rfl rfl HV.out.n HV.out.o HBN.out (by first | rfl | exact HV.out.n.symm) ?_; intro v3 w3 hO3 hb3))
        go_roundw
        case rel =>
          refine ⟨i + 1, by rw [WR.out], Lib.hid hi, Lib.hid ?_, Lib.hid (HB.out.trans hb3)⟩
          rw [FS.out, if_pos HKF.out]
          exact OwnO.snoc HCL.out HCV.out HV.out hO3
        case measure => simp [WR.out]; omega
      · have hd : (x.who == k) = false := by simp [hk]
        have HKF := Lib.hid hk
        clear hk
        go_wp2_with fail
        go_roundw
        case rel =>
          refine ⟨i + 1, by rw [WR.out], Lib.hid hi, Lib.hid ?_, HB⟩
          rw [FS.out, if_neg HKF.out, List.append_nil]
          exact HO.out
        case measure => simp [WR.out]; omega
    · have h9 := (show i = l.length by have := HI.out; omega)
      subst h9
      have hi : ¬ l.length < l.length := by omega
      go_wp2_with fail
      go_ret
      exact ⟨_, rfl, by have := HO.out; rw [List.take_length] at this; exact this, HB.out⟩
set_option maxRecDepth 100000 in
set_option maxHeartbeats 4000000 in
/-- Two loads that are the same. -/
theorem l45_same (y : Ld) (W : World) :
    Calls Try.prog 10 #[.agg #[.int .i64 y.c, .int .i64 y.e, .int .i64 y.d, .int .i64 y.g], .agg #[.int .i64 y.c, .int .i64 y.e, .int .i64 y.d, .int .i64 y.g]] W fun e w' => e = .returned (.bool true) ∧ Below W.heap.size W w' := by
  obtain ⟨w0, hw0⟩ : ∃ w0, (W.alloc (.cells #[.int .i64 y.c, .int .i64 y.e, .int .i64 y.d, .int .i64 y.g] 25)).alloc (.cells #[.int .i64 y.c, .int .i64 y.e, .int .i64 y.d, .int .i64 y.g] 34) = w0 := ⟨_, rfl⟩
  have h2 := heap_alloc_new (W.alloc (.cells #[.int .i64 y.c, .int .i64 y.e, .int .i64 y.d, .int .i64 y.g] 25)) (.cells #[.int .i64 y.c, .int .i64 y.e, .int .i64 y.d, .int .i64 y.g] 34)
  rw [World.size_alloc, hw0] at h2
  have h1 : LdB w0 W.heap.size y := by
    have h3 : w0.heap[W.heap.size]? = some (.cells #[.int .i64 y.c, .int .i64 y.e, .int .i64 y.d, .int .i64 y.g] 25 (0, 0)) := by
      rw [← hw0]
      exact (((Below.refl _ _).alloc (Nat.le_refl _) _ : Below (W.alloc (.cells #[.int .i64 y.c, .int .i64 y.e, .int .i64 y.d, .int .i64 y.g] 25)).heap.size (W.alloc (.cells #[.int .i64 y.c, .int .i64 y.e, .int .i64 y.d, .int .i64 y.g] 25)) _).block _ (by simp)).trans (heap_alloc_new W _)
    exact h3
  have h2' : RdB w0 (W.heap.size + 1) y := h2
  obtain ⟨s0, s1, s2, s3, -, -, -, -⟩ := h1.cells
  obtain ⟨r0, r1, r2, r3, -, -, -, -⟩ := h2'.cells
  have HB := Lib.hid (show Below W.heap.size W w0 by rw [← hw0]; exact ((Below.refl _ _).alloc (Nat.le_refl _) _).alloc (by simp) _)
  have HW := Lib.hid hw0
  clear hw0 h1 h2 h2'
  go_enter Try.func10, Try.ntmps10
  go_upto_region 1 with fail
  rw [HW.out]
  go_wp2_with fail
  go_ret
  exact ⟨rfl, HB.out⟩
end Go.Proofs.Ytfilbdmenlhoiaa
