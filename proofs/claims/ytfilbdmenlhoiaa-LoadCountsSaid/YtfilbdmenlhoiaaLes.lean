/- load: Errors, Hits. -/
import Derived.Test.YtfilbdmenlhoiaaLer
namespace Go.Proofs.Ytfilbdmenlhoiaa
open Go.ChangeShapes Go.WideShapes Go.ChangeAt Go.RowKit
set_option linter.unusedVariables false
open Go.WideMaps Go.MapKept Go.WideElems Go.ChangeMaps
set_option linter.unusedSimpArgs false
section
variable {t k : TypeId}
theorem int_key_g (hk : Try.prog.underlying k = some (.int .i64)) {n : Int} (h : i64ok n) : keyOf Try.prog k (.int .i64 n) = some (.int .i64 n) := by
  have hw : (Lit.int .i64 n).wf = true := by unfold i64ok at h; simp [Lit.wf, IntKind.min, IntKind.max, IntKind.signed, IntKind.bits]; omega
  simp [keyOf, mapKey, hk, hw]
theorem IM.keys_g (hk : Try.prog.underlying k = some (.int .i64)) {m : List (Int × Int)} (h : IM m) : GKeys Try.prog k (iMap m) := by
  refine ⟨fun p hp => ?_, h.keys.d⟩
  obtain ⟨q, hq, rfl⟩ := List.mem_map.1 hp
  exact ⟨_, int_key_g hk (h.r q hq)⟩
theorem im_look_g (ht : Try.prog.underlying t = some (.map k 3)) (hk : Try.prog.underlying k = some (.int .i64)) {m : List (Int × Int)} (h : IM m) {n : Int} (hn : i64ok n) (w : World) (b : Nat) (hb : w.heap[b]? = some (gMap (iMap m))) :
    (Instr.lookup t (.map (some b)) (.int .i64 n) false).run Try.prog w = .ok (.int .i64 (iget m n)) w ∧
    ∀ v, (Instr.mapUpdate t (.map (some b)) (.int .i64 n) (.int .i64 v)).run Try.prog w = .ok () (setBlock w b (gMap (iMap (iput m n v)))) := by
  have K := Go.Maps.int_keyed hk
  by_cases hc : ∃ p ∈ m, p.1 = n
  · obtain ⟨p, hp, rfl⟩ := hc
    obtain ⟨j, hj⟩ := List.mem_iff_getElem?.1 hp
    have hj2 : (iMap m)[j]? = some (.int .i64 p.1, .int .i64 p.2) := by unfold iMap; rw [List.getElem?_map, hj]; rfl
    obtain ⟨h1, _, _, _, h5⟩ := g_there K ht (h.keys_g hk) hj2 w b hb
    obtain ⟨e1, e2⟩ := iget_some h.d hj
    refine ⟨by rw [e1]; exact h1, fun v => ?_⟩
    rw [e2]
    have := h5 (.int .i64 v)
    have e3 : (iMap m).set j (.int .i64 p.1, .int .i64 v) = iMap (m.set j (p.1, v)) := by unfold iMap; rw [List.map_set]
    rw [← e3]; exact this
  · have hn' : ∀ p ∈ m, p.1 ≠ n := fun p hp e => hc ⟨p, hp, e⟩
    obtain ⟨e1, e2⟩ := iget_none hn'
    obtain ⟨h1, _, _, h4⟩ := g_gone K ht (h.keys_g hk) zero_i (int_key_g hk hn) (fun p hp e => by
      obtain ⟨q, hq, rfl⟩ := List.mem_map.1 hp
      simp only [Value.int.injEq, true_and] at e
      exact hn' q hq e) w b hb
    refine ⟨by rw [e1]; exact h1, fun v => ?_⟩
    rw [e2]
    have := h4 (.int .i64 v)
    have e3 : iMap m ++ [(.int .i64 n, .int .i64 v)] = iMap (m ++ [(n, v)]) := by unfold iMap; rw [List.map_append]; rfl
    rw [← e3]; exact this
end
/-- One call more: its error, if it told one. -/
def estep (m : List (Int × Int)) (x : Oi) : List (Int × Int) := if x.t ≠ -1 ∧ x.e ≠ 0 then iput m x.e (wrap64 (iget m x.e + 1)) else m
def eTo (l : List Oi) : Nat → List (Int × Int)
  | 0 => []
  | i + 1 => match l[i]? with
    | some x => estep (eTo l i) x
    | none => eTo l i
theorem eTo_succ {l : List Oi} {i : Nat} {x : Oi} (h : l[i]? = some x) : eTo l (i + 1) = estep (eTo l i) x := by rw [eTo, h]
set_option maxRecDepth 100000 in
set_option maxHeartbeats 8000000 in
theorem l_errors (v : Value) (l : List Oi) (W : World) (hR : RowO W W.heap.size v l) (hn : l.length ≤ 10000) :
    Calls Try.prog 14 #[v] W fun e w' => e = .returned (.map (some W.heap.size)) ∧ w'.heap[W.heap.size]? = some (gMap (iMap (eTo l l.length))) ∧ IM (eTo l l.length) ∧ Below W.heap.size W w' := by
  have HR := Lib.hid hR
  obtain ⟨p, c, rfl, -⟩ := hR
  have HN := Lib.hid hn
  clear hn
  obtain ⟨G, hG⟩ : ∃ G, W.heap.size = G := ⟨_, rfl⟩
  obtain ⟨wa, hwa⟩ : ∃ wa, W.alloc (.map #[] 0) = wa := ⟨_, rfl⟩
  have HA := Lib.hid (show wa.heap[G]? = some (gMap (iMap [])) ∧ Below G W wa from by
    subst hG
    rw [← hwa]
    exact ⟨heap_alloc_new W (.map #[] 0), (Below.refl _ _).alloc (Nat.le_refl _) _⟩)
  have hmm := @run_makeMap Try.prog
  have HW := Lib.hid hwa
  clear hwa
  go_enter Try.func14, Try.ntmps14
  go_wp2_with fail
  go_loopw [9] (fun x wr => ∃ (i : Nat), x = .int .i64 i ∧ Hid (i ≤ l.length) ∧ Hid (wr.heap[G]? = some (gMap (iMap (eTo l i)))) ∧ Hid (IM (eTo l i)) ∧ Hid (Below G W wr)) (fun x _ => l.length - (match x with | .int _ n => n.toNat | _ => 0))
  case atStart =>
    rw [HW.out]
    exact ⟨0, rfl, Lib.hid (Nat.zero_le _), Lib.hid HA.out.1, Lib.hid IM.nil, Lib.hid HA.out.2⟩
  case round =>
    obtain ⟨i, rfl, HI, HQ, HM, HB⟩ := hrel
    by_cases hi : i < l.length
    · obtain ⟨x, hx⟩ : ∃ x, l[i]? = some x := ⟨_, List.getElem?_eq_getElem hi⟩
      have hHR := HR.out
      rw [hG] at hHR
      obtain ⟨b, o, cs, rfl, hbl, hv, hc⟩ := (hHR.below HB.out).get hx
      have hGl := g_lt HQ.out
      have hbl2 : b < wr.heap.size := by omega
      have LD := Lib.hid (ops_load hc)
      have HV := Lib.hid hv
      obtain ⟨w1, hw1⟩ : ∃ w1, wr.alloc (.cells cs 51) = w1 := ⟨_, rfl⟩
      have hh : w1.heap[wr.heap.size]? = some (.cells cs 51 (0, 0)) := by rw [← hw1]; exact heap_alloc_new _ _
      have hb1 : Below wr.heap.size wr w1 := by rw [← hw1]; exact (Below.refl _ _).alloc (Nat.le_refl _) _
      have HH := Lib.hid hh
      have LD1 := Lib.hid (show w1.rangeAt wr.heap.size 0 cs.toList from fun j v hj => by
        rw [Nat.zero_add, cell_of_row _ _ _ _ _ _ hh]; simpa using hj)
      have HB1 := Lib.hid hb1
      have HW1 := Lib.hid hw1
      have CE := Lib.hid (l_failed cs _ _ _ _ _ hv)
      have SP := Lib.hid (eTo_succ hx)
      have WR := Lib.hid (show wrap64 ((i : Int) + 1) = ((i + 1 : Nat) : Int) by have := HN.out; simp only [wrap64]; omega)
      clear hx hc hv hw1 hh hb1 hHR
      go_wp2_with (first | refine wpl_op rfl _ rfl _ _ rfl HV.out.n LD.out ?_ | refine wpl_op rfl _ rfl _ _ rfl HV.out.n LD1.out ?_ | refine wpl_new rfl _ _ rfl rfl rfl HV.out.n HV.out.o rfl HW1.out ?_)
      refine (CE.out _).mono ?_
      rintro e w2 ⟨rfl, hb2⟩
      have hGr : G < wr.heap.size := hGl
      have hQ2 := (hb2.block G (by have := HB1.out.size; omega)).trans ((HB1.out.block G hGr).trans HQ.out)
      have hH2 := (hb2.block wr.heap.size (g_lt HH.out)).trans HH.out
      have c9 : w2.cell? ⟨wr.heap.size, 9, none⟩ = some (.int .i64 x.e) := by rw [cell_of_row _ _ _ _ _ _ hH2]; exact HV.out.he
      have HQ2 := Lib.hid hQ2
      have HB2 := Lib.hid (show Below G W w2 from (HB.out.trans (HB1.out.mono (by omega))).trans (hb2.mono (by have := HB1.out.size; omega)))
      clear hb2 hQ2 hH2
      by_cases hf : x.t ≠ -1 ∧ x.e ≠ 0
      · have hd : decide (x.t ≠ -1 ∧ x.e ≠ 0) = true := by simp only [decide_eq_true_eq]; exact hf
        obtain ⟨L1, U1⟩ := im_look_g Try.underlying53 Try.underlying44 HM.out HV.out.ok.2.2.1 w2 G HQ2.out
        replace U1 := U1 (wrap64 (iget (eTo l i) x.e + 1))
        obtain ⟨w3, hw3⟩ : ∃ w, setBlock w2 G (gMap (iMap (iput (eTo l i) x.e (wrap64 (iget (eTo l i) x.e + 1))))) = w := ⟨_, rfl⟩
        rw [hw3] at U1
        have HQ3 := Lib.hid (show w3.heap[G]? = some (gMap (iMap (iput (eTo l i) x.e (wrap64 (iget (eTo l i) x.e + 1))))) by rw [← hw3]; exact gs_at (g_lt HQ2.out))
        have HB3 := Lib.hid (show Below G W w3 by rw [← hw3]; exact HB2.out.trans (gs_below (Nat.le_refl _)))
        clear hw3
        go_wp2_with fail
        go_roundw
        case rel => exact ⟨i + 1, by rw [WR.out], Lib.hid hi, Lib.hid (by rw [SP.out, estep, if_pos hf]; exact HQ3.out), Lib.hid (by rw [SP.out, estep, if_pos hf]; exact HM.out.put HV.out.ok.2.2.1 _), HB3⟩
        case measure => simp [WR.out]; omega
      · have hd : decide (x.t ≠ -1 ∧ x.e ≠ 0) = false := by simp only [decide_eq_false_iff_not]; exact hf
        go_wp2_with fail
        go_roundw
        case rel => exact ⟨i + 1, by rw [WR.out], Lib.hid hi, Lib.hid (by rw [SP.out, estep, if_neg hf]; exact HQ2.out), Lib.hid (by rw [SP.out, estep, if_neg hf]; exact HM.out), HB2⟩
        case measure => simp [WR.out]; omega
    · have h9 := (show i = l.length by have := HI.out; omega)
      subst h9
      have hi : ¬ l.length < l.length := by omega
      go_wp2_with fail
      go_ret
      exact ⟨by rw [hG]; rfl, by rw [hG]; exact HQ.out, HM.out, by rw [hG]; exact HB.out⟩
end Go.Proofs.Ytfilbdmenlhoiaa
