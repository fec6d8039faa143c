/- Put together by program (merge2.py): Ral Opene Openes Ers Shapd. -/
import Derived.Deep.RegionWith
import Derived.HandedShaped
import Derived.Handed
import Derived.Shelf.Vars
import Derived.Test.YtmbcfijhlpeddaaDoorD11
import Derived.Test.YtmbcfijhlpeddaaDoorG12
import Derived.Test.YtmbcfijhlpeddaaDoorG13
/- Reference 24: All of two rows that are the same, and Much. -/
namespace Go.Proofs.YtmbcfijhlpeddaaDoor
open Go.ChangeShapes Go.WideShapes Go.ChangeAt Go.RowKit
set_option linter.unusedVariables false
set_option linter.unusedSimpArgs false
attribute [local go_sem ↓] Go.wp_at_zero Go.wp_at_succ
set_option maxRecDepth 100000 in
set_option maxHeartbeats 8000000 in
theorem r24_all_same (v v' : Value) (l : List En) (lim : Nat) (W : World) (h : RowN W lim v l) (h' : RowN W lim v' l) (hlim : lim ≤ W.heap.size) (hn : l.length ≤ 100000) :
    Calls Tryd.prog 7 #[v, v'] W fun e w' => e = .returned (.bool true) ∧ Below W.heap.size W w' := by
  obtain ⟨p, c, rfl, hlc, hcm⟩ := h.form
  obtain ⟨p', c', rfl, hlc', hcm'⟩ := h'.form
  obtain ⟨n, hnl⟩ : ∃ n, l.length = n := ⟨_, rfl⟩
  rw [hnl] at h h' hlc hlc' hn ⊢
  have HIN := Lib.hid h
  have HIN' := Lib.hid h'
  have HNL := Lib.hid hnl
  have hcc : c ≤ 9223372036854775807 := by unfold maxLen at hcm; omega
  have hcc' : c' ≤ 9223372036854775807 := by unfold maxLen at hcm'; omega
  have dn : ((n : Int) != (n : Int)) = false := by simp
  clear h h' hnl hcm hcm'
  go_enter Tryd.func7, Tryd.ntmps7
  go_wp2_with fail
  go_loopw [5] (fun j wr => ∃ i : Nat, j = .int .i64 i ∧ i ≤ n ∧ Hid (Below W.heap.size W wr)) (fun j _ => n - (intOf j).toNat)
  case atStart => exact ⟨0, rfl, by omega, Lib.hid (Below.refl _ _)⟩
  case round =>
    obtain ⟨i, rfl, hi, HB⟩ := hrel
    by_cases hlt : i < n
    case neg =>
      obtain rfl : i = n := by omega
      have d1 : decide ((i : Int) < (i : Int)) = false := decide_eq_false (by omega)
      go_wp2_with fail
      go_ret
      exact ⟨rfl, HB.out⟩
    case pos =>
      have d1 : decide ((i : Int) < (n : Int)) = true := decide_eq_true (by omega)
      have d1' : decide (i < n) = true := decide_eq_true hlt
      have hbz := HB.out.size
      obtain ⟨e, he⟩ : ∃ e, l[i]? = some e := ⟨l[i]'(by have := HNL.out; omega), List.getElem?_eq_getElem (by have := HNL.out; omega)⟩
      obtain ⟨b, o, rfl, hb, s, x0, x1, x2, x3, x4, hK⟩ := (HIN.out.carry (HB.out.mono hlim)).get he
      obtain ⟨b', o', rfl, hb', s', y0, y1, y2, y3, y4, hK'⟩ := (HIN'.out.carry (HB.out.mono hlim)).get he
      obtain ⟨sp, sm, sc, rfl, -, -, hsm⟩ := hK.shape
      obtain ⟨sp', sm', sc', rfl, -, -, hsm'⟩ := hK'.shape
      obtain ⟨ea, eb, ek, em, eks⟩ := e
      simp only at x0 x1 x2 x3 y0 y1 y2 y3 hK hK' hsm hsm'
      have hSE : decide ((ea = ea ∧ eb = eb) ∧ cmpN ek em eks ek em eks = 0) = true := decide_eq_true ⟨⟨rfl, rfl⟩, cmpN_self ek em eks⟩
      have MK := Lib.hid (fun w' (hb2 : Below wr.heap.size wr w') => (show w'.cell? ⟨b, o + i * 5, none⟩ = some (.int .i64 ea) ∧ w'.cell? ⟨b, o + i * 5 + 1, none⟩ = some (.int .i64 eb) ∧ w'.cell? ⟨b, o + i * 5 + 2, none⟩ = some (.int .i64 ek) ∧ w'.cell? ⟨b, o + i * 5 + 3, none⟩ = some (.int .i64 em) ∧ w'.cell? ⟨b, o + i * 5 + 4, none⟩ = some (.slice sp sm sc) ∧ w'.cell? ⟨b', o' + i * 5, none⟩ = some (.int .i64 ea) ∧ w'.cell? ⟨b', o' + i * 5 + 1, none⟩ = some (.int .i64 eb) ∧ w'.cell? ⟨b', o' + i * 5 + 2, none⟩ = some (.int .i64 ek) ∧ w'.cell? ⟨b', o' + i * 5 + 3, none⟩ = some (.int .i64 em) ∧ w'.cell? ⟨b', o' + i * 5 + 4, none⟩ = some (.slice sp' sm' sc') ∧ Below wr.heap.size wr w' from
        ⟨(hb2.cell (p := ⟨b, o + i * 5, none⟩) (show b < _ by omega)).trans x0, (hb2.cell (p := ⟨b, o + i * 5 + 1, none⟩) (show b < _ by omega)).trans x1, (hb2.cell (p := ⟨b, o + i * 5 + 2, none⟩) (show b < _ by omega)).trans x2, (hb2.cell (p := ⟨b, o + i * 5 + 3, none⟩) (show b < _ by omega)).trans x3, (hb2.cell (p := ⟨b, o + i * 5 + 4, none⟩) (show b < _ by omega)).trans x4,
         (hb2.cell (p := ⟨b', o' + i * 5, none⟩) (show b' < _ by omega)).trans y0, (hb2.cell (p := ⟨b', o' + i * 5 + 1, none⟩) (show b' < _ by omega)).trans y1, (hb2.cell (p := ⟨b', o' + i * 5 + 2, none⟩) (show b' < _ by omega)).trans y2, (hb2.cell (p := ⟨b', o' + i * 5 + 3, none⟩) (show b' < _ by omega)).trans y3, (hb2.cell (p := ⟨b', o' + i * 5 + 4, none⟩) (show b' < _ by omega)).trans y4, hb2⟩))
      have KP := Lib.hid (fun (wa w' : World) (hS : wa.cell? ⟨b, o + i * 5, none⟩ = some (.int .i64 ea) ∧ wa.cell? ⟨b, o + i * 5 + 1, none⟩ = some (.int .i64 eb) ∧ wa.cell? ⟨b, o + i * 5 + 2, none⟩ = some (.int .i64 ek) ∧ wa.cell? ⟨b, o + i * 5 + 3, none⟩ = some (.int .i64 em) ∧ wa.cell? ⟨b, o + i * 5 + 4, none⟩ = some (.slice sp sm sc) ∧ wa.cell? ⟨b', o' + i * 5, none⟩ = some (.int .i64 ea) ∧ wa.cell? ⟨b', o' + i * 5 + 1, none⟩ = some (.int .i64 eb) ∧ wa.cell? ⟨b', o' + i * 5 + 2, none⟩ = some (.int .i64 ek) ∧ wa.cell? ⟨b', o' + i * 5 + 3, none⟩ = some (.int .i64 em) ∧ wa.cell? ⟨b', o' + i * 5 + 4, none⟩ = some (.slice sp' sm' sc') ∧ Below wr.heap.size wr wa) (hb : Below wa.heap.size wa w') => MK.out w' (hS.2.2.2.2.2.2.2.2.2.2.trans (hb.mono hS.2.2.2.2.2.2.2.2.2.2.size)))
      have CL := Lib.hid (fun w' (hb2 : Below wr.heap.size wr w') => (show Calls Tryd.prog 13 #[.agg #[.int .i64 ea, .int .i64 eb, .int .i64 ek, .int .i64 em, .slice sp sm sc], .agg #[.int .i64 ea, .int .i64 eb, .int .i64 ek, .int .i64 em, .slice sp' sm' sc']] w' fun e w'' => e = .returned (.bool true) ∧ Below w'.heap.size w' w'' from by
        have := r24_same eks eks (.slice sp sm sc) (.slice sp' sm' sc') ea eb ek em ea eb ek em lim w' (hK.below (by omega) hb2) (hK'.below (by omega) hb2) (by have := hb2.size; omega)
        rw [hSE] at this
        exact this))
      have hiI : (i : Int) < (n : Int) := by omega
      have hi0 : (0 : Int) ≤ (i : Int) := by omega
      clear he hK hK' hsm hsm' x0 x1 x2 x3 x4 y0 y1 y2 y3 y4 hb hb' hSE
      go_wp2_with fail
      go_region_held3 (fun w' => w'.cell? ⟨b, o + i * 5, none⟩ = some (.int .i64 ea) ∧ w'.cell? ⟨b, o + i * 5 + 1, none⟩ = some (.int .i64 eb) ∧ w'.cell? ⟨b, o + i * 5 + 2, none⟩ = some (.int .i64 ek) ∧ w'.cell? ⟨b, o + i * 5 + 3, none⟩ = some (.int .i64 em) ∧ w'.cell? ⟨b, o + i * 5 + 4, none⟩ = some (.slice sp sm sc) ∧ w'.cell? ⟨b', o' + i * 5, none⟩ = some (.int .i64 ea) ∧ w'.cell? ⟨b', o' + i * 5 + 1, none⟩ = some (.int .i64 eb) ∧ w'.cell? ⟨b', o' + i * 5 + 2, none⟩ = some (.int .i64 ek) ∧ w'.cell? ⟨b', o' + i * 5 + 3, none⟩ = some (.int .i64 em) ∧ w'.cell? ⟨b', o' + i * 5 + 4, none⟩ = some (.slice sp' sm' sc') ∧ Below wr.heap.size wr w') (first | exact MK.out _ ((Below.refl _ _).drew) | assumption | (refine KP.out _ _ ?_ hb; first | assumption | exact MK.out _ ((Below.refl _ _).drew))) (first | (go_at_call 13; (with_reducible refine (CL.out _ (by go_split_ands; assumption)).mono ?_); rintro e w' ⟨rfl, hb⟩))
      rename_i hEnd
      obtain ⟨-, -, -, -, -, -, -, -, -, -, hBB⟩ := hEnd
      have HB2 := Lib.hid (HB.out.trans (hBB.mono HB.out.size))
      clear hBB MK KP CL
      go_wp2_with fail
      go_roundw
      case rel => exact ⟨i + 1, by go_num, by omega, HB2⟩
      case measure => simp only [intOf]; omega
set_option maxRecDepth 100000 in
set_option maxHeartbeats 8000000 in
theorem r24_much (v : Value) (l : List En) (lim : Nat) (W : World) (h : RowN W lim v l) (hlim : lim ≤ W.heap.size) (hw : ∀ e ∈ l, e.ks.cnt + 1 ≤ 1048576) :
    Calls Tryd.prog 4 #[v] W fun e w' => (∃ z, e = .returned (.bool z) ∧ (z = false → l.length ≤ 30 ∧ ∀ e ∈ l, e.ks.cnt + 1 ≤ 80)) ∧ Below W.heap.size W w' := by
  obtain ⟨p, c, rfl, hlc, hcm⟩ := h.form
  obtain ⟨n, hnl⟩ : ∃ n, l.length = n := ⟨_, rfl⟩
  rw [hnl] at h hlc ⊢
  have HIN := Lib.hid h
  have HNL := Lib.hid hnl
  have HW := Lib.hid hw
  have hcc : c ≤ 9223372036854775807 := by unfold maxLen at hcm; omega
  clear h hnl hcm hw
  go_enter Tryd.func4, Tryd.ntmps4
  go_wp2_with fail
  go_loopw [3] (fun j wr => ∃ i : Nat, j = .int .i64 i ∧ i ≤ n ∧ i ≤ 40 ∧ Hid (∀ e ∈ l.take i, e.ks.cnt + 1 ≤ 80) ∧ Hid (Below W.heap.size W wr)) (fun j _ => n - (intOf j).toNat)
  case atStart => exact ⟨0, rfl, by omega, by omega, Lib.hid (by simp), Lib.hid (Below.refl _ _)⟩
  case round =>
    obtain ⟨i, rfl, hi, hi4, HA, HB⟩ := hrel
    by_cases hlt : i < n
    case neg =>
      obtain rfl : i = n := by omega
      have d1 : decide ((i : Int) < (i : Int)) = false := decide_eq_false (by omega)
      have EN := Lib.hid (fun (hz : decide ((i : Int) > 30) = false) => (show i ≤ 30 ∧ ∀ e ∈ l, e.ks.cnt + 1 ≤ 80 from ⟨by have := of_decide_eq_false hz; omega, by have := HA.out; rw [← HNL.out, List.take_length] at this; exact this⟩))
      go_wp2_with fail
      go_ret
      exact ⟨⟨_, rfl, fun hz => EN.out (by first | exact hz | simpa using hz)⟩, HB.out⟩
    case pos =>
      have d1 : decide ((i : Int) < (n : Int)) = true := decide_eq_true (by omega)
      have d1' : decide (i < n) = true := decide_eq_true hlt
      by_cases h4 : i < 40
      case neg =>
        obtain rfl : i = 40 := by omega
        have d3 : decide ((n : Int) > 30) = true := decide_eq_true (by omega)
        have d3' : decide (30 < n) = true := decide_eq_true (by omega)
        rw [show ((40 : Nat) : Int) = 40 from rfl] at d1 ⊢
        go_wp2_with fail
        go_ret
        exact ⟨⟨_, rfl, fun hz => by first | cases hz | (simp at hz; omega)⟩, HB.out⟩
      case pos =>
        have d2 : decide ((i : Int) < 40) = true := decide_eq_true (by omega)
        have d2' : decide (i < 40) = true := decide_eq_true h4
        have hbz := HB.out.size
        obtain ⟨e, he⟩ : ∃ e, l[i]? = some e := ⟨l[i]'(by have := HNL.out; omega), List.getElem?_eq_getElem (by have := HNL.out; omega)⟩
        obtain ⟨b, o, rfl, hb, s, x0, x1, x2, x3, x4, hK⟩ := (HIN.out.carry (HB.out.mono hlim)).get he
        obtain ⟨sp, sm, sc, rfl, -, -, hsm⟩ := hK.shape
        have hcnt := HW.out e (List.mem_of_getElem? he)
        have HT := Lib.hid (fun (hz : ¬ 80 < e.ks.cnt + 1) => (show ∀ z ∈ l.take (i + 1), z.ks.cnt + 1 ≤ 80 from fun z hz2 => by
          rw [List.take_add_one, he] at hz2
          rcases List.mem_append.1 hz2 with hz2 | hz2
          · exact HA.out z hz2
          · simp at hz2; subst hz2; omega))
        obtain ⟨ea, eb, ek, em, eks⟩ := e
        simp only at x0 x1 x2 x3 hK hsm hcnt HT
        have MU := r13_much eks (.slice sp sm sc) ek em lim wr (by omega) hK (by omega)
        have hiI : (i : Int) < (n : Int) := by omega
        have hi0 : (0 : Int) ≤ (i : Int) := by omega
        by_cases hm : 80 < eks.cnt + 1
        · rw [decide_eq_true hm] at MU
          clear he hK hsm hb hcnt HT x0 x1 hm
          go_wp2_with fail
          refine MU.mono ?_
          rintro e w1 ⟨rfl, hb1⟩
          go_wp2_with fail
          go_ret
          exact ⟨⟨_, rfl, fun hz => by cases hz⟩, HB.out.trans (hb1.mono hbz)⟩
        · rw [decide_eq_false hm] at MU
          have HT2 := Lib.hid (HT.out hm)
          clear he hK hsm hb hcnt HT x0 x1 hm
          go_wp2_with fail
          refine MU.mono ?_
          rintro e w1 ⟨rfl, hb1⟩
          have HB2 := Lib.hid (HB.out.trans (hb1.mono hbz))
          clear hb1 MU x2 x3 x4
          go_wp2_with fail
          go_roundw
          case rel => exact ⟨i + 1, by go_num, by omega, by omega, HT2, HB2⟩
          case measure => simp only [intOf]; omega
end Go.Proofs.YtmbcfijhlpeddaaDoor
/- A parameter api.Entry: a key of two ints and a descriptor. -/
namespace Go.Proofs.YtmbcfijhlpeddaaDoor
open Go.ChangeShapes Go.WideShapes Go.ChangeAt Go.RowKit
set_option linter.unusedVariables false
set_option linter.unusedSimpArgs false
section
variable {H : Type} {enc : TypeId × Value → H} {w : World} {sp : Nat → Bool} {held : Bool}
set_option maxRecDepth 100000 in
theorem trod_entry (f0 f1 g0 g1 : Field) (hs : Tryd.prog.underlying 37 = some (.struct #[f0, f1])) (hk : f0.type = 24) (hd : f1.type = 35) (hg : Tryd.prog.underlying 24 = some (.struct #[g0, g1]))
    (j0 : Tryd.prog.underlying g0.type = some (.int .i64)) (j1 : Tryd.prog.underlying g1.type = some (.int .i64)) (o0 : f0.offset = 0) (o1 : f1.offset = 2) (q0 : g0.offset = 0) (q1 : g1.offset = 1) (y0 : Tryd.prog.cellsOf g0.type = 1) (y1 : Tryd.prog.cellsOf g1.type = 1)
    (hCK : Tryd.prog.cellsOf 24 = 2) (hCD : Tryd.prog.cellsOf 35 = 3) (hC : Tryd.prog.cellsOf 37 = 5) (base fuel : Nat) (cs : List Value) (x : DataW H × List MemPlace)
    (hD : ∀ (fuel : Nat) (cs : List Value) (x : DataW H × List MemPlace), DataW.trod enc Tryd.prog w base sp held fuel 35 cs = some x →
      ∃ (k n : Int) (s : Value) (ks : Fo), cs = [.int .i64 k, .int .i64 n, s] ∧ Kids w w.heap.size s ks ∧ ks.wf ∧ (-9223372036854775808 ≤ k ∧ k ≤ 9223372036854775807) ∧ (-9223372036854775808 ≤ n ∧ n ≤ 9223372036854775807) ∧ ks.cnt + 1 ≤ Rows.uptoBulk x.1)
    (h : DataW.trod enc Tryd.prog w base sp held fuel 37 cs = some x) :
    ∃ (a b k n : Int) (s : Value) (ks : Fo), cs = [.int .i64 a, .int .i64 b, .int .i64 k, .int .i64 n, s] ∧ Kids w w.heap.size s ks ∧ ks.wf ∧ (-9223372036854775808 ≤ a ∧ a ≤ 9223372036854775807) ∧ (-9223372036854775808 ≤ b ∧ b ≤ 9223372036854775807) ∧ (-9223372036854775808 ≤ k ∧ k ≤ 9223372036854775807) ∧ (-9223372036854775808 ≤ n ∧ n ≤ 9223372036854775807) ∧ ks.cnt + 1 ≤ Rows.uptoBulk x.1 := by
  obtain ⟨xs, m, rfl, rfl, hlen, hxs, hel⟩ := DataW.trod_struct hs h
  rw [hC] at hlen
  obtain ⟨c0, c1, c2, c3, c4, rfl⟩ : ∃ c0 c1 c2 c3 c4, cs = [c0, c1, c2, c3, c4] := by
    match cs, hlen with
    | [a, b, c, d, e], _ => exact ⟨a, b, c, d, e, rfl⟩
  obtain ⟨x0, x1, rfl⟩ : ∃ x0 x1, xs = [x0, x1] := by
    have h3 : xs.length = 2 := hxs
    match xs, h3 with
    | [a, b], _ => exact ⟨a, b, rfl⟩
  have e0 := hel 0 f0 rfl
  have e1 := hel 1 f1 rfl
  rw [o0, hk, hCK] at e0
  rw [o1, hd, hCD] at e1
  simp only [List.drop_zero, List.take_succ_cons, List.take_zero, List.getElem?_cons_zero, List.drop_succ_cons, List.getElem?_cons_succ] at e0 e1
  obtain ⟨ys, m', rfl, hx0, hlen', hys, hel'⟩ := DataW.trod_struct hg e0
  obtain ⟨z0, z1, rfl⟩ : ∃ z0 z1, ys = [z0, z1] := by
    have h3 : ys.length = 2 := hys
    match ys, h3 with
    | [a, b], _ => exact ⟨a, b, rfl⟩
  have d0 := hel' 0 g0 rfl
  have d1 := hel' 1 g1 rfl
  rw [q0, y0] at d0
  rw [q1, y1] at d1
  simp only [List.drop_zero, List.take_succ_cons, List.take_zero, List.getElem?_cons_zero, List.drop_succ_cons, List.getElem?_cons_succ] at d0 d1
  obtain ⟨a, ha, -, wa⟩ := DataW.trod_int j0 d0
  obtain ⟨b, hb, -, wb⟩ := DataW.trod_int j1 d1
  simp only [List.cons.injEq, and_true] at ha hb
  subst ha hb
  obtain ⟨k, n, s, ks, hcs, hK, wf, wk, wn, hc⟩ := hD _ _ _ e1
  simp only [List.cons.injEq, and_true] at hcs
  obtain ⟨rfl, rfl, rfl⟩ := hcs
  refine ⟨a, b, k, n, c4, ks, rfl, hK, wf, wf_i64 wa, wf_i64 wb, wk, wn, ?_⟩
  simp only [List.map_cons, List.map_nil, Rows.uptoBulk, Rows.uptoBulkAll]
  omega
end
set_option maxRecDepth 100000 in
theorem open_entry {H : Type} {enc : TypeId × Value → H} {w : World} {sp : Nat → Bool} {held : Bool} {base b0 : Nat} {r : Reach} {v : Value} {d : DataW H} {p : List MemPlace} (hv : Value.okWide Tryd.prog w r b0 37 v) (h : DataW.Trod enc Tryd.prog w base sp held 37 v d p) :
    ∃ (a b k n : Int) (s : Value) (ks : Fo), v = .agg #[.int .i64 a, .int .i64 b, .int .i64 k, .int .i64 n, s] ∧ Kids w w.heap.size s ks ∧ ks.wf ∧ (-9223372036854775808 ≤ a ∧ a ≤ 9223372036854775807) ∧ (-9223372036854775808 ≤ b ∧ b ≤ 9223372036854775807) ∧ (-9223372036854775808 ≤ k ∧ k ≤ 9223372036854775807) ∧ (-9223372036854775808 ≤ n ∧ n ≤ 9223372036854775807) ∧ ks.cnt + 1 ≤ Rows.uptoBulk d := by
  obtain ⟨cs, rfl, hsz⟩ := okWide_struct Tryd.underlying37 hv
  obtain ⟨fuel, hf⟩ := h
  have hD := trod_fo (H := H) (enc := enc) (w := w) (sp := sp) (held := held) 33 _ _ _ Tryd.underlying35 Tryd.underlying33 Tryd.underlying3 Tryd.underlying3 rfl rfl rfl (by kernel_rfl) (by kernel_rfl) (by kernel_rfl) (by kernel_rfl) base
  obtain ⟨a, b, k, n, s, ks, e, g⟩ := trod_entry _ _ _ _ Tryd.underlying37 rfl rfl Tryd.underlying24 Tryd.underlying3 Tryd.underlying3 rfl rfl rfl rfl (by kernel_rfl) (by kernel_rfl) (by kernel_rfl) (by kernel_rfl) (by kernel_rfl) base fuel _ _ hD hf
  simp only [Value.cells] at e
  refine ⟨a, b, k, n, s, ks, ?_, g⟩
  congr 1
  exact Array.ext' (by simpa using e)
end Go.Proofs.YtmbcfijhlpeddaaDoor
/- Rows of entries that come in. -/
namespace Go.Proofs.YtmbcfijhlpeddaaDoor
open Go.ChangeShapes Go.WideShapes Go.ChangeAt Go.RowKit
set_option linter.unusedVariables false
open Go.Joins Go.Deep
set_option linter.unusedSimpArgs false
/-- In words' range. -/
def En.inr (e : En) : Prop := (-9223372036854775808 ≤ e.a ∧ e.a ≤ 9223372036854775807) ∧ (-9223372036854775808 ≤ e.b ∧ e.b ≤ 9223372036854775807) ∧ (-9223372036854775808 ≤ e.k ∧ e.k ≤ 9223372036854775807) ∧ (-9223372036854775808 ≤ e.n ∧ e.n ≤ 9223372036854775807) ∧ e.ks.wf
theorem bulk_mem {H : Type} : ∀ (l : List (DataW H)) (i : Nat) (hi : i < l.length), Rows.uptoBulk l[i] ≤ Rows.uptoBulkAll l
  | x :: l, 0, _ => by simp only [List.getElem_cons_zero, Rows.uptoBulkAll]; omega
  | x :: l, i + 1, h => by
    have := bulk_mem l i (by simpa using h)
    simp only [List.getElem_cons_succ, Rows.uptoBulkAll]
    omega
set_option maxRecDepth 100000 in
theorem trod_ens {H : Type} {enc : TypeId × Value → H} {w : World} {sp : Nat → Bool} {held : Bool} (base fuel : Nat) (v : Value) (x : DataW H × List MemPlace) (e2 : DataW.trod enc Tryd.prog w base sp held fuel 22 [v] = some x) :
    ∃ l : List En, RowN w w.heap.size v l ∧ ∀ e ∈ l, e.inr ∧ e.ks.cnt + 1 ≤ Rows.uptoBulk x.1 := by
  have hC : Tryd.prog.cellsOf 37 = 5 := by kernel_rfl
  rcases DataW.trod_slice Tryd.underlying22 e2 with ⟨hc, hx2⟩ | ⟨a, len, cap, elems, rest, m2, hm2, hc, hx2, hb, hlc, hcm, hle, hels, _, _⟩
  · simp only [List.cons.injEq, and_true] at hc
    subst hc
    exact ⟨[], RowN.nought _ _, fun e he => by cases he⟩
  · simp only [List.cons.injEq, and_true] at hc
    subst hc
    rw [hC] at hels
    have hD := trod_fo (H := H) (enc := enc) (w := w) (sp := sp) (held := held) 33 _ _ _ Tryd.underlying35 Tryd.underlying33 Tryd.underlying3 Tryd.underlying3 rfl rfl rfl (by kernel_rfl) (by kernel_rfl) (by kernel_rfl) (by kernel_rfl) base
    have each0 : ∀ i, i < len → ∃ e : En, (∃ u, w.cell? (a.add (i * 5)) = some u) ∧ (∀ b o, a = ⟨b, o, none⟩ → EnAt w w.heap.size b (o + i * 5) e) ∧ e.inr ∧ e.ks.cnt + 1 ≤ Rows.uptoBulk x.1 := by
      intro i hi
      have he := hels i hi
      rw [List.getElem?_eq_getElem (show i < elems.length by omega)] at he
      obtain ⟨cs', h1', h2'⟩ := Option.bind_eq_some_iff.1 he
      obtain ⟨ea, eb, k', n', s', ks', rfl, g1, g2, ga, gb, g3, g4, g5⟩ := trod_entry _ _ _ _ Tryd.underlying37 rfl rfl Tryd.underlying24 Tryd.underlying3 Tryd.underlying3 rfl rfl rfl rfl (by kernel_rfl) (by kernel_rfl) (by kernel_rfl) (by kernel_rfl) (by kernel_rfl) base m2 _ _ hD h2'
      obtain ⟨_, _, hcell⟩ := World.cells?_some h1'
      have q0 := hcell 0 (by omega)
      have e : (a.add (i * 5)).add 0 = a.add (i * 5) := by obtain ⟨b, o, sp⟩ := a; cases sp <;> simp [Addr.add]
      rw [e] at q0
      refine ⟨⟨ea, eb, k', n', ks'⟩, ⟨_, q0⟩, ?_, ⟨ga, gb, g3, g4, g2⟩, ?_⟩
      · rintro b o rfl
        have q1 := hcell 1 (by omega)
        have q2 := hcell 2 (by omega)
        have q3 := hcell 3 (by omega)
        have q4 := hcell 4 (by omega)
        rw [add_plain, add_plain] at q1 q2 q3 q4
        rw [add_plain] at q0
        have q0' : w.cell? ⟨b, o + i * 5, none⟩ = some (.int .i64 ea) := by simpa using q0
        exact ⟨block_lt_of_cell q0', s', q0', by simpa using q1, by simpa using q2, by simpa using q3, by simpa using q4, g1⟩
      · have hm := bulk_mem (elems.map (·.1)) i (by rw [List.length_map]; omega)
        rw [List.getElem_map] at hm
        simp only [Rows.uptoBulk, hx2]
        show ks'.cnt + 1 ≤ _
        omega
    have each : ∀ i, i < len → ∃ e : En, (∃ b o, a = ⟨b, o, none⟩ ∧ EnAt w w.heap.size b (o + i * 5) e) ∧ e.inr ∧ e.ks.cnt + 1 ≤ Rows.uptoBulk x.1 := by
      intro i hi
      obtain ⟨_, ⟨u, hc0⟩, _⟩ := each0 0 (by omega)
      obtain ⟨b, o, spot⟩ := a
      have hspot : spot = none := by
        have := World.cell?_spot hc0
        cases spot with
        | none => rfl
        | some q => simp [Addr.add] at this
      subst hspot
      obtain ⟨e, _, h2, h3⟩ := each0 i hi
      exact ⟨e, ⟨b, o, rfl, h2 b o rfl⟩, h3⟩
    have build : ∀ j, j ≤ len → ∃ l : List En, l.length = j ∧ ∀ i e, l[i]? = some e → ((∃ b o, a = ⟨b, o, none⟩ ∧ EnAt w w.heap.size b (o + i * 5) e) ∧ e.inr ∧ e.ks.cnt + 1 ≤ Rows.uptoBulk x.1) := by
      intro j
      induction j with
      | zero => intro _; exact ⟨[], rfl, fun i e h => by simp at h⟩
      | succ j ih =>
        intro hj
        obtain ⟨l, hl, hA⟩ := ih (by omega)
        obtain ⟨e, he⟩ := each j (by omega)
        refine ⟨l ++ [e], by simp [hl], fun i z hz => ?_⟩
        rcases Nat.lt_or_ge i j with h | h
        · rw [List.getElem?_append_left (by omega)] at hz
          exact hA i z hz
        · rw [List.getElem?_append_right (by omega)] at hz
          have hi : i = j := by
            have := (List.getElem?_eq_some_iff.1 hz).1
            simp at this; omega
          subst hi
          rw [hl, Nat.sub_self] at hz
          simp at hz; subst hz
          exact he
    obtain ⟨l, hl, hA⟩ := build len (Nat.le_refl _)
    refine ⟨l, ⟨some a, cap, by rw [hl], by omega, hcm, fun i e he => ?_⟩, fun e he => ?_⟩
    · obtain ⟨⟨b, o, ha, hE⟩, _⟩ := hA i e he
      exact ⟨b, o, by rw [ha], hE⟩
    · obtain ⟨i, hi, rfl⟩ := List.getElem_of_mem he
      exact (hA i _ (List.getElem?_eq_getElem hi)).2
set_option maxRecDepth 100000 in
theorem open_entries {H : Type} {enc : TypeId × Value → H} {w : World} {sp : Nat → Bool} {held : Bool} {base b0 : Nat} {r : Reach} {v : Value} {d : DataW H} {p : List MemPlace} (hv : Value.okWide Tryd.prog w r b0 22 v) (h : DataW.Trod enc Tryd.prog w base sp held 22 v d p) :
    ∃ l : List En, RowN w w.heap.size v l ∧ ∀ e ∈ l, e.inr ∧ e.ks.cnt + 1 ≤ Rows.uptoBulk d := by
  obtain ⟨a, n, c, rfl⟩ := okWide_slice Tryd.underlying22 hv
  obtain ⟨fuel, hf⟩ := h
  exact trod_ens base fuel (.slice a n c) _ hf
end Go.Proofs.YtmbcfijhlpeddaaDoor
/- entry.Sort: a copy of each, sorted by keys and stable. -/
namespace Go.Proofs.YtmbcfijhlpeddaaDoor
open Go.ChangeShapes Go.WideShapes Go.ChangeAt Go.RowKit
set_option linter.unusedVariables false
set_option linter.unusedSimpArgs false
attribute [local go_sem ↓] Go.wp_at_zero Go.wp_at_succ
set_option maxRecDepth 100000 in
set_option maxHeartbeats 4000000 in
theorem sort_stable (g B N c : Nat) (T : TypeId) (l : List E5) (W : World) (hS : Srtr W B) (hne : B ≠ g) (hl : l.length = N) (hsm : N ≤ 1000000) (hc : N ≤ c ∧ c ≤ maxLen) (hform : Slv l) (h : RowE W g T l) :
    Calls Tryd.prog 25 #[.slice (some ⟨g, 0, none⟩) N c, .func (.func 26) #[] #[.pointer (some ⟨B, 0, none⟩)]] W fun e w' => e = .returned (.tuple #[]) ∧ But W w' g ∧ RowE w' g T (sortE l) := by
  have C := Lib.hid (stable g B N c T l W hS hne hl hsm hc hform h)
  clear hS hform h hl
  go_enter Tryd.func25, Tryd.ntmps25
  go_wp2_with fail
  refine C.out.mono ?_
  rintro e w' ⟨rfl, hb, hr⟩
  have h1 := Lib.hid hb
  have h2 := Lib.hid hr
  clear hb hr C
  go_wp2_with fail
  go_end0
  exact ⟨rfl, h1.out, h2.out⟩
theorem srtr_new (W : World) : ∃ w1 : World, w1 = W.alloc (.cells #[.func (.func 10) #[] #[]] 43) ∧ Srtr w1 W.heap.size ∧ Below W.heap.size W w1 ∧ w1.heap.size = W.heap.size + 1 :=
  ⟨_, rfl, heap_alloc_new _ _, (Below.refl _ _).alloc (Nat.le_refl _) _, by simp⟩
/-- The copies sorted. -/
theorem cpy_sort (W w2 wr : World) (g n : Nat) (l : List En) (hl : l.length = n) (hn : n ≤ 1000000) (hS : Srtr w2 W.heap.size) (hg : W.heap.size + 1 = g) (hB2 : Below W.heap.size W w2) (hb : But w2 wr g) (hC : Cpy wr g 37 l n) :
    Calls Tryd.prog 25 #[.slice (some ⟨g, 0, none⟩) n n, .func (.func 26) #[] #[.pointer (some ⟨W.heap.size, 0, none⟩)]] wr fun e w' => e = .returned (.tuple #[]) ∧ RowN w' w'.heap.size (.slice (some ⟨g, 0, none⟩) n n) (sortN l) ∧ Below W.heap.size W w' := by
  subst hl
  obtain ⟨ps, h1, h2, h3⟩ := hC.done
  have hlen : ps.length = l.length := by rw [← h1, List.length_map]
  have := sort_stable g W.heap.size l.length l.length _ (ps.map P6.e) wr (hS.but hb (by omega)) (by omega) (by rw [List.length_map]; exact hlen) hn ⟨Nat.le_refl _, by unfold maxLen; omega⟩ (fun e he => by
    obtain ⟨p, hp, rfl⟩ := List.mem_map.1 he
    exact (h3 p hp).form) h2
  refine this.mono ?_
  rintro e w' ⟨rfl, hb', hr⟩
  rw [sort_e] at hr
  have hsl : (Srt.isort plt ps).length = l.length := by rw [Srt.isort_len]; exact hlen
  have hR := row_of (lim := w'.heap.size) (c := l.length) hr hr.lt (fun p hp => ((h3 p (Srt.mem_isort hp)).but hb').kids) ⟨by omega, by unfold maxLen; omega⟩
  rw [hsl, ← sort_x, h1] at hR
  refine ⟨rfl, hR, hB2.trans ((hb.trans hb').b _ (by omega) hB2.size)⟩
set_option maxRecDepth 100000 in
set_option maxHeartbeats 8000000 in
theorem e_sorter (v : Value) (l : List En) (lim : Nat) (W : World) (h : RowN W lim v l) (hlim : lim ≤ W.heap.size) (hn : l.length ≤ 100000) (hw : ∀ e ∈ l, e.ks.cnt ≤ 1048576) :
    Calls Tryd.prog 14 #[.agg #[.func (.func 10) #[] #[]], v] W fun e w' => ∃ g, e = .returned (.slice (some ⟨g, 0, none⟩) l.length l.length) ∧ W.heap.size ≤ g ∧ RowN w' w'.heap.size (.slice (some ⟨g, 0, none⟩) l.length l.length) (sortN l) ∧ Below W.heap.size W w' := by
  obtain ⟨p, c, rfl, hlc, hcm⟩ := h.form
  obtain ⟨n, hnl⟩ : ∃ n, l.length = n := ⟨_, rfl⟩
  rw [hnl] at h hlc hn ⊢
  obtain ⟨w1, hw1, hS1, hB1, hs1⟩ := srtr_new W
  obtain ⟨w2, mk, hB2, hs2, hr2⟩ := make_ens w1 n (by omega)
  obtain ⟨g, hg⟩ : ∃ g, w1.heap.size = g := ⟨_, rfl⟩
  have hgB : W.heap.size + 1 = g := by omega
  have hB12 := hB1.trans (hB2.mono hB1.size)
  have hS2 := hS1.below hB2
  have HC0 : Hid (Cpy w2 g 37 l 0) := Lib.hid (Cpy.start (by rw [hnl, ← hg]; exact hr2))
  have DN := Lib.hid (fun wr (hb : But w2 wr g) (hC : Cpy wr g 37 l n) => cpy_sort W w2 wr g n l hnl (by omega) hS2 hgB hB12 hb hC)
  have HIN := Lib.hid (fun wr (hb : But w2 wr g) => h.carry ((hB12.trans (hb.b W.heap.size (by omega) hB12.size)).mono hlim))
  have HWF := Lib.hid hw
  have HG := Lib.hid hgB
  have HLIM := Lib.hid hlim
  have HNL := Lib.hid hnl
  have HW1 := Lib.hid hw1.symm
  rw [hg] at mk
  have mk' : (Instr.makeSlice 22 (.int .i64 n) (.int .i64 n)).run Tryd.prog w1 = .ok (.slice (some ⟨g, 0, none⟩) n n) w2 := mk
  have hcc : c ≤ 9223372036854775807 := by unfold maxLen at hcm; omega
  have HS12 := Lib.hid hB12.size
  clear h hw hw1 hS1 hB1 hs1 mk hB2 hs2 hr2 hg hgB hB12 hS2 hlim hcm
  go_enter Tryd.func14, Tryd.ntmps14
  go_upto_region 1 with fail
  rw [HW1.out]
  go_wp2_with fail
  clear mk'
  go_loopw [13] (fun j wr => ∃ i : Nat, j = .int .i64 i ∧ i ≤ n ∧ Hid (Cpy wr g 37 l i) ∧ Hid (But w2 wr g)) (fun j _ => n - (intOf j).toNat)
  case atStart => exact ⟨0, rfl, by omega, HC0, Lib.hid (But.refl _ _)⟩
  case round =>
    obtain ⟨i, rfl, hi, HC, HB⟩ := hrel
    by_cases hlt : i < n
    case neg =>
      obtain rfl : i = n := by omega
      have d1 : decide ((i : Int) < (i : Int)) = false := decide_eq_false (by omega)
      have C := DN.out wr HB.out HC.out
      clear HC HC0 DN HIN
      go_wp2_with fail
      refine C.mono ?_
      rintro e w3 ⟨rfl, hr, hb⟩
      have h1 := Lib.hid hr
      have h2 := Lib.hid hb
      clear C hr hb
      go_wp2_with fail
      go_ret
      exact ⟨g, rfl, by have := HG.out; omega, h1.out, h2.out⟩
    case pos =>
      have d1 : decide ((i : Int) < (n : Int)) = true := decide_eq_true (by omega)
      have d1' : decide (i < n) = true := decide_eq_true hlt
      obtain ⟨e, he⟩ : ∃ e, l[i]? = some e := ⟨l[i]'(by have := HNL.out; omega), List.getElem?_eq_getElem (by have := HNL.out; omega)⟩
      obtain ⟨b, o, rfl, hb, s, x0, x1, x2, x3, x4, hK⟩ := (HIN.out wr HB.out).get he
      obtain ⟨sp, sm, sc, rfl, -, -, hsm⟩ := hK.shape
      have hcnt := HWF.out e (List.mem_of_getElem? he)
      have hlw : lim ≤ wr.heap.size := by have := HB.out.z; have := HS12.out; have := HLIM.out; omega
      obtain ⟨w3, hw3, r3, hB3, hs3⟩ := box5 wr e.a e.b e.k e.n (.slice sp sm sc) 37
      have hC3 := HC.out.below hB3
      have CL := Lib.hid (fun u (hu : Below w3.heap.size w3 u) => (show Calls Tryd.prog 24 #[.agg #[.int .i64 e.k, .int .i64 e.n, .slice sp sm sc]] u fun x w' => ∃ F q ja jc, x = .returned (.agg #[.int .i64 e.k, .int .i64 e.n, .slice ja e.ks.len jc]) ∧ kidv F 0 e.ks.len = .slice ja e.ks.len jc ∧ Cloned w' F e.ks q ∧ w3.heap.size ≤ F ∧ Below w3.heap.size w3 w' from by
        refine (desc_clone e.k e.n (.slice sp sm sc) e.ks lim u ((hK.below hlw hB3).below (by omega) hu) (by have := hu.size; omega) hcnt).mono ?_
        rintro x w' ⟨F, q, rfl, h2, h3, h4⟩
        obtain ⟨ja, jc, hjv⟩ := kidv_form F 0 e.ks.len
        exact ⟨F, q, ja, jc, by rw [hjv], hjv, h2, Nat.le_trans hu.size h3, hu.trans (h4.mono hu.size)⟩))
      have ST := Lib.hid (fun (w6 : World) (hb6 : Below w3.heap.size w3 w6) F q (hF : Cloned w6 F e.ks q) (hge : w3.heap.size ≤ F) => (hC3.below hb6).step he hF (by have := hC3.lt; omega) hcnt)
      have OLD := Lib.hid (fun (w6 : World) (hb6 : Below w3.heap.size w3 w6) => (hC3.below hb6).old (by have := HNL.out; omega))
      have KP := Lib.hid (fun (w6 : World) (hb6 : Below w3.heap.size w3 w6) => cells5 ((hb6.block _ (by omega)).trans r3))
      have BB := Lib.hid (fun (w6 : World) (hb6 : Below w3.heap.size w3 w6) => (HB.out.trans (But.of_below g hB3)).trans (But.of_below g hb6))
      obtain ⟨y0, y1, y2, y3, y4⟩ := cells5 r3
      have HW3 := Lib.hid hw3.symm
      have hiI : (i : Int) < (n : Int) := by omega
      have hi0 : (0 : Int) ≤ (i : Int) := by omega
      obtain ⟨ea, eb, ek, em, eks⟩ := e
      simp only at x0 x1 x2 x3 y0 y1 y2 y3 hK hcnt CL ST KP HW3 hsm
      have HE := Lib.hid he
      obtain ⟨X, hX⟩ : ∃ X, wr.heap.size = X := ⟨_, rfl⟩
      rw [hX] at y0 y1 y2 y3 y4 KP
      have HX := Lib.hid hX
      clear hw3 r3 hs3 hC3 hB3 he hK hcnt hlw hb HC
      go_upto_region 5 with fail
      rw [HW3.out]
      go_region_with (go_at_call 24; go_loud (with_reducible refine (CL.out w3.drew ((Below.refl _ _).drew)).mono ?_; rintro e w6 ⟨F, q, ja, jc, rfl, hjv, hF, hge, hB6⟩; obtain ⟨k0, k1, k2, k3, k4⟩ := KP.out w6 hB6; obtain ⟨o0, o1, o2, o3, o4, of⟩ := OLD.out w6 hB6; have E1 := ST.out w6 hB6 F q hF hge; have E2 := (BB.out w6 hB6).trans (s5o_but w6 g (i * 5) ⟨ea, eb, ek, em, kidv F 0 eks.len⟩); rw [hjv] at E1 E2; obtain ⟨wn, hwn⟩ : ∃ wn, s5o w6 g (i * 5) ⟨ea, eb, ek, em, .slice ja eks.len jc⟩ = wn := ⟨_, rfl⟩; rw [hwn] at E1 E2; simp only [s5o] at hwn; have HWN := Lib.hid hwn; have E1 := Lib.hid E1; have E2 := Lib.hid E2; have f0 := of (i * 5); have f1 := of (i * 5 + 1); have f2 := of (i * 5 + 2); have f3 := of (i * 5 + 3); have f4 := of (i * 5 + 4); clear of hwn hF hge hB6 hjv))
      all_goals
        rw [HWN.out]
        clear k0 k1 k2 k3 k4 o0 o1 o2 o3 o4 f0 f1 f2 f3 f4 x0 x1 x2 x3 x4 y0 y1 y2 y3 y4
        go_wp2_with fail
        go_roundw
      all_goals
        first
        | exact ⟨i + 1, by go_num, by omega, E1, E2⟩
        | (simp only [intOf]; omega)
set_option maxRecDepth 100000 in
set_option maxHeartbeats 4000000 in
theorem entry_sort (v : Value) (l : List En) (lim : Nat) (W : World) (h : RowN W lim v l) (hlim : lim ≤ W.heap.size) (hn : l.length ≤ 100000) (hw : ∀ e ∈ l, e.ks.cnt ≤ 1048576) :
    Calls Tryd.prog 8 #[v] W fun e w' => ∃ g, e = .returned (.slice (some ⟨g, 0, none⟩) l.length l.length) ∧ W.heap.size ≤ g ∧ RowN w' w'.heap.size (.slice (some ⟨g, 0, none⟩) l.length l.length) (sortN l) ∧ Below W.heap.size W w' := by
  have C := Lib.hid (e_sorter v l lim W h hlim hn hw)
  obtain ⟨p, c, rfl, hlc, hcm⟩ := h.form
  clear h hlim hn hw hlc hcm
  go_enter Tryd.func8, Tryd.ntmps8
  go_wp2_with fail
  refine C.out.mono ?_
  rintro e w' ⟨g, rfl, hg, hr, hb⟩
  have h1 := Lib.hid hr
  have h2 := Lib.hid hb
  clear hr hb C
  go_wp2_with fail
  go_ret
  exact ⟨g, rfl, hg, h1.out, h2.out⟩
end Go.Proofs.YtmbcfijhlpeddaaDoor
/- A contract over a listed variable that is handed the world's shape, too; bytealg.MaxLen holds some int. -/
namespace Go.Proofs.YtmbcfijhlpeddaaDoor
open Go.ChangeShapes Go.WideShapes Go.ChangeAt Go.RowKit
variable {H : Type} {enc : TypeId × Value → H}

theorem returns_listed_shaped {a : Assume} {C : Checked} {os : Os} {f : FuncId} {fn : Func} {s : ChangeSpec} {conds : List PathCond} {apart fresh handsOn again : Bool} {X : World → Array Value → Prop}
    (hX : ∀ (w w' : World) (args : Array Value), w.heap = w'.heap → X w args → X w' args)
    (own : ownKnob C.prog.godebug = none) (started : os.Started) (noInit : C.prog.inits.idxOf? f = none) (hfn : C.prog.funcs[f]? = some fn)
    (witness : ∃ (w : World) (tape : Tape) (i : Input), w.os = os ∧ (w.forCall tape i).Shaped C.prog ∧ i.vars = [] ∧ Input.okWide C.prog (w.forCall tape i) .any w.heap.size f i ∧
      ((s.pre enc C.prog fn conds apart (w.forCall tape i).memory i.args ∧ X (w.forCall tape i).memory i.args) ∧ sizedMet enc C.prog fn (OpenSpec.ofChange s) apart (w.forCall tape i).memory i.args) ∧ a.holds C.prog (lone (Frame.enter C.prog f i.args .normal) [] (w.forCall tape i)))
    (contract : ∀ (W : World) (base : Nat) (args : Array Value) (ds gs : List (DataW H)) (before : List MemPlace),
      (∀ (j : Nat) t v, fn.params[j]? = some t → args[j]? = some v → Value.okWide C.prog W .any base t v) →
      DataW.Whole enc C.prog fn.params.toList s.vars apart W args.toList ds gs before → X W args → W.ShapedOpen C.prog →
      Calls C.prog f args W fun e W' => ∃ v, e = .returned v ∧ s.post enc C.prog fn apart fresh handsOn again W args v W') :
    ReturnsInHanded a C os f .any (fun w args => (s.pre enc C.prog fn conds apart w args ∧ X w args) ∧ sizedMet enc C.prog fn (OpenSpec.ofChange s) apart w args) (s.post enc C.prog fn apart fresh handsOn again) := by
  refine returnsInHanded_of_calls own started noInit witness ?_
  intro w tape i _ hsh _ hok hpre _
  obtain ⟨_, _, _, fn', hfn', _, _, _, _, hval⟩ := hok
  obtain rfl : fn' = fn := Option.some.inj (hfn'.symm.trans hfn)
  obtain ⟨⟨⟨ds, gs, before, hw, _⟩, hx⟩, _⟩ := hpre
  refine (contract (w.forCall tape i) w.heap.size i.args ds gs before hval (DataW.Whole.of_heap (w' := w.forCall tape i) (by rfl) hw) (hX _ _ _ (by rfl) hx) hsh).mono fun e W' ⟨v, he, hp⟩ => ?_
  subst he
  exact ChangeSpec.post_blind hp

theorem max_int {W : World} (h : W.ShapedOpen Tryd.prog) : ∃ m, W.cell? ⟨0, 0, none⟩ = some (.int .i64 m) :=
  cell_of_shapedOpen_int (t := 3) (zero := #[.int .i64 0]) h (of_decide_eq_true (by kernel_rfl)) (by kernel_rfl) rfl (by kernel_rfl) (by kernel_rfl) Tryd.underlying3

end Go.Proofs.YtmbcfijhlpeddaaDoor
