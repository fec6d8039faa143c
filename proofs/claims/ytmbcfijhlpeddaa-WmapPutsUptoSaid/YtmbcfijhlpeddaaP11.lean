/- Put together by program (merge2.py): Ral Opene Openes. -/
import Derived.Test.YtmbcfijhlpeddaaD11
import Derived.Test.YtmbcfijhlpeddaaP7
import Derived.Test.YtmbcfijhlpeddaaP10
/- Reference 24: All of two rows that are the same, and Much. -/
namespace Go.Proofs.Ytmbcfijhlpeddaa
open Go.ChangeShapes Go.WideShapes Go.ChangeAt Go.RowKit
set_option linter.unusedVariables false
set_option linter.unusedSimpArgs false
attribute [local go_sem ↓] Go.wp_at_zero Go.wp_at_succ
set_option maxRecDepth 100000 in
set_option maxHeartbeats 8000000 in
theorem r24_all_same (v v' : Value) (l : List En) (lim : Nat) (W : World) (h : RowN W lim v l) (h' : RowN W lim v' l) (hlim : lim ≤ W.heap.size) (hn : l.length ≤ 100000) :
    Calls Try.prog 16 #[v, v'] W fun e w' => e = .returned (.bool true) ∧ Below W.heap.size W w' := by
  obtain ⟨p, c, rfl, hlc, hcm⟩ := h.form
  obtain ⟨p', c', rfl, hlc', hcm'⟩ := h'.form
  obtain ⟨n, hnl⟩ : ∃ n, l.length = n := ⟨_, rfl⟩
  rw [hnl] at h h' hlc hlc' hn ⊢
  have HIN := Lib.hid h
  have HIN' := Lib.hid h'
  have HNL := Lib.hid hnl
  have hcc : c ≤ 9223372036854775807 := by unfold maxLen at hcm; omega
  have hcc' : c' ≤ 9223372036854775807 := by unfold maxLen at hcm'; omega
  have dn : ((n : Int) != (n : Int)) = false := by simp
  clear h h' hnl hcm hcm'
  go_enter Try.func16, Try.ntmps16
  go_wp2_with fail
  go_loopw [5] (fun j wr => ∃ i : Nat, j = .int .i64 i ∧ i ≤ n ∧ Hid (Below W.heap.size W wr)) (fun j _ => n - (intOf j).toNat)
  case atStart => exact ⟨0, rfl, by omega, Lib.hid (Below.refl _ _)⟩
  case round =>
    obtain ⟨i, rfl, hi, HB⟩ := hrel
    by_cases hlt : i < n
    case neg =>
      obtain rfl : i = n := by omega
      have d1 : decide ((i : Int) < (i : Int)) = false := decide_eq_false (by omega)
      go_wp2_with fail
      go_ret
      exact ⟨rfl, HB.out⟩
    case pos =>
      have d1 : decide ((i : Int) < (n : Int)) = true := decide_eq_true (by omega)
      have d1' : decide (i < n) = true := decide_eq_true hlt
      have hbz := HB.out.size
      obtain ⟨e, he⟩ : ∃ e, l[i]? = some e := ⟨l[i]'(by have := HNL.out; omega), List.getElem?_eq_getElem (by have := HNL.out; omega)⟩
      obtain ⟨b, o, rfl, hb, s, x0, x1, x2, x3, x4, hK⟩ := (HIN.out.carry (HB.out.mono hlim)).get he
      obtain ⟨b', o', rfl, hb', s', y0, y1, y2, y3, y4, hK'⟩ := (HIN'.out.carry (HB.out.mono hlim)).get he
      obtain ⟨sp, sm, sc, rfl, -, -, hsm⟩ := hK.shape
      obtain ⟨sp', sm', sc', rfl, -, -, hsm'⟩ := hK'.shape
      obtain ⟨ea, eb, ek, em, eks⟩ := e
      simp only at x0 x1 x2 x3 y0 y1 y2 y3 hK hK' hsm hsm'
      have hSE : decide ((ea = ea ∧ eb = eb) ∧ cmpN ek em eks ek em eks = 0) = true := decide_eq_true ⟨⟨rfl, rfl⟩, cmpN_self ek em eks⟩
      have MK := Lib.hid (fun w' (hb2 : Below wr.heap.size wr w') => (show w'.cell? ⟨b, o + i * 5, none⟩ = some (.int .i64 ea) ∧ w'.cell? ⟨b, o + i * 5 + 1, none⟩ = some (.int .i64 eb) ∧ w'.cell? ⟨b, o + i * 5 + 2, none⟩ = some (.int .i64 ek) ∧ w'.cell? ⟨b, o + i * 5 + 3, none⟩ = some (.int .i64 em) ∧ w'.cell? ⟨b, o + i * 5 + 4, none⟩ = some (.slice sp sm sc) ∧ w'.cell? ⟨b', o' + i * 5, none⟩ = some (.int .i64 ea) ∧ w'.cell? ⟨b', o' + i * 5 + 1, none⟩ = some (.int .i64 eb) ∧ w'.cell? ⟨b', o' + i * 5 + 2, none⟩ = some (.int .i64 ek) ∧ w'.cell? ⟨b', o' + i * 5 + 3, none⟩ = some (.int .i64 em) ∧ w'.cell? ⟨b', o' + i * 5 + 4, none⟩ = some (.slice sp' sm' sc') ∧ Below wr.heap.size wr w' from
        ⟨(hb2.cell (p := ⟨b, o + i * 5, none⟩) (show b < _ by omega)).trans x0, (hb2.cell (p := ⟨b, o + i * 5 + 1, none⟩) (show b < _ by omega)).trans x1, (hb2.cell (p := ⟨b, o + i * 5 + 2, none⟩) (show b < _ by omega)).trans x2, (hb2.cell (p := ⟨b, o + i * 5 + 3, none⟩) (show b < _ by omega)).trans x3, (hb2.cell (p := ⟨b, o + i * 5 + 4, none⟩) (show b < _ by omega)).trans x4,
         (hb2.cell (p := ⟨b', o' + i * 5, none⟩) (show b' < _ by omega)).trans y0, (hb2.cell (p := ⟨b', o' + i * 5 + 1, none⟩) (show b' < _ by omega)).trans y1, (hb2.cell (p := ⟨b', o' + i * 5 + 2, none⟩) (show b' < _ by omega)).trans y2, (hb2.cell (p := ⟨b', o' + i * 5 + 3, none⟩) (show b' < _ by omega)).trans y3, (hb2.cell (p := ⟨b', o' + i * 5 + 4, none⟩) (show b' < _ by omega)).trans y4, hb2⟩))
      have KP := Lib.hid (fun (wa w' : World) (hS : wa.cell? ⟨b, o + i * 5, none⟩ = some (.int .i64 ea) ∧ wa.cell? ⟨b, o + i * 5 + 1, none⟩ = some (.int .i64 eb) ∧ wa.cell? ⟨b, o + i * 5 + 2, none⟩ = some (.int .i64 ek) ∧ wa.cell? ⟨b, o + i * 5 + 3, none⟩ = some (.int .i64 em) ∧ wa.cell? ⟨b, o + i * 5 + 4, none⟩ = some (.slice sp sm sc) ∧ wa.cell? ⟨b', o' + i * 5, none⟩ = some (.int .i64 ea) ∧ wa.cell? ⟨b', o' + i * 5 + 1, none⟩ = some (.int .i64 eb) ∧ wa.cell? ⟨b', o' + i * 5 + 2, none⟩ = some (.int .i64 ek) ∧ wa.cell? ⟨b', o' + i * 5 + 3, none⟩ = some (.int .i64 em) ∧ wa.cell? ⟨b', o' + i * 5 + 4, none⟩ = some (.slice sp' sm' sc') ∧ Below wr.heap.size wr wa) (hb : Below wa.heap.size wa w') => MK.out w' (hS.2.2.2.2.2.2.2.2.2.2.trans (hb.mono hS.2.2.2.2.2.2.2.2.2.2.size)))
      have CL := Lib.hid (fun w' (hb2 : Below wr.heap.size wr w') => (show Calls Try.prog 28 #[.agg #[.int .i64 ea, .int .i64 eb, .int .i64 ek, .int .i64 em, .slice sp sm sc], .agg #[.int .i64 ea, .int .i64 eb, .int .i64 ek, .int .i64 em, .slice sp' sm' sc']] w' fun e w'' => e = .returned (.bool true) ∧ Below w'.heap.size w' w'' from by
        have := r24_same eks eks (.slice sp sm sc) (.slice sp' sm' sc') ea eb ek em ea eb ek em lim w' (hK.below (by omega) hb2) (hK'.below (by omega) hb2) (by have := hb2.size; omega)
        rw [hSE] at this
        exact this))
      have hiI : (i : Int) < (n : Int) := by omega
      have hi0 : (0 : Int) ≤ (i : Int) := by omega
      clear he hK hK' hsm hsm' x0 x1 x2 x3 x4 y0 y1 y2 y3 y4 hb hb' hSE
      go_wp2_with fail
      go_region_held3 (fun w' => w'.cell? ⟨b, o + i * 5, none⟩ = some (.int .i64 ea) ∧ w'.cell? ⟨b, o + i * 5 + 1, none⟩ = some (.int .i64 eb) ∧ w'.cell? ⟨b, o + i * 5 + 2, none⟩ = some (.int .i64 ek) ∧ w'.cell? ⟨b, o + i * 5 + 3, none⟩ = some (.int .i64 em) ∧ w'.cell? ⟨b, o + i * 5 + 4, none⟩ = some (.slice sp sm sc) ∧ w'.cell? ⟨b', o' + i * 5, none⟩ = some (.int .i64 ea) ∧ w'.cell? ⟨b', o' + i * 5 + 1, none⟩ = some (.int .i64 eb) ∧ w'.cell? ⟨b', o' + i * 5 + 2, none⟩ = some (.int .i64 ek) ∧ w'.cell? ⟨b', o' + i * 5 + 3, none⟩ = some (.int .i64 em) ∧ w'.cell? ⟨b', o' + i * 5 + 4, none⟩ = some (.slice sp' sm' sc') ∧ Below wr.heap.size wr w') (first | exact MK.out _ ((Below.refl _ _).drew) | assumption | (refine KP.out _ _ ?_ hb; first | assumption | exact MK.out _ ((Below.refl _ _).drew))) (first | (go_at_call 28; (with_reducible refine (CL.out _ (by go_split_ands; assumption)).mono ?_); rintro e w' ⟨rfl, hb⟩))
      rename_i hEnd
      obtain ⟨-, -, -, -, -, -, -, -, -, -, hBB⟩ := hEnd
      have HB2 := Lib.hid (HB.out.trans (hBB.mono HB.out.size))
      clear hBB MK KP CL
      go_wp2_with fail
      go_roundw
      case rel => exact ⟨i + 1, by go_num, by omega, HB2⟩
      case measure => simp only [intOf]; omega
set_option maxRecDepth 100000 in
set_option maxHeartbeats 8000000 in
theorem r24_much (v : Value) (l : List En) (lim : Nat) (W : World) (h : RowN W lim v l) (hlim : lim ≤ W.heap.size) (hw : ∀ e ∈ l, e.ks.cnt + 1 ≤ 1048576) :
    Calls Try.prog 6 #[v] W fun e w' => (∃ z, e = .returned (.bool z) ∧ (z = false → l.length ≤ 30 ∧ ∀ e ∈ l, e.ks.cnt + 1 ≤ 80)) ∧ Below W.heap.size W w' := by
  obtain ⟨p, c, rfl, hlc, hcm⟩ := h.form
  obtain ⟨n, hnl⟩ : ∃ n, l.length = n := ⟨_, rfl⟩
  rw [hnl] at h hlc ⊢
  have HIN := Lib.hid h
  have HNL := Lib.hid hnl
  have HW := Lib.hid hw
  have hcc : c ≤ 9223372036854775807 := by unfold maxLen at hcm; omega
  clear h hnl hcm hw
  go_enter Try.func6, Try.ntmps6
  go_wp2_with fail
  go_loopw [3] (fun j wr => ∃ i : Nat, j = .int .i64 i ∧ i ≤ n ∧ i ≤ 40 ∧ Hid (∀ e ∈ l.take i, e.ks.cnt + 1 ≤ 80) ∧ Hid (Below W.heap.size W wr)) (fun j _ => n - (intOf j).toNat)
  case atStart => exact ⟨0, rfl, by omega, by omega, Lib.hid (by simp), Lib.hid (Below.refl _ _)⟩
  case round =>
    obtain ⟨i, rfl, hi, hi4, HA, HB⟩ := hrel
    by_cases hlt : i < n
    case neg =>
      obtain rfl : i = n := by omega
      have d1 : decide ((i : Int) < (i : Int)) = false := decide_eq_false (by omega)
      have EN := Lib.hid (fun (hz : decide ((i : Int) > 30) = false) => (show i ≤ 30 ∧ ∀ e ∈ l, e.ks.cnt + 1 ≤ 80 from ⟨by have := of_decide_eq_false hz; omega, by have := HA.out; rw [← HNL.out, List.take_length] at this; exact this⟩))
      go_wp2_with fail
      go_ret
      exact ⟨⟨_, rfl, fun hz => EN.out (by first | exact hz | simpa using hz)⟩, HB.out⟩
    case pos =>
      have d1 : decide ((i : Int) < (n : Int)) = true := decide_eq_true (by omega)
      have d1' : decide (i < n) = true := decide_eq_true hlt
      by_cases h4 : i < 40
      case neg =>
        obtain rfl : i = 40 := by omega
        have d3 : decide ((n : Int) > 30) = true := decide_eq_true (by omega)
        have d3' : decide (30 < n) = true := decide_eq_true (by omega)
        rw [show ((40 : Nat) : Int) = 40 from rfl] at d1 ⊢
        go_wp2_with fail
        go_ret
        exact ⟨⟨_, rfl, fun hz => by first | cases hz | (simp at hz; omega)⟩, HB.out⟩
      case pos =>
        have d2 : decide ((i : Int) < 40) = true := decide_eq_true (by omega)
        have d2' : decide (i < 40) = true := decide_eq_true h4
        have hbz := HB.out.size
        obtain ⟨e, he⟩ : ∃ e, l[i]? = some e := ⟨l[i]'(by have := HNL.out; omega), List.getElem?_eq_getElem (by have := HNL.out; omega)⟩
        obtain ⟨b, o, rfl, hb, s, x0, x1, x2, x3, x4, hK⟩ := (HIN.out.carry (HB.out.mono hlim)).get he
        obtain ⟨sp, sm, sc, rfl, -, -, hsm⟩ := hK.shape
        have hcnt := HW.out e (List.mem_of_getElem? he)
        have HT := Lib.hid (fun (hz : ¬ 80 < e.ks.cnt + 1) => (show ∀ z ∈ l.take (i + 1), z.ks.cnt + 1 ≤ 80 from fun z hz2 => by
          rw [List.take_add_one, he] at hz2
          rcases List.mem_append.1 hz2 with hz2 | hz2
          · exact HA.out z hz2
          · simp at hz2; subst hz2; omega))
        obtain ⟨ea, eb, ek, em, eks⟩ := e
        simp only at x0 x1 x2 x3 hK hsm hcnt HT
        have MU := r13_much eks (.slice sp sm sc) ek em lim wr (by omega) hK (by omega)
        have hiI : (i : Int) < (n : Int) := by omega
        have hi0 : (0 : Int) ≤ (i : Int) := by omega
        by_cases hm : 80 < eks.cnt + 1
        · rw [decide_eq_true hm] at MU
          clear he hK hsm hb hcnt HT x0 x1 hm
          go_wp2_with fail
          refine MU.mono ?_
          rintro e w1 ⟨rfl, hb1⟩
          go_wp2_with fail
          go_ret
          exact ⟨⟨_, rfl, fun hz => by cases hz⟩, HB.out.trans (hb1.mono hbz)⟩
        · rw [decide_eq_false hm] at MU
          have HT2 := Lib.hid (HT.out hm)
          clear he hK hsm hb hcnt HT x0 x1 hm
          go_wp2_with fail
          refine MU.mono ?_
          rintro e w1 ⟨rfl, hb1⟩
          have HB2 := Lib.hid (HB.out.trans (hb1.mono hbz))
          clear hb1 MU x2 x3 x4
          go_wp2_with fail
          go_roundw
          case rel => exact ⟨i + 1, by go_num, by omega, by omega, HT2, HB2⟩
          case measure => simp only [intOf]; omega
end Go.Proofs.Ytmbcfijhlpeddaa
/- A parameter api.Entry: a key of two ints and a descriptor. -/
namespace Go.Proofs.Ytmbcfijhlpeddaa
open Go.ChangeShapes Go.WideShapes Go.ChangeAt Go.RowKit
set_option linter.unusedVariables false
set_option linter.unusedSimpArgs false
section
variable {H : Type} {enc : TypeId × Value → H} {w : World} {sp : Nat → Bool} {held : Bool}
set_option maxRecDepth 100000 in
theorem trod_entry (f0 f1 g0 g1 : Field) (hs : Try.prog.underlying 36 = some (.struct #[f0, f1])) (hk : f0.type = 24) (hd : f1.type = 34) (hg : Try.prog.underlying 24 = some (.struct #[g0, g1]))
    (j0 : Try.prog.underlying g0.type = some (.int .i64)) (j1 : Try.prog.underlying g1.type = some (.int .i64)) (o0 : f0.offset = 0) (o1 : f1.offset = 2) (q0 : g0.offset = 0) (q1 : g1.offset = 1) (y0 : Try.prog.cellsOf g0.type = 1) (y1 : Try.prog.cellsOf g1.type = 1)
    (hCK : Try.prog.cellsOf 24 = 2) (hCD : Try.prog.cellsOf 34 = 3) (hC : Try.prog.cellsOf 36 = 5) (base fuel : Nat) (cs : List Value) (x : DataW H × List MemPlace)
    (hD : ∀ (fuel : Nat) (cs : List Value) (x : DataW H × List MemPlace), DataW.trod enc Try.prog w base sp held fuel 34 cs = some x →
      ∃ (k n : Int) (s : Value) (ks : Fo), cs = [.int .i64 k, .int .i64 n, s] ∧ Kids w w.heap.size s ks ∧ ks.wf ∧ (-9223372036854775808 ≤ k ∧ k ≤ 9223372036854775807) ∧ (-9223372036854775808 ≤ n ∧ n ≤ 9223372036854775807) ∧ ks.cnt + 1 ≤ Rows.uptoBulk x.1)
    (h : DataW.trod enc Try.prog w base sp held fuel 36 cs = some x) :
    ∃ (a b k n : Int) (s : Value) (ks : Fo), cs = [.int .i64 a, .int .i64 b, .int .i64 k, .int .i64 n, s] ∧ Kids w w.heap.size s ks ∧ ks.wf ∧ (-9223372036854775808 ≤ a ∧ a ≤ 9223372036854775807) ∧ (-9223372036854775808 ≤ b ∧ b ≤ 9223372036854775807) ∧ (-9223372036854775808 ≤ k ∧ k ≤ 9223372036854775807) ∧ (-9223372036854775808 ≤ n ∧ n ≤ 9223372036854775807) ∧ ks.cnt + 1 ≤ Rows.uptoBulk x.1 := by
  obtain ⟨xs, m, rfl, rfl, hlen, hxs, hel⟩ := DataW.trod_struct hs h
  rw [hC] at hlen
  obtain ⟨c0, c1, c2, c3, c4, rfl⟩ : ∃ c0 c1 c2 c3 c4, cs = [c0, c1, c2, c3, c4] := by
    match cs, hlen with
    | [a, b, c, d, e], _ => exact ⟨a, b, c, d, e, rfl⟩
  obtain ⟨x0, x1, rfl⟩ : ∃ x0 x1, xs = [x0, x1] := by
    have h3 : xs.length = 2 := hxs
    match xs, h3 with
    | [a, b], _ => exact ⟨a, b, rfl⟩
  have e0 := hel 0 f0 rfl
  have e1 := hel 1 f1 rfl
  rw [o0, hk, hCK] at e0
  rw [o1, hd, hCD] at e1
  simp only [List.drop_zero, List.take_succ_cons, List.take_zero, List.getElem?_cons_zero, List.drop_succ_cons, List.getElem?_cons_succ] at e0 e1
  obtain ⟨ys, m', rfl, hx0, hlen', hys, hel'⟩ := DataW.trod_struct hg e0
  obtain ⟨z0, z1, rfl⟩ : ∃ z0 z1, ys = [z0, z1] := by
    have h3 : ys.length = 2 := hys
    match ys, h3 with
    | [a, b], _ => exact ⟨a, b, rfl⟩
  have d0 := hel' 0 g0 rfl
  have d1 := hel' 1 g1 rfl
  rw [q0, y0] at d0
  rw [q1, y1] at d1
  simp only [List.drop_zero, List.take_succ_cons, List.take_zero, List.getElem?_cons_zero, List.drop_succ_cons, List.getElem?_cons_succ] at d0 d1
  obtain ⟨a, ha, -, wa⟩ := DataW.trod_int j0 d0
  obtain ⟨b, hb, -, wb⟩ := DataW.trod_int j1 d1
  simp only [List.cons.injEq, and_true] at ha hb
  subst ha hb
  obtain ⟨k, n, s, ks, hcs, hK, wf, wk, wn, hc⟩ := hD _ _ _ e1
  simp only [List.cons.injEq, and_true] at hcs
  obtain ⟨rfl, rfl, rfl⟩ := hcs
  refine ⟨a, b, k, n, c4, ks, rfl, hK, wf, wf_i64 wa, wf_i64 wb, wk, wn, ?_⟩
  simp only [List.map_cons, List.map_nil, Rows.uptoBulk, Rows.uptoBulkAll]
  omega
end
set_option maxRecDepth 100000 in
theorem open_entry {H : Type} {enc : TypeId × Value → H} {w : World} {sp : Nat → Bool} {held : Bool} {base b0 : Nat} {r : Reach} {v : Value} {d : DataW H} {p : List MemPlace} (hv : Value.okWide Try.prog w r b0 36 v) (h : DataW.Trod enc Try.prog w base sp held 36 v d p) :
    ∃ (a b k n : Int) (s : Value) (ks : Fo), v = .agg #[.int .i64 a, .int .i64 b, .int .i64 k, .int .i64 n, s] ∧ Kids w w.heap.size s ks ∧ ks.wf ∧ (-9223372036854775808 ≤ a ∧ a ≤ 9223372036854775807) ∧ (-9223372036854775808 ≤ b ∧ b ≤ 9223372036854775807) ∧ (-9223372036854775808 ≤ k ∧ k ≤ 9223372036854775807) ∧ (-9223372036854775808 ≤ n ∧ n ≤ 9223372036854775807) ∧ ks.cnt + 1 ≤ Rows.uptoBulk d := by
  obtain ⟨cs, rfl, hsz⟩ := okWide_struct Try.underlying36 hv
  obtain ⟨fuel, hf⟩ := h
  have hD := trod_fo (H := H) (enc := enc) (w := w) (sp := sp) (held := held) 32 _ _ _ Try.underlying34 Try.underlying32 Try.underlying3 Try.underlying3 rfl rfl rfl (by kernel_rfl) (by kernel_rfl) (by kernel_rfl) (by kernel_rfl) base
  obtain ⟨a, b, k, n, s, ks, e, g⟩ := trod_entry _ _ _ _ Try.underlying36 rfl rfl Try.underlying24 Try.underlying3 Try.underlying3 rfl rfl rfl rfl (by kernel_rfl) (by kernel_rfl) (by kernel_rfl) (by kernel_rfl) (by kernel_rfl) base fuel _ _ hD hf
  simp only [Value.cells] at e
  refine ⟨a, b, k, n, s, ks, ?_, g⟩
  congr 1
  exact Array.ext' (by simpa using e)
end Go.Proofs.Ytmbcfijhlpeddaa
/- Rows of entries that come in. -/
namespace Go.Proofs.Ytmbcfijhlpeddaa
open Go.ChangeShapes Go.WideShapes Go.ChangeAt Go.RowKit
set_option linter.unusedVariables false
open Go.Joins Go.Deep
set_option linter.unusedSimpArgs false
/-- In words' range. -/
def En.inr (e : En) : Prop := (-9223372036854775808 ≤ e.a ∧ e.a ≤ 9223372036854775807) ∧ (-9223372036854775808 ≤ e.b ∧ e.b ≤ 9223372036854775807) ∧ (-9223372036854775808 ≤ e.k ∧ e.k ≤ 9223372036854775807) ∧ (-9223372036854775808 ≤ e.n ∧ e.n ≤ 9223372036854775807) ∧ e.ks.wf
theorem bulk_mem {H : Type} : ∀ (l : List (DataW H)) (i : Nat) (hi : i < l.length), Rows.uptoBulk l[i] ≤ Rows.uptoBulkAll l
  | x :: l, 0, _ => by simp only [List.getElem_cons_zero, Rows.uptoBulkAll]; omega
  | x :: l, i + 1, h => by
    have := bulk_mem l i (by simpa using h)
    simp only [List.getElem_cons_succ, Rows.uptoBulkAll]
    omega
set_option maxRecDepth 100000 in
theorem trod_ens {H : Type} {enc : TypeId × Value → H} {w : World} {sp : Nat → Bool} {held : Bool} (base fuel : Nat) (v : Value) (x : DataW H × List MemPlace) (e2 : DataW.trod enc Try.prog w base sp held fuel 22 [v] = some x) :
    ∃ l : List En, RowN w w.heap.size v l ∧ ∀ e ∈ l, e.inr ∧ e.ks.cnt + 1 ≤ Rows.uptoBulk x.1 := by
  have hC : Try.prog.cellsOf 36 = 5 := by kernel_rfl
  rcases DataW.trod_slice Try.underlying22 e2 with ⟨hc, hx2⟩ | ⟨a, len, cap, elems, rest, m2, hm2, hc, hx2, hb, hlc, hcm, hle, hels, _, _⟩
  · simp only [List.cons.injEq, and_true] at hc
    subst hc
    exact ⟨[], RowN.nought _ _, fun e he => by cases he⟩
  · simp only [List.cons.injEq, and_true] at hc
    subst hc
    rw [hC] at hels
    have hD := trod_fo (H := H) (enc := enc) (w := w) (sp := sp) (held := held) 32 _ _ _ Try.underlying34 Try.underlying32 Try.underlying3 Try.underlying3 rfl rfl rfl (by kernel_rfl) (by kernel_rfl) (by kernel_rfl) (by kernel_rfl) base
    have each0 : ∀ i, i < len → ∃ e : En, (∃ u, w.cell? (a.add (i * 5)) = some u) ∧ (∀ b o, a = ⟨b, o, none⟩ → EnAt w w.heap.size b (o + i * 5) e) ∧ e.inr ∧ e.ks.cnt + 1 ≤ Rows.uptoBulk x.1 := by
      intro i hi
      have he := hels i hi
      rw [List.getElem?_eq_getElem (show i < elems.length by omega)] at he
      obtain ⟨cs', h1', h2'⟩ := Option.bind_eq_some_iff.1 he
      obtain ⟨ea, eb, k', n', s', ks', rfl, g1, g2, ga, gb, g3, g4, g5⟩ := trod_entry _ _ _ _ Try.underlying36 rfl rfl Try.underlying24 Try.underlying3 Try.underlying3 rfl rfl rfl rfl (by kernel_rfl) (by kernel_rfl) (by kernel_rfl) (by kernel_rfl) (by kernel_rfl) base m2 _ _ hD h2'
      obtain ⟨_, _, hcell⟩ := World.cells?_some h1'
      have q0 := hcell 0 (by omega)
      have e : (a.add (i * 5)).add 0 = a.add (i * 5) := by obtain ⟨b, o, sp⟩ := a; cases sp <;> simp [Addr.add]
      rw [e] at q0
      refine ⟨⟨ea, eb, k', n', ks'⟩, ⟨_, q0⟩, ?_, ⟨ga, gb, g3, g4, g2⟩, ?_⟩
      · rintro b o rfl
        have q1 := hcell 1 (by omega)
        have q2 := hcell 2 (by omega)
        have q3 := hcell 3 (by omega)
        have q4 := hcell 4 (by omega)
        rw [add_plain, add_plain] at q1 q2 q3 q4
        rw [add_plain] at q0
        have q0' : w.cell? ⟨b, o + i * 5, none⟩ = some (.int .i64 ea) := by simpa using q0
        exact ⟨block_lt_of_cell q0', s', q0', by simpa using q1, by simpa using q2, by simpa using q3, by simpa using q4, g1⟩
      · have hm := bulk_mem (elems.map (·.1)) i (by rw [List.length_map]; omega)
        rw [List.getElem_map] at hm
        simp only [Rows.uptoBulk, hx2]
        show ks'.cnt + 1 ≤ _
        omega
    have each : ∀ i, i < len → ∃ e : En, (∃ b o, a = ⟨b, o, none⟩ ∧ EnAt w w.heap.size b (o + i * 5) e) ∧ e.inr ∧ e.ks.cnt + 1 ≤ Rows.uptoBulk x.1 := by
      intro i hi
      obtain ⟨_, ⟨u, hc0⟩, _⟩ := each0 0 (by omega)
      obtain ⟨b, o, spot⟩ := a
      have hspot : spot = none := by
        have := World.cell?_spot hc0
        cases spot with
        | none => rfl
        | some q => simp [Addr.add] at this
      subst hspot
      obtain ⟨e, _, h2, h3⟩ := each0 i hi
      exact ⟨e, ⟨b, o, rfl, h2 b o rfl⟩, h3⟩
    have build : ∀ j, j ≤ len → ∃ l : List En, l.length = j ∧ ∀ i e, l[i]? = some e → ((∃ b o, a = ⟨b, o, none⟩ ∧ EnAt w w.heap.size b (o + i * 5) e) ∧ e.inr ∧ e.ks.cnt + 1 ≤ Rows.uptoBulk x.1) := by
      intro j
      induction j with
      | zero => intro _; exact ⟨[], rfl, fun i e h => by simp at h⟩
      | succ j ih =>
        intro hj
        obtain ⟨l, hl, hA⟩ := ih (by omega)
        obtain ⟨e, he⟩ := each j (by omega)
        refine ⟨l ++ [e], by simp [hl], fun i z hz => ?_⟩
        rcases Nat.lt_or_ge i j with h | h
        · rw [List.getElem?_append_left (by omega)] at hz
          exact hA i z hz
        · rw [List.getElem?_append_right (by omega)] at hz
          have hi : i = j := by
            have := (List.getElem?_eq_some_iff.1 hz).1
            simp at this; omega
          subst hi
          rw [hl, Nat.sub_self] at hz
          simp at hz; subst hz
          exact he
    obtain ⟨l, hl, hA⟩ := build len (Nat.le_refl _)
    refine ⟨l, ⟨some a, cap, by rw [hl], by omega, hcm, fun i e he => ?_⟩, fun e he => ?_⟩
    · obtain ⟨⟨b, o, ha, hE⟩, _⟩ := hA i e he
      exact ⟨b, o, by rw [ha], hE⟩
    · obtain ⟨i, hi, rfl⟩ := List.getElem_of_mem he
      exact (hA i _ (List.getElem?_eq_getElem hi)).2
set_option maxRecDepth 100000 in
theorem open_entries {H : Type} {enc : TypeId × Value → H} {w : World} {sp : Nat → Bool} {held : Bool} {base b0 : Nat} {r : Reach} {v : Value} {d : DataW H} {p : List MemPlace} (hv : Value.okWide Try.prog w r b0 22 v) (h : DataW.Trod enc Try.prog w base sp held 22 v d p) :
    ∃ l : List En, RowN w w.heap.size v l ∧ ∀ e ∈ l, e.inr ∧ e.ks.cnt + 1 ≤ Rows.uptoBulk d := by
  obtain ⟨a, n, c, rfl⟩ := okWide_slice Try.underlying22 hv
  obtain ⟨fuel, hf⟩ := h
  exact trod_ens base fuel (.slice a n c) _ hf
end Go.Proofs.Ytmbcfijhlpeddaa
