/- Put together by program (merge2.py): Ral. -/
import Derived.Test.YtmbcfijhlpeddaaQ13
/- Reference 24: All of two rows that are the same, and Much. -/
namespace Go.Proofs.Ytmbcfijhlpeddaa
open Go.ChangeShapes Go.WideShapes Go.ChangeAt Go.RowKit
set_option linter.unusedVariables false
set_option linter.unusedSimpArgs false
attribute [local go_sem ↓] Go.wp_at_zero Go.wp_at_succ
set_option maxRecDepth 100000 in
set_option maxHeartbeats 8000000 in
theorem r24_all_same (v v' : Value) (l : List En) (lim : Nat) (W : World) (h : RowN W lim v l) (h' : RowN W lim v' l) (hlim : lim ≤ W.heap.size) (hn : l.length ≤ 100000) :
    Calls Try.prog 16 #[v, v'] W fun e w' => e = .returned (.bool true) ∧ Below W.heap.size W w' := by
  obtain ⟨p, c, rfl, hlc, hcm⟩ := h.form
  obtain ⟨p', c', rfl, hlc', hcm'⟩ := h'.form
  obtain ⟨n, hnl⟩ : ∃ n, l.length = n := ⟨_, rfl⟩
  rw [hnl] at h h' hlc hlc' hn ⊢
  have HIN := Lib.hid h
  have HIN' := Lib.hid h'
  have HNL := Lib.hid hnl
  have hcc : c ≤ 9223372036854775807 := by unfold maxLen at hcm; omega
  have hcc' : c' ≤ 9223372036854775807 := by unfold maxLen at hcm'; omega
  have dn : ((n : Int) != (n : Int)) = false := by simp
  clear h h' hnl hcm hcm'
  go_enter Try.func16, Try.ntmps16
  go_wp2_with fail
  go_loopw [5] (fun j wr => ∃ i : Nat, j = .int .i64 i ∧ i ≤ n ∧ Hid (Below W.heap.size W wr)) (fun j _ => n - (intOf j).toNat)
  case atStart => exact ⟨0, rfl, by omega, Lib.hid (Below.refl _ _)⟩
  case round =>
    obtain ⟨i, rfl, hi, HB⟩ := hrel
    by_cases hlt : i < n
    case neg =>
      obtain rfl : i = n := by omega
      have d1 : decide ((i : Int) < (i : Int)) = false := decide_eq_false (by omega)
      go_wp2_with fail
      go_ret
      exact ⟨rfl, HB.out⟩
    case pos =>
      have d1 : decide ((i : Int) < (n : Int)) = true := decide_eq_true (by omega)
      have d1' : decide (i < n) = true := decide_eq_true hlt
      have hbz := HB.out.size
      obtain ⟨e, he⟩ : ∃ e, l[i]? = some e := ⟨l[i]'(by have := HNL.out; omega), List.getElem?_eq_getElem (by have := HNL.out; omega)⟩
      obtain ⟨b, o, rfl, hb, s, x0, x1, x2, x3, x4, hK⟩ := (HIN.out.carry (HB.out.mono hlim)).get he
      obtain ⟨b', o', rfl, hb', s', y0, y1, y2, y3, y4, hK'⟩ := (HIN'.out.carry (HB.out.mono hlim)).get he
      obtain ⟨sp, sm, sc, rfl, -, -, hsm⟩ := hK.shape
      obtain ⟨sp', sm', sc', rfl, -, -, hsm'⟩ := hK'.shape
      obtain ⟨ea, eb, ek, em, eks⟩ := e
      simp only at x0 x1 x2 x3 y0 y1 y2 y3 hK hK' hsm hsm'
      have hSE : decide ((ea = ea ∧ eb = eb) ∧ cmpN ek em eks ek em eks = 0) = true := decide_eq_true ⟨⟨rfl, rfl⟩, cmpN_self ek em eks⟩
      have MK := Lib.hid (fun w' (hb2 : Below wr.heap.size wr w') => (show w'.cell? ⟨b, o + i * 5, none⟩ = some (.int .i64 ea) ∧ w'.cell? ⟨b, o + i * 5 + 1, none⟩ = some (.int .i64 eb) ∧ w'.cell? ⟨b, o + i * 5 + 2, none⟩ = some (.int .i64 ek) ∧ w'.cell? ⟨b, o + i * 5 + 3, none⟩ = some (.int .i64 em) ∧ w'.cell? ⟨b, o + i * 5 + 4, none⟩ = some (.slice sp sm sc) ∧ w'.cell? ⟨b', o' + i * 5, none⟩ = some (.int .i64 ea) ∧ w'.cell? ⟨b', o' + i * 5 + 1, none⟩ = some (.int .i64 eb) ∧ w'.cell? ⟨b', o' + i * 5 + 2, none⟩ = some (.int .i64 ek) ∧ w'.cell? ⟨b', o' + i * 5 + 3, none⟩ = some (.int .i64 em) ∧ w'.cell? ⟨b', o' + i * 5 + 4, none⟩ = some (.slice sp' sm' sc') ∧ Below wr.heap.size wr w' from
        ⟨(hb2.cell (p := ⟨b, o + i * 5, none⟩) (show b < _ by omega)).trans x0, (hb2.cell (p := ⟨b, o + i * 5 + 1, none⟩) (show b < _ by omega)).trans x1, (hb2.cell (p := ⟨b, o + i * 5 + 2, none⟩) (show b < _ by omega)).trans x2, (hb2.cell (p := ⟨b, o + i * 5 + 3, none⟩) (show b < _ by omega)).trans x3, (hb2.cell (p := ⟨b, o + i * 5 + 4, none⟩) (show b < _ by omega)).trans x4,
         (hb2.cell (p := ⟨b', o' + i * 5, none⟩) (show b' < _ by omega)).trans y0, (hb2.cell (p := ⟨b', o' + i * 5 + 1, none⟩) (show b' < _ by omega)).trans y1, (hb2.cell (p := ⟨b', o' + i * 5 + 2, none⟩) (show b' < _ by omega)).trans y2, (hb2.cell (p := ⟨b', o' + i * 5 + 3, none⟩) (show b' < _ by omega)).trans y3, (hb2.cell (p := ⟨b', o' + i * 5 + 4, none⟩) (show b' < _ by omega)).trans y4, hb2⟩))
      have KP := Lib.hid (fun (wa w' : World) (hS : wa.cell? ⟨b, o + i * 5, none⟩ = some (.int .i64 ea) ∧ wa.cell? ⟨b, o + i * 5 + 1, none⟩ = some (.int .i64 eb) ∧ wa.cell? ⟨b, o + i * 5 + 2, none⟩ = some (.int .i64 ek) ∧ wa.cell? ⟨b, o + i * 5 + 3, none⟩ = some (.int .i64 em) ∧ wa.cell? ⟨b, o + i * 5 + 4, none⟩ = some (.slice sp sm sc) ∧ wa.cell? ⟨b', o' + i * 5, none⟩ = some (.int .i64 ea) ∧ wa.cell? ⟨b', o' + i * 5 + 1, none⟩ = some (.int .i64 eb) ∧ wa.cell? ⟨b', o' + i * 5 + 2, none⟩ = some (.int .i64 ek) ∧ wa.cell? ⟨b', o' + i * 5 + 3, none⟩ = some (.int .i64 em) ∧ wa.cell? ⟨b', o' + i * 5 + 4, none⟩ = some (.slice sp' sm' sc') ∧ Below wr.heap.size wr wa) (hb : Below wa.heap.size wa w') => MK.out w' (hS.2.2.2.2.2.2.2.2.2.2.trans (hb.mono hS.2.2.2.2.2.2.2.2.2.2.size)))
      have CL := Lib.hid (fun w' (hb2 : Below wr.heap.size wr w') => (show Calls Try.prog 28 #[.agg #[.int .i64 ea, .int .i64 eb, .int .i64 ek, .int .i64 em, .slice sp sm sc], .agg #[.int .i64 ea, .int .i64 eb, .int .i64 ek, .int .i64 em, .slice sp' sm' sc']] w' fun e w'' => e = .returned (.bool true) ∧ Below w'.heap.size w' w'' from by
        have := r24_same eks eks (.slice sp sm sc) (.slice sp' sm' sc') ea eb ek em ea eb ek em lim w' (hK.below (by omega) hb2) (hK'.below (by omega) hb2) (by have := hb2.size; omega)
        rw [hSE] at this
        exact this))
      have hiI : (i : Int) < (n : Int) := by omega
      have hi0 : (0 : Int) ≤ (i : Int) := by omega
      clear he hK hK' hsm hsm' x0 x1 x2 x3 x4 y0 y1 y2 y3 y4 hb hb' hSE
      go_wp2_with fail
      go_region_held3 (fun w' => w'.cell? ⟨b, o + i * 5, none⟩ = some (.int .i64 ea) ∧ w'.cell? ⟨b, o + i * 5 + 1, none⟩ = some (.int .i64 eb) ∧ w'.cell? ⟨b, o + i * 5 + 2, none⟩ = some (.int .i64 ek) ∧ w'.cell? ⟨b, o + i * 5 + 3, none⟩ = some (.int .i64 em) ∧ w'.cell? ⟨b, o + i * 5 + 4, none⟩ = some (.slice sp sm sc) ∧ w'.cell? ⟨b', o' + i * 5, none⟩ = some (.int .i64 ea) ∧ w'.cell? ⟨b', o' + i * 5 + 1, none⟩ = some (.int .i64 eb) ∧ w'.cell? ⟨b', o' + i * 5 + 2, none⟩ = some (.int .i64 ek) ∧ w'.cell? ⟨b', o' + i * 5 + 3, none⟩ = some (.int .i64 em) ∧ w'.cell? ⟨b', o' + i * 5 + 4, none⟩ = some (.slice sp' sm' sc') ∧ Below wr.heap.size wr w') (first | exact MK.out _ ((Below.refl _ _).drew) | assumption | (refine KP.out _ _ ?_ hb; first | assumption | exact MK.out _ ((Below.refl _ _).drew))) (first | (go_at_call 28; (with_reducible refine (CL.out _ (by go_split_ands; assumption)).mono ?_); rintro e w' ⟨rfl, hb⟩))
      rename_i hEnd
      obtain ⟨-, -, -, -, -, -, -, -, -, -, hBB⟩ := hEnd
      have HB2 := Lib.hid (HB.out.trans (hBB.mono HB.out.size))
      clear hBB MK KP CL
      go_wp2_with fail
      go_roundw
      case rel => exact ⟨i + 1, by go_num, by omega, HB2⟩
      case measure => simp only [intOf]; omega
set_option maxRecDepth 100000 in
set_option maxHeartbeats 8000000 in
theorem r24_much (v : Value) (l : List En) (lim : Nat) (W : World) (h : RowN W lim v l) (hlim : lim ≤ W.heap.size) (hw : ∀ e ∈ l, e.ks.cnt + 1 ≤ 1048576) :
    Calls Try.prog 6 #[v] W fun e w' => (∃ z, e = .returned (.bool z) ∧ (z = false → l.length ≤ 30 ∧ ∀ e ∈ l, e.ks.cnt + 1 ≤ 80)) ∧ Below W.heap.size W w' := by
  obtain ⟨p, c, rfl, hlc, hcm⟩ := h.form
  obtain ⟨n, hnl⟩ : ∃ n, l.length = n := ⟨_, rfl⟩
  rw [hnl] at h hlc ⊢
  have HIN := Lib.hid h
  have HNL := Lib.hid hnl
  have HW := Lib.hid hw
  have hcc : c ≤ 9223372036854775807 := by unfold maxLen at hcm; omega
  clear h hnl hcm hw
  go_enter Try.func6, Try.ntmps6
  go_wp2_with fail
  go_loopw [3] (fun j wr => ∃ i : Nat, j = .int .i64 i ∧ i ≤ n ∧ i ≤ 40 ∧ Hid (∀ e ∈ l.take i, e.ks.cnt + 1 ≤ 80) ∧ Hid (Below W.heap.size W wr)) (fun j _ => n - (intOf j).toNat)
  case atStart => exact ⟨0, rfl, by omega, by omega, Lib.hid (by simp), Lib.hid (Below.refl _ _)⟩
  case round =>
    obtain ⟨i, rfl, hi, hi4, HA, HB⟩ := hrel
    by_cases hlt : i < n
    case neg =>
      obtain rfl : i = n := by omega
      have d1 : decide ((i : Int) < (i : Int)) = false := decide_eq_false (by omega)
      have EN := Lib.hid (fun (hz : decide ((i : Int) > 30) = false) => (show i ≤ 30 ∧ ∀ e ∈ l, e.ks.cnt + 1 ≤ 80 from ⟨by have := of_decide_eq_false hz; omega, by have := HA.out; rw [← HNL.out, List.take_length] at this; exact this⟩))
      go_wp2_with fail
      go_ret
      exact ⟨⟨_, rfl, fun hz => EN.out (by first | exact hz | simpa using hz)⟩, HB.out⟩
    case pos =>
      have d1 : decide ((i : Int) < (n : Int)) = true := decide_eq_true (by omega)
      have d1' : decide (i < n) = true := decide_eq_true hlt
      by_cases h4 : i < 40
      case neg =>
        obtain rfl : i = 40 := by omega
        have d3 : decide ((n : Int) > 30) = true := decide_eq_true (by omega)
        have d3' : decide (30 < n) = true := decide_eq_true (by omega)
        rw [show ((40 : Nat) : Int) = 40 from rfl] at d1 ⊢
        go_wp2_with fail
        go_ret
        exact ⟨⟨_, rfl, fun hz => by first | cases hz | (simp at hz; omega)⟩, HB.out⟩
      case pos =>
        have d2 : decide ((i : Int) < 40) = true := decide_eq_true (by omega)
        have d2' : decide (i < 40) = true := decide_eq_true h4
        have hbz := HB.out.size
        obtain ⟨e, he⟩ : ∃ e, l[i]? = some e := ⟨l[i]'(by have := HNL.out; omega), List.getElem?_eq_getElem (by have := HNL.out; omega)⟩
        obtain ⟨b, o, rfl, hb, s, x0, x1, x2, x3, x4, hK⟩ := (HIN.out.carry (HB.out.mono hlim)).get he
        obtain ⟨sp, sm, sc, rfl, -, -, hsm⟩ := hK.shape
        have hcnt := HW.out e (List.mem_of_getElem? he)
        have HT := Lib.hid (fun (hz : ¬ 80 < e.ks.cnt + 1) => (show ∀ z ∈ l.take (i + 1), z.ks.cnt + 1 ≤ 80 from fun z hz2 => by
          rw [List.take_add_one, he] at hz2
          rcases List.mem_append.1 hz2 with hz2 | hz2
          · exact HA.out z hz2
          · simp at hz2; subst hz2; omega))
        obtain ⟨ea, eb, ek, em, eks⟩ := e
        simp only at x0 x1 x2 x3 hK hsm hcnt HT
        have MU := r13_much eks (.slice sp sm sc) ek em lim wr (by omega) hK (by omega)
        have hiI : (i : Int) < (n : Int) := by omega
        have hi0 : (0 : Int) ≤ (i : Int) := by omega
        by_cases hm : 80 < eks.cnt + 1
        · rw [decide_eq_true hm] at MU
          clear he hK hsm hb hcnt HT x0 x1 hm
          go_wp2_with fail
          refine MU.mono ?_
          rintro e w1 ⟨rfl, hb1⟩
          go_wp2_with fail
          go_ret
          exact ⟨⟨_, rfl, fun hz => by cases hz⟩, HB.out.trans (hb1.mono hbz)⟩
        · rw [decide_eq_false hm] at MU
          have HT2 := Lib.hid (HT.out hm)
          clear he hK hsm hb hcnt HT x0 x1 hm
          go_wp2_with fail
          refine MU.mono ?_
          rintro e w1 ⟨rfl, hb1⟩
          have HB2 := Lib.hid (HB.out.trans (hb1.mono hbz))
          clear hb1 MU x2 x3 x4
          go_wp2_with fail
          go_roundw
          case rel => exact ⟨i + 1, by go_num, by omega, by omega, HT2, HB2⟩
          case measure => simp only [intOf]; omega
end Go.Proofs.Ytmbcfijhlpeddaa
