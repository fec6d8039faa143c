/- Put together by program (merge2.py): Ral Entq Wrt. -/
import Derived.Laws.Concat
import Derived.Deep.RegionWith
import Derived.Test.YtafmiilkdhdngaaGreatDoorR21
import Derived.Test.YtafmiilkdhdngaaGreatDoorR22
import Derived.Test.YtafmiilkdhdngaaGreatDoorR27
/- Reference 24: All of two rows that are the same, and Much. -/
namespace Go.Proofs.YtafmiilkdhdngaaGreatDoor
open Go.ChangeShapes Go.WideShapes Go.ChangeAt Go.RowKit
set_option linter.unusedVariables false
set_option linter.unusedSimpArgs false
attribute [local go_sem ↓] Go.wp_at_zero Go.wp_at_succ
set_option maxRecDepth 100000 in
set_option maxHeartbeats 8000000 in
theorem r24_all_same (v v' : Value) (l : List En) (lim : Nat) (W : World) (h : RowN W lim v l) (h' : RowN W lim v' l) (hlim : lim ≤ W.heap.size) (hn : l.length ≤ 100000) :
    Calls Tryz.prog 12 #[v, v'] W fun e w' => e = .returned (.bool true) ∧ Below W.heap.size W w' := by
  obtain ⟨p, c, rfl, hlc, hcm⟩ := h.form
  obtain ⟨p', c', rfl, hlc', hcm'⟩ := h'.form
  obtain ⟨n, hnl⟩ : ∃ n, l.length = n := ⟨_, rfl⟩
  rw [hnl] at h h' hlc hlc' hn ⊢
  have HIN := Lib.hid h
  have HIN' := Lib.hid h'
  have HNL := Lib.hid hnl
  have hcc : c ≤ 9223372036854775807 := by unfold maxLen at hcm; omega
  have hcc' : c' ≤ 9223372036854775807 := by unfold maxLen at hcm'; omega
  have dn : ((n : Int) != (n : Int)) = false := by simp
  clear h h' hnl hcm hcm'
  go_enter Tryz.func12, Tryz.ntmps12
  go_wp2_with fail
  go_loopw [5] (fun j wr => ∃ i : Nat, j = .int .i64 i ∧ i ≤ n ∧ Hid (Below W.heap.size W wr)) (fun j _ => n - (intOf j).toNat)
  case atStart => exact ⟨0, rfl, by omega, Lib.hid (Below.refl _ _)⟩
  case round =>
    obtain ⟨i, rfl, hi, HB⟩ := hrel
    by_cases hlt : i < n
    case neg =>
      obtain rfl : i = n := by omega
      have d1 : decide ((i : Int) < (i : Int)) = false := decide_eq_false (by omega)
      go_wp2_with fail
      go_ret
      exact ⟨rfl, HB.out⟩
    case pos =>
      have d1 : decide ((i : Int) < (n : Int)) = true := decide_eq_true (by omega)
      have d1' : decide (i < n) = true := decide_eq_true hlt
      have hbz := HB.out.size
      obtain ⟨e, he⟩ : ∃ e, l[i]? = some e := ⟨l[i]'(by have := HNL.out; omega), List.getElem?_eq_getElem (by have := HNL.out; omega)⟩
      obtain ⟨b, o, rfl, hb, s, x0, x1, x2, x3, x4, hK⟩ := (HIN.out.carry (HB.out.mono hlim)).get he
      obtain ⟨b', o', rfl, hb', s', y0, y1, y2, y3, y4, hK'⟩ := (HIN'.out.carry (HB.out.mono hlim)).get he
      obtain ⟨sp, sm, sc, rfl, -, -, hsm⟩ := hK.shape
      obtain ⟨sp', sm', sc', rfl, -, -, hsm'⟩ := hK'.shape
      obtain ⟨ea, eb, ek, em, eks⟩ := e
      simp only at x0 x1 x2 x3 y0 y1 y2 y3 hK hK' hsm hsm'
      have hSE : decide ((ea = ea ∧ eb = eb) ∧ cmpN ek em eks ek em eks = 0) = true := decide_eq_true ⟨⟨rfl, rfl⟩, cmpN_self ek em eks⟩
      have MK := Lib.hid (fun w' (hb2 : Below wr.heap.size wr w') => (show w'.cell? ⟨b, o + i * 5, none⟩ = some (.int .i64 ea) ∧ w'.cell? ⟨b, o + i * 5 + 1, none⟩ = some (.int .i64 eb) ∧ w'.cell? ⟨b, o + i * 5 + 2, none⟩ = some (.int .i64 ek) ∧ w'.cell? ⟨b, o + i * 5 + 3, none⟩ = some (.int .i64 em) ∧ w'.cell? ⟨b, o + i * 5 + 4, none⟩ = some (.slice sp sm sc) ∧ w'.cell? ⟨b', o' + i * 5, none⟩ = some (.int .i64 ea) ∧ w'.cell? ⟨b', o' + i * 5 + 1, none⟩ = some (.int .i64 eb) ∧ w'.cell? ⟨b', o' + i * 5 + 2, none⟩ = some (.int .i64 ek) ∧ w'.cell? ⟨b', o' + i * 5 + 3, none⟩ = some (.int .i64 em) ∧ w'.cell? ⟨b', o' + i * 5 + 4, none⟩ = some (.slice sp' sm' sc') ∧ Below wr.heap.size wr w' from
        ⟨(hb2.cell (p := ⟨b, o + i * 5, none⟩) (show b < _ by omega)).trans x0, (hb2.cell (p := ⟨b, o + i * 5 + 1, none⟩) (show b < _ by omega)).trans x1, (hb2.cell (p := ⟨b, o + i * 5 + 2, none⟩) (show b < _ by omega)).trans x2, (hb2.cell (p := ⟨b, o + i * 5 + 3, none⟩) (show b < _ by omega)).trans x3, (hb2.cell (p := ⟨b, o + i * 5 + 4, none⟩) (show b < _ by omega)).trans x4,
         (hb2.cell (p := ⟨b', o' + i * 5, none⟩) (show b' < _ by omega)).trans y0, (hb2.cell (p := ⟨b', o' + i * 5 + 1, none⟩) (show b' < _ by omega)).trans y1, (hb2.cell (p := ⟨b', o' + i * 5 + 2, none⟩) (show b' < _ by omega)).trans y2, (hb2.cell (p := ⟨b', o' + i * 5 + 3, none⟩) (show b' < _ by omega)).trans y3, (hb2.cell (p := ⟨b', o' + i * 5 + 4, none⟩) (show b' < _ by omega)).trans y4, hb2⟩))
      have KP := Lib.hid (fun (wa w' : World) (hS : wa.cell? ⟨b, o + i * 5, none⟩ = some (.int .i64 ea) ∧ wa.cell? ⟨b, o + i * 5 + 1, none⟩ = some (.int .i64 eb) ∧ wa.cell? ⟨b, o + i * 5 + 2, none⟩ = some (.int .i64 ek) ∧ wa.cell? ⟨b, o + i * 5 + 3, none⟩ = some (.int .i64 em) ∧ wa.cell? ⟨b, o + i * 5 + 4, none⟩ = some (.slice sp sm sc) ∧ wa.cell? ⟨b', o' + i * 5, none⟩ = some (.int .i64 ea) ∧ wa.cell? ⟨b', o' + i * 5 + 1, none⟩ = some (.int .i64 eb) ∧ wa.cell? ⟨b', o' + i * 5 + 2, none⟩ = some (.int .i64 ek) ∧ wa.cell? ⟨b', o' + i * 5 + 3, none⟩ = some (.int .i64 em) ∧ wa.cell? ⟨b', o' + i * 5 + 4, none⟩ = some (.slice sp' sm' sc') ∧ Below wr.heap.size wr wa) (hb : Below wa.heap.size wa w') => MK.out w' (hS.2.2.2.2.2.2.2.2.2.2.trans (hb.mono hS.2.2.2.2.2.2.2.2.2.2.size)))
      have CL := Lib.hid (fun w' (hb2 : Below wr.heap.size wr w') => (show Calls Tryz.prog 29 #[.agg #[.int .i64 ea, .int .i64 eb, .int .i64 ek, .int .i64 em, .slice sp sm sc], .agg #[.int .i64 ea, .int .i64 eb, .int .i64 ek, .int .i64 em, .slice sp' sm' sc']] w' fun e w'' => e = .returned (.bool true) ∧ Below w'.heap.size w' w'' from by
        have := r24_same eks eks (.slice sp sm sc) (.slice sp' sm' sc') ea eb ek em ea eb ek em lim w' (hK.below (by omega) hb2) (hK'.below (by omega) hb2) (by have := hb2.size; omega)
        rw [hSE] at this
        exact this))
      have hiI : (i : Int) < (n : Int) := by omega
      have hi0 : (0 : Int) ≤ (i : Int) := by omega
      clear he hK hK' hsm hsm' x0 x1 x2 x3 x4 y0 y1 y2 y3 y4 hb hb' hSE
      go_wp2_with fail
      go_region_held3 (fun w' => w'.cell? ⟨b, o + i * 5, none⟩ = some (.int .i64 ea) ∧ w'.cell? ⟨b, o + i * 5 + 1, none⟩ = some (.int .i64 eb) ∧ w'.cell? ⟨b, o + i * 5 + 2, none⟩ = some (.int .i64 ek) ∧ w'.cell? ⟨b, o + i * 5 + 3, none⟩ = some (.int .i64 em) ∧ w'.cell? ⟨b, o + i * 5 + 4, none⟩ = some (.slice sp sm sc) ∧ w'.cell? ⟨b', o' + i * 5, none⟩ = some (.int .i64 ea) ∧ w'.cell? ⟨b', o' + i * 5 + 1, none⟩ = some (.int .i64 eb) ∧ w'.cell? ⟨b', o' + i * 5 + 2, none⟩ = some (.int .i64 ek) ∧ w'.cell? ⟨b', o' + i * 5 + 3, none⟩ = some (.int .i64 em) ∧ w'.cell? ⟨b', o' + i * 5 + 4, none⟩ = some (.slice sp' sm' sc') ∧ Below wr.heap.size wr w') (first | exact MK.out _ ((Below.refl _ _).drew) | assumption | (refine KP.out _ _ ?_ hb; first | assumption | exact MK.out _ ((Below.refl _ _).drew))) (first | (go_at_call 29; (with_reducible refine (CL.out _ (by go_split_ands; assumption)).mono ?_); rintro e w' ⟨rfl, hb⟩))
      rename_i hEnd
      obtain ⟨-, -, -, -, -, -, -, -, -, -, hBB⟩ := hEnd
      have HB2 := Lib.hid (HB.out.trans (hBB.mono HB.out.size))
      clear hBB MK KP CL
      go_wp2_with fail
      go_roundw
      case rel => exact ⟨i + 1, by go_num, by omega, HB2⟩
      case measure => simp only [intOf]; omega
set_option maxRecDepth 100000 in
set_option maxHeartbeats 8000000 in
theorem r24_much (v : Value) (l : List En) (lim : Nat) (W : World) (h : RowN W lim v l) (hlim : lim ≤ W.heap.size) (hw : ∀ e ∈ l, e.ks.cnt + 1 ≤ 1048576) :
    Calls Tryz.prog 6 #[v] W fun e w' => (∃ z, e = .returned (.bool z) ∧ (z = false → l.length ≤ 30 ∧ ∀ e ∈ l, e.ks.cnt + 1 ≤ 80)) ∧ Below W.heap.size W w' := by
  obtain ⟨p, c, rfl, hlc, hcm⟩ := h.form
  obtain ⟨n, hnl⟩ : ∃ n, l.length = n := ⟨_, rfl⟩
  rw [hnl] at h hlc ⊢
  have HIN := Lib.hid h
  have HNL := Lib.hid hnl
  have HW := Lib.hid hw
  have hcc : c ≤ 9223372036854775807 := by unfold maxLen at hcm; omega
  clear h hnl hcm hw
  go_enter Tryz.func6, Tryz.ntmps6
  go_wp2_with fail
  go_loopw [3] (fun j wr => ∃ i : Nat, j = .int .i64 i ∧ i ≤ n ∧ i ≤ 40 ∧ Hid (∀ e ∈ l.take i, e.ks.cnt + 1 ≤ 80) ∧ Hid (Below W.heap.size W wr)) (fun j _ => n - (intOf j).toNat)
  case atStart => exact ⟨0, rfl, by omega, by omega, Lib.hid (by simp), Lib.hid (Below.refl _ _)⟩
  case round =>
    obtain ⟨i, rfl, hi, hi4, HA, HB⟩ := hrel
    by_cases hlt : i < n
    case neg =>
      obtain rfl : i = n := by omega
      have d1 : decide ((i : Int) < (i : Int)) = false := decide_eq_false (by omega)
      have EN := Lib.hid (fun (hz : decide ((i : Int) > 30) = false) => (show i ≤ 30 ∧ ∀ e ∈ l, e.ks.cnt + 1 ≤ 80 from ⟨by have := of_decide_eq_false hz; omega, by have := HA.out; rw [← HNL.out, List.take_length] at this; exact this⟩))
      go_wp2_with fail
      go_ret
      exact ⟨⟨_, rfl, fun hz => EN.out (by first | exact hz | simpa using hz)⟩, HB.out⟩
    case pos =>
      have d1 : decide ((i : Int) < (n : Int)) = true := decide_eq_true (by omega)
      have d1' : decide (i < n) = true := decide_eq_true hlt
      by_cases h4 : i < 40
      case neg =>
        obtain rfl : i = 40 := by omega
        have d3 : decide ((n : Int) > 30) = true := decide_eq_true (by omega)
        have d3' : decide (30 < n) = true := decide_eq_true (by omega)
        rw [show ((40 : Nat) : Int) = 40 from rfl] at d1 ⊢
        go_wp2_with fail
        go_ret
        exact ⟨⟨_, rfl, fun hz => by first | cases hz | (simp at hz; omega)⟩, HB.out⟩
      case pos =>
        have d2 : decide ((i : Int) < 40) = true := decide_eq_true (by omega)
        have d2' : decide (i < 40) = true := decide_eq_true h4
        have hbz := HB.out.size
        obtain ⟨e, he⟩ : ∃ e, l[i]? = some e := ⟨l[i]'(by have := HNL.out; omega), List.getElem?_eq_getElem (by have := HNL.out; omega)⟩
        obtain ⟨b, o, rfl, hb, s, x0, x1, x2, x3, x4, hK⟩ := (HIN.out.carry (HB.out.mono hlim)).get he
        obtain ⟨sp, sm, sc, rfl, -, -, hsm⟩ := hK.shape
        have hcnt := HW.out e (List.mem_of_getElem? he)
        have HT := Lib.hid (fun (hz : ¬ 80 < e.ks.cnt + 1) => (show ∀ z ∈ l.take (i + 1), z.ks.cnt + 1 ≤ 80 from fun z hz2 => by
          rw [List.take_add_one, he] at hz2
          rcases List.mem_append.1 hz2 with hz2 | hz2
          · exact HA.out z hz2
          · simp at hz2; subst hz2; omega))
        obtain ⟨ea, eb, ek, em, eks⟩ := e
        simp only at x0 x1 x2 x3 hK hsm hcnt HT
        have MU := r13_much eks (.slice sp sm sc) ek em lim wr (by omega) hK (by omega)
        have hiI : (i : Int) < (n : Int) := by omega
        have hi0 : (0 : Int) ≤ (i : Int) := by omega
        by_cases hm : 80 < eks.cnt + 1
        · rw [decide_eq_true hm] at MU
          clear he hK hsm hb hcnt HT x0 x1 hm
          go_wp2_with fail
          refine MU.mono ?_
          rintro e w1 ⟨rfl, hb1⟩
          go_wp2_with fail
          go_ret
          exact ⟨⟨_, rfl, fun hz => by cases hz⟩, HB.out.trans (hb1.mono hbz)⟩
        · rw [decide_eq_false hm] at MU
          have HT2 := Lib.hid (HT.out hm)
          clear he hK hsm hb hcnt HT x0 x1 hm
          go_wp2_with fail
          refine MU.mono ?_
          rintro e w1 ⟨rfl, hb1⟩
          have HB2 := Lib.hid (HB.out.trans (hb1.mono hbz))
          clear hb1 MU x2 x3 x4
          go_wp2_with fail
          go_roundw
          case rel => exact ⟨i + 1, by go_num, by omega, by omega, HT2, HB2⟩
          case measure => simp only [intOf]; omega
end Go.Proofs.YtafmiilkdhdngaaGreatDoor
/- Entries: Same on both sides; reference 24's Much and Line. -/
namespace Go.Proofs.YtafmiilkdhdngaaGreatDoor
open Go.ChangeShapes Go.WideShapes Go.ChangeAt Go.RowKit
set_option linter.unusedVariables false
set_option linter.unusedSimpArgs false
theorem ba_app (x y : ByteArray) : (x ++ y).data.toList = x.data.toList ++ y.data.toList := by rw [ByteArray.data_append, Array.toList_append]
def lnS (a b k n : Int) (ks : Fo) : ByteArray := ((((baL (Lib.decDigits a.toNat) ++ ⟨#[32]⟩) ++ baL (Lib.decDigits b.toNat)) ++ ⟨#[32]⟩) ++ txS k n ks)
theorem lnS_list (a b k n : Int) (ks : Fo) : (lnS a b k n ks).data.toList = lnB a b k n ks := by
  unfold lnS lnB
  rw [ba_app, ba_app, ba_app, ba_app, baL_list, baL_list, txS_list]
  simp
set_option maxRecDepth 100000 in
set_option maxHeartbeats 8000000 in
theorem r24_line (ks : Fo) (v : Value) (a b k n : Int) (lim : Nat) (W : World) (hN : ks.cnt ≤ 79) (hK : Kids W lim v ks) (hl : lim ≤ W.heap.size) (wa : 0 ≤ a ∧ a ≤ 999999999) (wb : 0 ≤ b ∧ b ≤ 999999999) (hok : (Fo.cons k n ks .nil).okT) :
    Calls Tryz.prog 28 #[.agg #[.int .i64 a, .int .i64 b, .int .i64 k, .int .i64 n, v]] W fun e w' => e = .returned (.string (lnS a b k n ks)) ∧ Below W.heap.size W w' := by
  obtain ⟨p, m, c, rfl, -, -, -⟩ := hK.shape
  obtain ⟨w0, hw0, r0, hB0, hs0⟩ := box5 W a b k n (.slice p m c) 44
  have hla := (dec_len (n := a.toNat) (by omega)).2
  have hlb := (dec_len (n := b.toNat) (by omega)).2
  have hlt := txB_le _ hok
  have e4 : (Fo.cons k n ks .nil).cnt = ks.cnt + 0 + 1 := rfl
  have ea : (baL (Lib.decDigits a.toNat)).size ≤ 9 := by rw [Lib.size_eq, baL_list]; exact hla
  have eb : (baL (Lib.decDigits b.toNat)).size ≤ 9 := by rw [Lib.size_eq, baL_list]; exact hlb
  have et : (txS k n ks).size ≤ 1400 := by rw [txS_size]; show (txB _).length ≤ _; omega
  have DA := Lib.hid (fun w => ((by
    have h := ref_digits a.toNat (by omega) w
    rw [Int.toNat_of_nonneg wa.1] at h
    exact h.mono (fun e w' h => by
      obtain ⟨h1, s, h2, h3⟩ := h
      rw [ba_ext (h2.trans (baL_list _).symm)] at h3
      exact ⟨h3, h1⟩)) : Calls Tryz.prog 49 #[.int .i64 a] w fun e w' => e = .returned (.string (baL (Lib.decDigits a.toNat))) ∧ w = w'))
  have DB := Lib.hid (fun w => ((by
    have h := ref_digits b.toNat (by omega) w
    rw [Int.toNat_of_nonneg wb.1] at h
    exact h.mono (fun e w' h => by
      obtain ⟨h1, s, h2, h3⟩ := h
      rw [ba_ext (h2.trans (baL_list _).symm)] at h3
      exact ⟨h3, h1⟩)) : Calls Tryz.prog 49 #[.int .i64 b] w fun e w' => e = .returned (.string (baL (Lib.decDigits b.toNat))) ∧ w = w'))
  have TX := Lib.hid (fun w' (hb : Below w0.heap.size w0 w') => r23_text 79 ks (.slice p m c) k n lim w' hN (by decide) ((hK.below hl hB0).carry (hb.mono (by omega))) (by have := hb.size; omega) hok)
  unfold lnS
  generalize baL (Lib.decDigits a.toNat) = u at *
  generalize baL (Lib.decDigits b.toNat) = x at *
  generalize txS k n ks = y at *
  have z1 : (u ++ ⟨#[32]⟩ : ByteArray).size ≤ 10 := by rw [ByteArray.size_append]; show u.size + 1 ≤ 10; omega
  have A1 : ∀ wx : World, (Op.stringOp .add u ⟨#[32]⟩).run Tryz.prog wx = .ok (.string (u ++ ⟨#[32]⟩)) wx := fun wx => run_string_add_sum wx _ _ (by show u.size + 1 ≤ _; omega)
  generalize (u ++ ⟨#[32]⟩ : ByteArray) = u1 at *
  have z2 : (u1 ++ x).size ≤ 19 := by rw [ByteArray.size_append]; omega
  have A2 : ∀ wx : World, (Op.stringOp .add u1 x).run Tryz.prog wx = .ok (.string (u1 ++ x)) wx := fun wx => run_string_add_sum wx _ _ (by omega)
  generalize u1 ++ x = u2 at *
  have z3 : (u2 ++ ⟨#[32]⟩ : ByteArray).size ≤ 20 := by rw [ByteArray.size_append]; show u2.size + 1 ≤ 20; omega
  have A3 : ∀ wx : World, (Op.stringOp .add u2 ⟨#[32]⟩).run Tryz.prog wx = .ok (.string (u2 ++ ⟨#[32]⟩)) wx := fun wx => run_string_add_sum wx _ _ (by show u2.size + 1 ≤ _; omega)
  generalize (u2 ++ ⟨#[32]⟩ : ByteArray) = u3 at *
  have A4 : ∀ wx : World, (Op.stringOp .add u3 y).run Tryz.prog wx = .ok (.string (u3 ++ y)) wx := fun wx => run_string_add_sum wx _ _ (by omega)
  generalize u3 ++ y = u4 at *
  have HW0 := Lib.hid hw0
  have MK := Lib.hid (fun w' (hb : Below w0.heap.size w0 w') => (show w'.cell? ⟨W.heap.size, 0, none⟩ = some (.int .i64 a) ∧ w'.cell? ⟨W.heap.size, 1, none⟩ = some (.int .i64 b) ∧ w'.cell? ⟨W.heap.size, 2, none⟩ = some (.int .i64 k) ∧ w'.cell? ⟨W.heap.size, 3, none⟩ = some (.int .i64 n) ∧ w'.cell? ⟨W.heap.size, 4, none⟩ = some (.slice p m c) ∧ Below w0.heap.size w0 w' from by
    obtain ⟨x0, x1, x2, x3, x4⟩ := cells5 ((hb.block W.heap.size (by omega)).trans r0)
    exact ⟨x0, x1, x2, x3, x4, hb⟩))
  have KP := Lib.hid (fun (w1 w' : World) (hS : w1.cell? ⟨W.heap.size, 0, none⟩ = some (.int .i64 a) ∧ w1.cell? ⟨W.heap.size, 1, none⟩ = some (.int .i64 b) ∧ w1.cell? ⟨W.heap.size, 2, none⟩ = some (.int .i64 k) ∧ w1.cell? ⟨W.heap.size, 3, none⟩ = some (.int .i64 n) ∧ w1.cell? ⟨W.heap.size, 4, none⟩ = some (.slice p m c) ∧ Below w0.heap.size w0 w1) (hb : Below w1.heap.size w1 w') => MK.out w' (hS.2.2.2.2.2.trans (hb.mono hS.2.2.2.2.2.size)))
  have HBW := Lib.hid hB0
  clear hw0 hK hok r0 hB0 z1 z2 z3 ea eb et hla hlb hlt e4
  go_enter Tryz.func28, Tryz.ntmps28
  go_wp2_with fail
  rw [← HW0.out]
  generalize hX : W.heap.size = X at *
  go_region_held3 (fun w' => w'.cell? ⟨X, 0, none⟩ = some (.int .i64 a) ∧ w'.cell? ⟨X, 1, none⟩ = some (.int .i64 b) ∧ w'.cell? ⟨X, 2, none⟩ = some (.int .i64 k) ∧ w'.cell? ⟨X, 3, none⟩ = some (.int .i64 n) ∧ w'.cell? ⟨X, 4, none⟩ = some (.slice p m c) ∧ Below w0.heap.size w0 w') (first | exact MK.out _ ((Below.refl _ _).drew) | assumption | (refine KP.out _ _ ?_ hb; first | assumption | exact MK.out _ ((Below.refl _ _).drew))) (first | (go_at_call 49; (first | with_reducible refine (DA.out _).mono ?_ | with_reducible refine (DB.out _).mono ?_); rintro e w' ⟨rfl, rfl⟩) | (go_at_call 50; (with_reducible refine (TX.out _ (by go_split_ands; assumption)).mono ?_); rintro e w' ⟨rfl, hb⟩))
  rename_i hSS
  obtain ⟨_, _, _, _, _, hBB⟩ := hSS
  go_wp2_with fail
  go_ret
  rw [← hX] at *
  exact ⟨rfl, HBW.out.trans (hBB.mono HBW.out.size)⟩
end Go.Proofs.YtafmiilkdhdngaaGreatDoor
/- Reference 25: Text, Check. -/
namespace Go.Proofs.YtafmiilkdhdngaaGreatDoor
open Go.ChangeShapes Go.WideShapes Go.ChangeAt Go.RowKit
set_option linter.unusedVariables false
set_option linter.unusedSimpArgs false
attribute [local go_sem ↓] Go.wp_at_zero Go.wp_at_succ
theorem wtl_len {l : List En} (h : ∀ e ∈ l, GoodE e) : (wtl l).length ≤ l.length * 1101 := by
  induction l with
  | nil => exact Nat.le_refl _
  | cons e l ih =>
    have h1 := ih (fun x hx => h x (List.mem_cons_of_mem _ hx))
    obtain ⟨_, _, h2⟩ := ln_ent (s := baL (lnE e)) (baL_list _) (h e (List.mem_cons_self ..)).2
    rw [Lib.size_eq, baL_list] at h2
    rw [wtl, List.length_append, List.length_cons, List.length_cons]
    omega
set_option maxRecDepth 100000 in
set_option maxHeartbeats 8000000 in
theorem r25_text (v : Value) (l : List En) (lim : Nat) (W : World) (h : RowN W lim v l) (hlim : lim ≤ W.heap.size) (hn : l.length ≤ 100000) (hg : ∀ e ∈ l, GoodE e) :
    Calls Tryz.prog 11 #[v] W fun e w' => ∃ s : ByteArray, e = .returned (.string s) ∧ s.data.toList = wtx (sortN l) ∧ Below W.heap.size W w' := by
  have SO := Lib.hid (r24_sort v l lim W h hlim hn)
  obtain ⟨p, c, rfl, hlc, hcm⟩ := h.form
  have HG := Lib.hid (fun e (he : e ∈ sortN l) => hg e (mem_sortN he))
  have hml := sortN_len l
  obtain ⟨m, hm⟩ : ∃ m, sortN l = m := ⟨_, rfl⟩
  obtain ⟨n, hnl⟩ : ∃ n, l.length = n := ⟨_, rfl⟩
  rw [hm] at SO HG hml ⊢
  rw [hnl] at SO hml hn ⊢
  have HML := Lib.hid hml
  have HBD := Lib.hid (fun i => show (wtx (m.take i)).length ≤ 11 + i * 1101 from by
    have h1 := wtl_len (l := m.take i) (fun e he => HG.out e (List.mem_of_mem_take he))
    have h2 : (m.take i).length ≤ i := by rw [List.length_take]; omega
    have h3 : (wtx (m.take i)).length = 11 + (wtl (m.take i)).length := by rw [wtx, List.length_append]; rfl
    have h4 : (m.take i).length * 1101 ≤ i * 1101 := Nat.mul_le_mul_right _ h2
    omega)
  have HLIM := Lib.hid hlim
  clear h hlim hg hlc hcm hm hml hnl
  go_enter Tryz.func11, Tryz.ntmps11
  go_wp2_with fail
  refine SO.out.mono ?_
  rintro e w1 ⟨v', rfl, hO, hb1⟩
  have hz1 := hb1.size
  have hR := hO.rowN (Nat.le_trans HLIM.out hz1)
  obtain ⟨p', c', rfl, hlc', hcm'⟩ := hR.form
  have HR := Lib.hid hR
  have HB1 := Lib.hid hb1
  rw [HML.out] at hlc' ⊢
  have hcc : c' ≤ 9223372036854775807 := by unfold maxLen at hcm'; omega
  clear hO hR hb1 hcm' SO
  go_wp2_with fail
  go_loopw [3, 5] (fun x j wr => ∃ (i : Nat) (s : ByteArray), x = .string s ∧ j = .int .i64 i ∧ i ≤ n ∧ Hid (s.data.toList = wtx (m.take i)) ∧ Hid (Below w1.heap.size w1 wr)) (fun _ j _ => n - (intOf j).toNat)
  case atStart => exact ⟨0, _, rfl, rfl, by omega, Lib.hid rfl, Lib.hid (Below.refl _ _)⟩
  case round =>
    obtain ⟨i, s, rfl, rfl, hi, HS, HB⟩ := hrel
    by_cases hlt : i < n
    case neg =>
      obtain rfl : i = n := by omega
      have d1 : decide ((i : Int) < (i : Int)) = false := decide_eq_false (by omega)
      have E := Lib.hid (show m.take i = m by rw [← HML.out, List.take_length])
      go_wp2_with fail
      go_ret
      exact ⟨s, rfl, by rw [← E.out]; exact HS.out, HB1.out.trans (HB.out.mono hz1)⟩
    case pos =>
      have d1 : decide ((i : Int) < (n : Int)) = true := decide_eq_true (by omega)
      have d1' : decide (i < n) = true := decide_eq_true hlt
      obtain ⟨wu, rfl⟩ : ∃ wu, wu = wr := ⟨_, rfl⟩
      obtain ⟨e, he⟩ : ∃ e, m[i]? = some e := ⟨m[i]'(by have := HML.out; omega), List.getElem?_eq_getElem (by have := HML.out; omega)⟩
      obtain ⟨gb, o, rfl, hb, sv, y0, y1, y2, y3, y4, hK⟩ := (HR.out.carry HB.out).get he
      obtain ⟨sp, sm, sc, rfl, -, -, hsm⟩ := hK.shape
      have hge := HG.out e (List.mem_of_getElem? he)
      obtain ⟨⟨ha1, ha2⟩, hb01, hck, hna⟩ := fori_zero hge.2
      obtain ⟨hbg, hok⟩ := chk_okT hck
      have hbz := HB.out.size
      have LN := r24_line e.ks (.slice sp sm sc) e.a e.b e.k e.n w1.heap.size wu (by unfold bigT at hbg; omega) hK (by omega) (by omega) (by omega) hok
      have hss : s.size ≤ 11 + i * 1101 := by rw [Lib.size_eq, HS.out]; exact HBD.out i
      obtain ⟨x, hx⟩ : ∃ x, lnS e.a e.b e.k e.n e.ks = x := ⟨_, rfl⟩
      have hxl : x.data.toList = lnE e := by rw [← hx]; exact lnS_list _ _ _ _ _
      have hxs : x.size ≤ 1100 := (ln_ent (s := x) hxl hge.2).2.2
      rw [hx] at LN
      have A1 : ∀ wx : World, (Op.stringOp .add s x).run Tryz.prog wx = .ok (.string (s ++ x)) wx := fun wx => run_string_add_sum wx _ _ (by omega)
      have A2 : ∀ wx : World, (Op.stringOp .add (s ++ x) ⟨#[10]⟩).run Tryz.prog wx = .ok (.string (s ++ x ++ ⟨#[10]⟩)) wx := fun wx => run_string_add_sum wx _ _ (by rw [ByteArray.size_append]; show s.size + x.size + 1 ≤ _; omega)
      have STEP := Lib.hid (show (s ++ x ++ ⟨#[10]⟩ : ByteArray).data.toList = wtx (m.take (i + 1)) by
        rw [ba_app, ba_app, HS.out, hxl, show wtx (m.take (i + 1)) = headB ++ wtl (m.take (i + 1)) from rfl, wtl_take he, show wtx (m.take i) = headB ++ wtl (m.take i) from rfl, List.append_assoc, List.append_assoc])
      generalize s ++ x = s1 at *
      generalize (s1 ++ ⟨#[10]⟩ : ByteArray) = s2 at *
      obtain ⟨ea, eb, ek, em, eks⟩ := e
      simp only at y0 y1 y2 y3 LN
      have hiI : (i : Int) < (n : Int) := by omega
      have hi0 : (0 : Int) ≤ (i : Int) := by omega
      clear hK hsm hge ha1 ha2 hb01 hck hna hbg hok hss hxs hxl hx he hb HS
      go_wp2_with fail
      refine LN.mono ?_
      rintro e w3 ⟨rfl, hb3⟩
      have HB3 := Lib.hid (HB.out.trans (hb3.mono HB.out.size))
      clear LN hb3 y0 y1 y2 y3 y4
      go_wp2_with fail
      go_roundw
      case rel => exact ⟨i + 1, _, rfl, by go_num, by omega, STEP, HB3⟩
      case measure => simp only [intOf]; omega
end Go.Proofs.YtafmiilkdhdngaaGreatDoor
