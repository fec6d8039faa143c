/- Put together by program (merge2.py): Wrc Shapd. -/
import Derived.Deep.RegionHeld
import Derived.Deep.DrawnRows
import Derived.HandedShaped
import Derived.Handed
import Derived.Shelf.Vars
import Derived.Test.YtafmiilkdhdngaaGreatDoorD11
import Derived.Test.YtafmiilkdhdngaaGreatDoorR28
/- Reference 25: Check. -/
namespace Go.Proofs.YtafmiilkdhdngaaGreatDoor
open Go.ChangeShapes Go.WideShapes Go.ChangeAt Go.RowKit
set_option linter.unusedVariables false
set_option linter.unusedSimpArgs false
attribute [local go_sem ↓] Go.wp_at_zero Go.wp_at_succ
/-- The entries ahead of one. -/
theorem RowN.take {w : World} {lim : Nat} {p : Option Addr} {m c : Nat} {l : List En} (h : RowN w lim (.slice p m c) l) (i : Nat) (hi : i ≤ l.length) : RowN w lim (.slice p i c) (l.take i) := by
  obtain ⟨p', c', e, h1, h2, h3⟩ := h
  cases e
  have hl : (l.take i).length = i := by rw [List.length_take]; omega
  refine ⟨p, c, by rw [hl], by omega, h2, fun j x hj => h3 j x ?_⟩
  rw [List.getElem?_take] at hj
  split at hj
  · exact hj
  · cases hj
set_option maxRecDepth 100000 in
set_option maxHeartbeats 8000000 in
theorem r25_check (v : Value) (l : List En) (lim : Nat) (W : World) (h : RowN W lim v l) (hlim : lim ≤ W.heap.size) (hn : l.length ≤ 100000) (hE : ∀ e ∈ l, e.inr ∧ e.ks.cnt + 1 ≤ 1048576) :
    Calls Tryz.prog 9 #[v] W fun e w' => e = .returned (.int .i64 (wErr l)) ∧ Below W.heap.size W w' := by
  obtain ⟨p, c, rfl, hlc, hcm⟩ := h.form
  obtain ⟨n, hnl⟩ : ∃ n, l.length = n := ⟨_, rfl⟩
  have HNL := Lib.hid hnl
  rw [hnl] at h hlc hn ⊢
  have HIN := Lib.hid h
  have HE := Lib.hid hE
  have TX := Lib.hid (fun (w' : World) (hb : Below W.heap.size W w') (hg : ∀ e ∈ l, GoodE e) => r25_text _ l lim w' (h.carry (hb.mono hlim)) (Nat.le_trans hlim hb.size) (by omega) hg)
  have hcc : c ≤ 9223372036854775807 := by unfold maxLen at hcm; omega
  clear h hE hnl hcm
  go_enter Tryz.func9, Tryz.ntmps9
  go_wp2_with fail
  go_loopw [3] (fun j wr => ∃ i : Nat, j = .int .i64 i ∧ i ≤ n ∧ Hid (∀ (j : Nat) (e : En), j < i → l[j]? = some e → chkE e = 0) ∧ Hid (Below W.heap.size W wr)) (fun j _ => n - (intOf j).toNat)
  case atStart => exact ⟨0, rfl, by omega, Lib.hid (fun j e hj => by omega), Lib.hid (Below.refl _ _)⟩
  case round =>
    obtain ⟨i, rfl, hi, HC, HB⟩ := hrel
    by_cases hlt : i < n
    case pos =>
      have d1 : decide ((i : Int) < (n : Int)) = true := decide_eq_true (by omega)
      have d1' : decide (i < n) = true := decide_eq_true hlt
      obtain ⟨wu, rfl⟩ : ∃ wu, wu = wr := ⟨_, rfl⟩
      obtain ⟨e, he⟩ : ∃ e, l[i]? = some e := ⟨l[i]'(by have := HNL.out; omega), List.getElem?_eq_getElem (by have := HNL.out; omega)⟩
      obtain ⟨gb, o, rfl, hb, s, y0, y1, y2, y3, y4, hK⟩ := (HIN.out.carry (HB.out.mono hlim)).get he
      obtain ⟨sp, sm, sc, rfl, -, -, hsm⟩ := hK.shape
      obtain ⟨hinr, hcnt⟩ := HE.out e (List.mem_of_getElem? he)
      have STOP := Lib.hid (fun hz => badE_at he (fun j y h1 h2 => HC.out j y h1 h2) hz)
      have STEP := Lib.hid (fun (hz : chkE e = 0) => (show ∀ (j : Nat) (y : En), j < i + 1 → l[j]? = some y → chkE y = 0 from fun j y hj hy => by
        rcases Nat.lt_or_eq_of_le (Nat.le_of_lt_succ hj) with h | rfl
        · exact HC.out j y h hy
        · rw [he] at hy; cases hy; exact hz))
      obtain ⟨zc, hzc⟩ : ∃ z, chkE e = z := ⟨_, rfl⟩
      obtain ⟨ea, eb, ek, em, eks⟩ := e
      simp only [En.inr] at y0 y1 y2 y3 hK hsm hinr hcnt
      obtain ⟨wa, wb, wk, wn, wf⟩ := hinr
      have hbz := HB.out.size
      have CH := Lib.hid (fun w' (hb' : Below wu.heap.size wu w') => (show Calls Tryz.prog 23 #[.agg #[.int .i64 ea, .int .i64 eb, .int .i64 ek, .int .i64 em, .slice sp sm sc]] w' fun e w'' => e = .returned (.int .i64 zc) ∧ Below w'.heap.size w' w'' from by
        have := r24_check eks (.slice sp sm sc) ea eb ek em lim w' (by omega) (hK.below (by omega) hb') (by have := hb'.size; omega) wa wk wn wf
        rw [show fori ea eb em (chkd ek em eks) = zc from hzc] at this
        exact this))
      have XC := Lib.hid (fun w' (hb' : Below wu.heap.size wu w') => (show w'.cell? ⟨gb, o + i * 5, none⟩ = some (.int .i64 ea) ∧ w'.cell? ⟨gb, o + i * 5 + 1, none⟩ = some (.int .i64 eb) ∧ w'.cell? ⟨gb, o + i * 5 + 2, none⟩ = some (.int .i64 ek) ∧ w'.cell? ⟨gb, o + i * 5 + 3, none⟩ = some (.int .i64 em) ∧ w'.cell? ⟨gb, o + i * 5 + 4, none⟩ = some (.slice sp sm sc) from
        ⟨(hb'.cell (p := ⟨gb, o + i * 5, none⟩) (show gb < _ by omega)).trans y0, (hb'.cell (p := ⟨gb, o + i * 5 + 1, none⟩) (show gb < _ by omega)).trans y1, (hb'.cell (p := ⟨gb, o + i * 5 + 2, none⟩) (show gb < _ by omega)).trans y2, (hb'.cell (p := ⟨gb, o + i * 5 + 3, none⟩) (show gb < _ by omega)).trans y3, (hb'.cell (p := ⟨gb, o + i * 5 + 4, none⟩) (show gb < _ by omega)).trans y4⟩))
      have hiI : (i : Int) < (n : Int) := by omega
      have hi0 : (0 : Int) ≤ (i : Int) := by omega
      rw [hzc] at STOP STEP
      clear hzc hK hsm wa wb wk wn wf hcnt he hb
      go_wp2_with fail
      refine (CH.out wu (Below.refl _ _)).mono ?_
      rintro e w3 ⟨rfl, hb3⟩
      have H3 := Lib.hid hb3
      have HB3 := Lib.hid (HB.out.trans (hb3.mono HB.out.size))
      clear hb3 y0 y1 y2 y3 y4
      by_cases hz : zc = 0
      case pos =>
        have d2 : (zc != 0) = false := by simp [hz]
        have ST2 := Lib.hid (STEP.out hz)
        clear STOP STEP XC CH hz
        go_wp2_with fail
        go_roundw
        case rel => exact ⟨i + 1, by go_num, by omega, ST2, HB3⟩
        case measure => simp only [intOf]; omega
      case neg =>
        have d2 : (zc != 0) = true := by simp [hz]
        have ST2 := Lib.hid (STOP.out hz)
        have HZ := Lib.hid hz
        obtain ⟨y0, y1, y2, y3, y4⟩ := XC.out w3 H3.out
        have C3 := CH.out w3 H3.out
        clear STOP STEP XC CH hz
        go_wp2_with fail
        refine C3.mono ?_
        rintro e w4 ⟨rfl, hb4⟩
        have HB4 := Lib.hid (HB3.out.trans (hb4.mono HB3.out.size))
        clear hb4 C3 y0 y1 y2 y3 y4
        go_wp2_with fail
        go_ret
        exact ⟨by rw [wErr_bad (by rw [ST2.out]; exact HZ.out), ST2.out]; rfl, HB4.out⟩
    case neg =>
      obtain rfl : i = n := by omega
      have d1 : decide ((i : Int) < (i : Int)) = false := decide_eq_false (by omega)
      have hall : ∀ e ∈ l, chkE e = 0 := fun e he => by
        obtain ⟨j, hj⟩ := List.mem_iff_getElem?.1 he
        exact HC.out j e (by have := (List.getElem?_eq_some_iff.1 hj).1; have := HNL.out; omega) hj
      have BZ := Lib.hid (show badE l = 0 from badE_zero hall)
      have GD := Lib.hid (show ∀ e ∈ l, GoodE e from fun e he => good_of (hall e he))
      clear HC hall
      obtain ⟨wv, rfl⟩ : ∃ wv, wv = wr := ⟨_, rfl⟩
      go_wp2_with fail
      go_loopw [4] (fun j wr => ∃ i2 : Nat, j = .int .i64 i2 ∧ i2 ≤ i ∧ Hid (∀ (j : Nat) (e : En), j < i2 → l[j]? = some e → hasE (l.take j) e.a e.b = false) ∧ Hid (Below W.heap.size W wr)) (fun j _ => i - (intOf j).toNat)
      case atStart => exact ⟨0, rfl, by omega, Lib.hid (fun j e hj => by omega), HB⟩
      case round =>
        obtain ⟨i2, rfl, hi2, HA, HB2⟩ := hrel
        obtain ⟨wu, rfl⟩ : ∃ wu, wu = wr := ⟨_, rfl⟩
        by_cases hlt2 : i2 < i
        case neg =>
          obtain rfl : i2 = i := by omega
          have d3 : decide ((i2 : Int) < (i2 : Int)) = false := decide_eq_false (by omega)
          have AP := Lib.hid (show Apart l from ahead_apart.1 (fun j e hj => HA.out j e (by have := (List.getElem?_eq_some_iff.1 hj).1; have := HNL.out; omega) hj))
          have T := TX.out wu HB2.out GD.out
          clear HA
          go_wp2_with fail
          refine T.mono ?_
          rintro e w3 ⟨s, rfl, hs, hb3⟩
          have HB3 := Lib.hid (HB2.out.trans (hb3.mono HB2.out.size))
          have hsz : s.size = (wtx (sortN l)).length := by rw [Lib.size_eq, hs]
          have HSZ := Lib.hid hsz
          clear hs hb3 T hsz
          by_cases hbig : 65536 < s.size
          · have d4 : decide ((s.size : Int) > 65536) = true := decide_eq_true (by omega)
            have d4' : decide (65536 < s.size) = true := decide_eq_true hbig
            go_wp2_with fail
            go_ret
            exact ⟨by rw [wErr_big BZ.out AP.out (by rw [← HSZ.out]; exact hbig)]; rfl, HB3.out⟩
          · have d4 : decide ((s.size : Int) > 65536) = false := decide_eq_false (by omega)
            have d4' : decide (65536 < s.size) = false := decide_eq_false hbig
            go_wp2_with fail
            go_ret
            exact ⟨by rw [wErr_ok BZ.out AP.out (by rw [← HSZ.out]; exact hbig)]; rfl, HB3.out⟩
        case pos =>
          have d3 : decide ((i2 : Int) < (i : Int)) = true := decide_eq_true (by omega)
          have d3' : decide (i2 < i) = true := decide_eq_true hlt2
          obtain ⟨e, he⟩ : ∃ e, l[i2]? = some e := ⟨l[i2]'(by have := HNL.out; omega), List.getElem?_eq_getElem (by have := HNL.out; omega)⟩
          obtain ⟨gb, o, rfl, hb, s, y0, y1, y2, y3, y4, hK⟩ := (HIN.out.carry (HB2.out.mono hlim)).get he
          have hbz := HB2.out.size
          have HS := Lib.hid (fun (w' : World) (hb' : Below wu.heap.size wu w') => r25_has (.slice (some ⟨gb, o, none⟩) i2 c) (l.take i2) e.a e.b lim w' (((HIN.out.carry (HB2.out.mono hlim)).take i2 (by have := HNL.out; omega)).below (by omega) hb') (by have := hb'.size; omega) (by rw [List.length_take]; omega))
          have STOP := Lib.hid (fun (hz : hasE (l.take i2) e.a e.b = true) => (show ¬ Apart l from fun hap => by have := ahead_apart.2 hap i2 e he; rw [hz] at this; cases this))
          have STEP := Lib.hid (fun (hz : hasE (l.take i2) e.a e.b = false) => (show ∀ (j : Nat) (y : En), j < i2 + 1 → l[j]? = some y → hasE (l.take j) y.a y.b = false from fun j y hj hy => by
            rcases Nat.lt_or_eq_of_le (Nat.le_of_lt_succ hj) with h | rfl
            · exact HA.out j y h hy
            · rw [he] at hy; cases hy; exact hz))
          have MK := Lib.hid (fun w' (hb2 : Below wu.heap.size wu w') => (show w'.cell? ⟨gb, o + i2 * 5, none⟩ = some (.int .i64 e.a) ∧ w'.cell? ⟨gb, o + i2 * 5 + 1, none⟩ = some (.int .i64 e.b) ∧ Below wu.heap.size wu w' from
            ⟨(hb2.cell (p := ⟨gb, o + i2 * 5, none⟩) (show gb < _ by omega)).trans y0, (hb2.cell (p := ⟨gb, o + i2 * 5 + 1, none⟩) (show gb < _ by omega)).trans y1, hb2⟩))
          have KP := Lib.hid (fun (wa w' : World) (hS : wa.cell? ⟨gb, o + i2 * 5, none⟩ = some (.int .i64 e.a) ∧ wa.cell? ⟨gb, o + i2 * 5 + 1, none⟩ = some (.int .i64 e.b) ∧ Below wu.heap.size wu wa) (hb : Below wa.heap.size wa w') => MK.out w' (hS.2.2.trans (hb.mono hS.2.2.size)))
          obtain ⟨z, hz⟩ : ∃ z, hasE (l.take i2) e.a e.b = z := ⟨_, rfl⟩
          rw [hz] at HS STOP STEP
          obtain ⟨ea, eb, ek, em, eks⟩ := e
          simp only at y0 y1 HS MK KP
          have hiI : (i2 : Int) < (i : Int) := by omega
          have hi0 : (0 : Int) ≤ (i2 : Int) := by omega
          have hic : i2 ≤ c := by omega
          have hicI : (i2 : Int) ≤ (c : Int) := by omega
          clear hK he hb hz y0 y1 y2 y3 y4 HA
          go_wp2_with fail
          go_region_held3 (fun w' => w'.cell? ⟨gb, o + i2 * 5, none⟩ = some (.int .i64 ea) ∧ w'.cell? ⟨gb, o + i2 * 5 + 1, none⟩ = some (.int .i64 eb) ∧ Below wu.heap.size wu w') (first | exact MK.out _ ((Below.refl _ _).drew) | assumption | (refine KP.out _ _ ?_ hb; first | assumption | exact MK.out _ ((Below.refl _ _).drew))) (first | (go_at_call 24; (with_reducible refine (HS.out _ (by go_split_ands; assumption)).mono ?_); rintro e w' ⟨rfl, hb⟩))
          rename_i hEnd
          obtain ⟨-, -, hBB⟩ := hEnd
          have HB3 := Lib.hid (HB2.out.trans (hBB.mono HB2.out.size))
          clear hBB MK KP HS
          cases z
          case true =>
            have NA := Lib.hid (STOP.out rfl)
            clear STOP STEP
            go_wp2_with fail
            go_ret
            exact ⟨by rw [wErr_twice BZ.out NA.out]; rfl, HB3.out⟩
          case false =>
            have ST2 := Lib.hid (STEP.out rfl)
            clear STOP STEP
            go_wp2_with fail
            go_roundw
            case rel => exact ⟨i2 + 1, by go_num, by omega, ST2, HB3⟩
            case measure => simp only [intOf]; omega
end Go.Proofs.YtafmiilkdhdngaaGreatDoor
/- A contract over a listed variable that is handed the world's shape, too; bytealg.MaxLen holds some int. -/
namespace Go.Proofs.YtafmiilkdhdngaaGreatDoor
open Go.ChangeShapes Go.WideShapes Go.ChangeAt Go.RowKit
variable {H : Type} {enc : TypeId × Value → H}

theorem max_int {W : World} (h : W.ShapedOpen Tryz.prog) : ∃ m, W.cell? ⟨0, 0, none⟩ = some (.int .i64 m) :=
  cell_of_shapedOpen_int (t := 3) (zero := #[.int .i64 0]) h (of_decide_eq_true (by kernel_rfl)) (by kernel_rfl) rfl (by kernel_rfl) (by kernel_rfl) Tryz.underlying3

end Go.Proofs.YtafmiilkdhdngaaGreatDoor
