/- Put together by program (merge2.py): Rso. -/
import Derived.Deep.DeepCutAuto
import Derived.Deep.CutBlock
import Derived.BigQuiet
import Derived.Test.YtafmiilkdhdngaaGreatDoorR20
/- Reference 24: Sort. -/
namespace Go.Proofs.YtafmiilkdhdngaaGreatDoor
open Go.ChangeShapes Go.WideShapes Go.ChangeAt Go.RowKit
set_option linter.unusedVariables false
set_option linter.unusedSimpArgs false
attribute [local go_sem ↓] Go.wp_at_zero Go.wp_at_succ
theorem sortN_snoc (l : List En) (i : Nat) (e : En) (he : l[i]? = some e) : sortN (l.take (i + 1)) = Srt.ins ent e (sortN (l.take i)) := by
  rw [List.take_add_one, he]
  exact Srt.isort_snoc _ _
theorem sortN_up (l : List En) : Srt.Up ent (sortN l) := Srt.isort_up ent_ord l
set_option maxRecDepth 100000 in
set_option maxHeartbeats 8000000 in
theorem r24_sort (v : Value) (l : List En) (lim : Nat) (W : World) (h : RowN W lim v l) (hlim : lim ≤ W.heap.size) (hn : l.length ≤ 100000) :
    Calls Tryz.prog 13 #[v] W fun e w' => ∃ v', e = .returned v' ∧ OwnE w' lim W.heap.size v' (sortN l) ∧ Below W.heap.size W w' := by
  obtain ⟨p, c, rfl, hlc, hcm⟩ := h.form
  obtain ⟨n, hnl⟩ : ∃ n, l.length = n := ⟨_, rfl⟩
  rw [hnl] at h hlc hn ⊢
  have HIN := Lib.hid h
  have HNL := Lib.hid hnl
  have hcc : c ≤ 9223372036854775807 := by unfold maxLen at hcm; omega
  clear h hnl hcm
  go_enter Tryz.func13, Tryz.ntmps13
  go_wp2_with fail
  go_loopw [3, 4, 5] (fun x j _ wr => ∃ (i : Nat) (vv : Value), j = .int .i64 i ∧ vv = x ∧ i ≤ n ∧ Hid (OwnE wr lim W.heap.size vv (sortN (l.take i))) ∧ Hid (Below W.heap.size W wr)) (fun _ j _ _ => n - (intOf j).toNat)
  case atStart => exact ⟨0, _, rfl, rfl, by omega, Lib.hid (OwnE.nil _ _ _), Lib.hid (Below.refl _ _)⟩
  case round =>
    obtain ⟨i, vv, rfl, rfl, hi, HO, HBW⟩ := hrel
    by_cases hlt : i < n
    case neg =>
      obtain rfl : i = n := by omega
      have d1 : decide ((i : Int) < (i : Int)) = false := decide_eq_false (by omega)
      have E := Lib.hid (show l.take i = l by rw [← HNL.out, List.take_length])
      go_wp2_with fail
      go_ret
      exact ⟨_, rfl, by rw [← E.out]; exact HO.out, HBW.out⟩
    case pos =>
      have d1 : decide ((i : Int) < (n : Int)) = true := decide_eq_true (by omega)
      have d1' : decide (i < n) = true := decide_eq_true hlt
      obtain ⟨wu, rfl⟩ : ∃ wu, wu = wr := ⟨_, rfl⟩
      obtain ⟨e, he⟩ : ∃ e, l[i]? = some e := ⟨l[i]'(by have := HNL.out; omega), List.getElem?_eq_getElem (by have := HNL.out; omega)⟩
      obtain ⟨b, o, rfl, hb, s, x0, x1, x2, x3, x4, hK⟩ := (HIN.out.carry (HBW.out.mono hlim)).get he
      obtain ⟨sp, sm, sc, rfl, -, -, hsm⟩ := hK.shape
      have hup := sortN_up (l.take i)
      have hLl : (sortN (l.take i)).length = i := by rw [sortN_len, List.length_take]; have := HNL.out; omega
      have hsn := sortN_snoc l i e he
      have hbz := HBW.out.size
      generalize sortN (l.take i) = L at *
      have HUP := Lib.hid hup
      have HSN := Lib.hid hsn
      have hlc2 : lim ≤ wu.heap.size := by omega
      obtain ⟨ea, eb, ek, em, eks⟩ := e
      simp only at x0 x1 x2 x3 hK hsm
      have CL := Lib.hid (fun w' (hb' : Below wu.heap.size wu w') => (show w'.cell? ⟨b, o + i * 5, none⟩ = some (.int .i64 ea) ∧ w'.cell? ⟨b, o + i * 5 + 1, none⟩ = some (.int .i64 eb) ∧ w'.cell? ⟨b, o + i * 5 + 2, none⟩ = some (.int .i64 ek) ∧ w'.cell? ⟨b, o + i * 5 + 3, none⟩ = some (.int .i64 em) ∧ w'.cell? ⟨b, o + i * 5 + 4, none⟩ = some (.slice sp sm sc) from
        ⟨(hb'.cell (p := ⟨b, o + i * 5, none⟩) (show b < _ by omega)).trans x0, (hb'.cell (p := ⟨b, o + i * 5 + 1, none⟩) (show b < _ by omega)).trans x1, (hb'.cell (p := ⟨b, o + i * 5 + 2, none⟩) (show b < _ by omega)).trans x2, (hb'.cell (p := ⟨b, o + i * 5 + 3, none⟩) (show b < _ by omega)).trans x3, (hb'.cell (p := ⟨b, o + i * 5 + 4, none⟩) (show b < _ by omega)).trans x4⟩))
      have KD := Lib.hid (fun w' (hb' : Below wu.heap.size wu w') => hK.below hlc2 hb')
      have hiI : (i : Int) < (n : Int) := by omega
      have hi0 : (0 : Int) ≤ (i : Int) := by omega
      have hform := HO.out.form
      clear hup hsn he hb hK hsm hbz x0 x1 x2 x3 x4
      obtain ⟨vp, vc, hv, hvc, hvm⟩ : ∃ vp vc, vv = .slice vp i vc ∧ i ≤ vc ∧ vc ≤ 9223372036854775807 := by
        rcases hform with ⟨rfl, rfl⟩ | ⟨g, c', rfl, _, _, h1, h2, _⟩
        · simp only [List.length_nil] at hLl; subst hLl; exact ⟨_, _, rfl, Nat.le_refl _, by omega⟩
        · rw [hLl] at h1 ⊢; exact ⟨_, _, rfl, h1, by unfold maxLen at h2; omega⟩
      rw [hv] at hform HO ⊢
      clear hv
      have SRC := Lib.hid (show (i = 0 ∧ vp = none ∧ vc = 0) ∨ ∃ g, vp = some ⟨g, 0, none⟩ ∧ g < wu.heap.size ∧ SrcE wu lim (some ⟨g, 0, none⟩) L by
        rcases hform with ⟨h1, rfl⟩ | ⟨g, c', h1, _, h2, _, _, h3⟩
        · simp only [Value.slice.injEq] at h1; exact .inl ⟨h1.2.1, h1.1, h1.2.2⟩
        · simp only [Value.slice.injEq] at h1; exact .inr ⟨g, h1.1, h2, h3⟩)
      have HLL := Lib.hid hLl
      clear hform hLl
      go_upto_block 2 with fail
      go_cut [5] from 14 to 31 (fun y wc => ∃ k : Nat, y = .int .i64 k ∧ k ≤ i ∧ Hid ((∀ z ∈ L.drop k, ent ⟨ea, eb, ek, em, eks⟩ z = true) ∧ (∀ z ∈ L.take k, ent ⟨ea, eb, ek, em, eks⟩ z = false)) ∧ Hid (Below wu.heap.size wu wc))
      case first =>
        go_wp2_with fail
        go_loopw [5] (fun y wr => ∃ k : Nat, y = .int .i64 k ∧ k ≤ i ∧ Hid (∀ z ∈ L.drop k, ent ⟨ea, eb, ek, em, eks⟩ z = true) ∧ Hid (Below wu.heap.size wu wr)) (fun y _ => (intOf y).toNat)
        case atStart => exact ⟨i, rfl, Nat.le_refl _, Lib.hid (by have := HLL.out; rw [← this, List.drop_length]; intro z hz; cases hz), Lib.hid (Below.refl _ _)⟩
        case round =>
          obtain ⟨k, rfl, hk, HKC, HBi⟩ := hrel
          by_cases hk0 : k = 0
          · subst hk0
            rw [show ((0 : Nat) : Int) = 0 from rfl]
            have d0 : decide ((0 : Int) > 0) = false := rfl
            go_wp2_with fail
            go_quiet (fail)
            go_wp2_with fail
            go_meet
            case rel => exact ⟨0, rfl, Nat.zero_le _, Lib.hid ⟨HKC.out, fun z hz => by simp at hz⟩, Lib.hid (below_drewN HBi.out _)⟩
          · obtain ⟨q, hq⟩ : ∃ q, k = q + 1 := ⟨k - 1, by omega⟩
            have d0 : decide ((k : Int) > 0) = true := decide_eq_true (by omega)
            have d0' : decide (0 < k) = true := decide_eq_true (by omega)
            have v1 : IntKind.i64.wrap ((k : Int) - 1) = (q : Int) := by rw [IntWalk.i64_in _ (by omega)]; omega
            obtain ⟨g, rfl, hg, hsg⟩ : ∃ g, vp = some ⟨g, 0, none⟩ ∧ g < wu.heap.size ∧ SrcE wu lim (some ⟨g, 0, none⟩) L := by
              rcases SRC.out with ⟨h1, _⟩ | h
              · omega
              · exact h
            have hqL : q < L.length := by have := HLL.out; omega
            obtain ⟨y, hy⟩ : ∃ y, L[q]? = some y := ⟨_, List.getElem?_eq_getElem hqL⟩
            obtain ⟨gb, go, ys, hge, y0, y1, y2, y3, y4, hyK⟩ := hsg q y hy
            simp only [Option.some.injEq, Addr.mk.injEq] at hge
            obtain ⟨rfl, rfl, -⟩ := hge
            rw [Nat.zero_add] at y0 y1
            have CEQ := Lib.hid (show ent ⟨ea, eb, ek, em, eks⟩ y = Srt.klt (ea, eb) (y.a, y.b) from rfl)
            have STEP := Lib.hid (fun (he : ent ⟨ea, eb, ek, em, eks⟩ y = true) => (show ∀ z ∈ L.drop q, ent ⟨ea, eb, ek, em, eks⟩ z = true from fun z hz => by
              rw [List.drop_eq_getElem_cons hqL] at hz
              rcases List.mem_cons.1 hz with rfl | hz
              · rw [List.getElem?_eq_getElem hqL] at hy; cases hy; exact he
              · exact HKC.out z (by rw [hq]; exact hz)))
            have STOP := Lib.hid (fun (he : ent ⟨ea, eb, ek, em, eks⟩ y = false) => (show ∀ z ∈ L.take k, ent ⟨ea, eb, ek, em, eks⟩ z = false from fun z hz => by
              rw [hq, List.take_succ_eq_append_getElem hqL] at hz
              rw [List.getElem?_eq_getElem hqL] at hy
              have hu := HUP.out
              rw [← List.take_append_drop (q + 1) L, List.take_succ_eq_append_getElem hqL] at hu
              have hy' : L[q] = y := by cases hy; rfl
              rw [hy'] at hz hu
              exact Srt.up_last ent_ord (List.pairwise_append.1 hu).1 he z hz))
            obtain ⟨ya, yb, yk, yn, yks⟩ := y
            simp only at y0 y1 CEQ
            have MK := Lib.hid (fun w' (hb' : Below wr.heap.size wr w') => (show w'.cell? ⟨b, o + i * 5, none⟩ = some (.int .i64 ea) ∧ w'.cell? ⟨b, o + i * 5 + 1, none⟩ = some (.int .i64 eb) ∧ w'.cell? ⟨g, q * 5, none⟩ = some (.int .i64 ya) ∧ w'.cell? ⟨g, q * 5 + 1, none⟩ = some (.int .i64 yb) ∧ Below wr.heap.size wr w' from by
              obtain ⟨c0, c1, -, -, -⟩ := CL.out w' (HBi.out.trans (hb'.mono HBi.out.size))
              have hb2 := HBi.out.trans (hb'.mono HBi.out.size)
              exact ⟨c0, c1, (hb2.cell (p := ⟨g, q * 5, none⟩) (show g < _ by omega)).trans y0, (hb2.cell (p := ⟨g, q * 5 + 1, none⟩) (show g < _ by omega)).trans y1, hb'⟩))
            have KP := Lib.hid (fun (wa w' : World) (hS : wa.cell? ⟨b, o + i * 5, none⟩ = some (.int .i64 ea) ∧ wa.cell? ⟨b, o + i * 5 + 1, none⟩ = some (.int .i64 eb) ∧ wa.cell? ⟨g, q * 5, none⟩ = some (.int .i64 ya) ∧ wa.cell? ⟨g, q * 5 + 1, none⟩ = some (.int .i64 yb) ∧ Below wr.heap.size wr wa) (hb : Below wa.heap.size wa w') => MK.out w' (hS.2.2.2.2.trans (hb.mono hS.2.2.2.2.size)))
            have CA := Lib.hid (fun w' => r24_ahead ea eb ya yb w')
            have hqI : (q : Int) < (i : Int) := by omega
            have hq0 : (0 : Int) ≤ (q : Int) := by omega
            have hqi : q < i := by omega
            generalize Srt.klt (ea, eb) (ya, yb) = z at *
            have HQ := Lib.hid hq
            clear hy hsg y0 y1 y2 y3 y4 hyK hqL hq hk0
            cases z
            case false =>
              have ST2 := Lib.hid (STOP.out CEQ.out)
              clear STEP STOP CEQ
              go_wp2_with fail
              go_region_held3 (fun w' => w'.cell? ⟨b, o + i * 5, none⟩ = some (.int .i64 ea) ∧ w'.cell? ⟨b, o + i * 5 + 1, none⟩ = some (.int .i64 eb) ∧ w'.cell? ⟨g, q * 5, none⟩ = some (.int .i64 ya) ∧ w'.cell? ⟨g, q * 5 + 1, none⟩ = some (.int .i64 yb) ∧ Below wr.heap.size wr w') (first | exact MK.out _ ((Below.refl _ _).drew) | assumption | (refine KP.out _ _ ?_ hb; first | assumption | exact MK.out _ ((Below.refl _ _).drew))) (first | (go_at_call 30; (with_reducible refine (CA.out _).mono ?_); rintro e w' ⟨rfl, hb⟩))
              rename_i hEnd
              obtain ⟨-, -, -, -, hBB⟩ := hEnd
              have HB2 := Lib.hid (HBi.out.trans (hBB.mono HBi.out.size))
              clear hBB MK KP CA
              go_wp2_with fail
              go_meet
              case rel => exact ⟨k, rfl, hk, Lib.hid ⟨HKC.out, ST2.out⟩, HB2⟩
            case true =>
              have ST2 := Lib.hid (STEP.out CEQ.out)
              clear STEP STOP CEQ
              go_wp2_with fail
              go_region_held3 (fun w' => w'.cell? ⟨b, o + i * 5, none⟩ = some (.int .i64 ea) ∧ w'.cell? ⟨b, o + i * 5 + 1, none⟩ = some (.int .i64 eb) ∧ w'.cell? ⟨g, q * 5, none⟩ = some (.int .i64 ya) ∧ w'.cell? ⟨g, q * 5 + 1, none⟩ = some (.int .i64 yb) ∧ Below wr.heap.size wr w') (first | exact MK.out _ ((Below.refl _ _).drew) | assumption | (refine KP.out _ _ ?_ hb; first | assumption | exact MK.out _ ((Below.refl _ _).drew))) (first | (go_at_call 30; (with_reducible refine (CA.out _).mono ?_); rintro e w' ⟨rfl, hb⟩))
              rename_i hEnd
              obtain ⟨-, -, -, -, hBB⟩ := hEnd
              have HB2 := Lib.hid (HBi.out.trans (hBB.mono HBi.out.size))
              clear hBB MK KP CA
              go_wp2_with fail
              go_roundw
              case rel => exact ⟨q, rfl, by omega, ST2, HB2⟩
              case measure => simp only [intOf]; have := HQ.out; omega
      case rest =>
        obtain ⟨k, rfl, hk, HKC, HBC⟩ := hcut
        have hcz := HBC.out.size
        have hlc : lim ≤ wc.heap.size := by omega
        obtain ⟨T, hT⟩ : ∃ T, L.take k = T := ⟨_, rfl⟩
        obtain ⟨D, hD⟩ : ∃ D, L.drop k = D := ⟨_, rfl⟩
        have hTl : T.length = k := by rw [← hT, List.length_take]; have := HLL.out; omega
        have hDl : D.length = i - k := by rw [← hD, List.length_drop]; have := HLL.out; omega
        have FIN := Lib.hid (fun (vv : Value) (w' : World) (hO : OwnE w' lim wc.heap.size vv ([] ++ T ++ [⟨ea, eb, ek, em, eks⟩] ++ D)) => (show OwnE w' lim W.heap.size vv (sortN (l.take (i + 1))) by
          have hins := Srt.ins_cut (lt := ent) (x := ⟨ea, eb, ek, em, eks⟩) (L := L.take k) (R := L.drop k) HKC.out.2 HKC.out.1
          rw [List.take_append_drop, hT, hD] at hins
          rw [HSN.out, hins]
          have := hO.mono (B' := W.heap.size) (by have := HBW.out.size; omega)
          simpa using this))
        have MS := Lib.hid (fun w' (hb' : Below wc.heap.size wc w') => (show w'.cell? ⟨b, o + i * 5, none⟩ = some (.int .i64 ea) ∧ w'.cell? ⟨b, o + i * 5 + 1, none⟩ = some (.int .i64 eb) ∧ w'.cell? ⟨b, o + i * 5 + 2, none⟩ = some (.int .i64 ek) ∧ w'.cell? ⟨b, o + i * 5 + 3, none⟩ = some (.int .i64 em) ∧ w'.cell? ⟨b, o + i * 5 + 4, none⟩ = some (.slice sp sm sc) ∧ Below wc.heap.size wc w' from by
          obtain ⟨c0, c1, c2, c3, c4⟩ := CL.out w' (HBC.out.trans (hb'.mono hcz))
          exact ⟨c0, c1, c2, c3, c4, hb'⟩))
        have KD2 := Lib.hid (fun w' (hb' : Below wc.heap.size wc w') => KD.out w' (HBC.out.trans (hb'.mono hcz)))
        have HBW2 := Lib.hid (HBW.out.trans (HBC.out.mono HBW.out.size))
        have ST := Lib.hid (fun w' (hb' : Below wc.heap.size wc w') => (show SrcE w' lim vp T from fun u z hz => by
          have hz' : L[u]? = some z := by rw [← hT, List.getElem?_take] at hz; split at hz; exact hz; cases hz
          rcases SRC.out with ⟨h1, _⟩ | ⟨g, hvp, hg, hsg⟩
          · have := (List.getElem?_eq_some_iff.1 hz').1; have := HLL.out; omega
          · obtain ⟨b', o', s', hp', c0, c1, c2, c3, c4, hkk⟩ := hsg u z hz'
            cases hp'
            have hb2 := HBC.out.trans (hb'.mono hcz)
            exact ⟨g, 0, s', hvp, (hb2.cell (p := ⟨g, 0 + u * 5, none⟩) hg).trans c0, (hb2.cell (p := ⟨g, 0 + u * 5 + 1, none⟩) hg).trans c1, (hb2.cell (p := ⟨g, 0 + u * 5 + 2, none⟩) hg).trans c2, (hb2.cell (p := ⟨g, 0 + u * 5 + 3, none⟩) hg).trans c3, (hb2.cell (p := ⟨g, 0 + u * 5 + 4, none⟩) hg).trans c4, hkk.below hlc2 hb2⟩))
        have hkI : (k : Int) ≤ (i : Int) := by omega
        have hk0 : (0 : Int) ≤ (k : Int) := by omega
        have HT1 := Lib.hid hT
        have HD1 := Lib.hid hD
        rcases SRC.out with ⟨h1, h2, h3⟩ | ⟨g, hvp, hg, hsg⟩
        · subst h1 h2 h3
          obtain rfl : k = 0 := by omega
          have hD0 : D = [] := List.eq_nil_of_length_eq_zero (by omega)
          have SD := Lib.hid (fun w' (hb' : Below wc.heap.size wc w') => (show SrcE w' lim none D from fun u z hz => by rw [hD0] at hz; simp at hz))
          have hDl0 : D.length = 0 := by omega
          have MS := Lib.hid (fun w' (hb' : Below wc.heap.size wc w') => (show w'.cell? ⟨b, o, none⟩ = some (.int .i64 ea) ∧ w'.cell? ⟨b, o + 1, none⟩ = some (.int .i64 eb) ∧ w'.cell? ⟨b, o + 2, none⟩ = some (.int .i64 ek) ∧ w'.cell? ⟨b, o + 3, none⟩ = some (.int .i64 em) ∧ w'.cell? ⟨b, o + 4, none⟩ = some (.slice sp sm sc) ∧ Below wc.heap.size wc w' from by have := MS.out w' hb'; simpa using this))
          clear hT hD hD0 hDl
          go_wp2_with fail
          refine wp_region_held_drew (S := fun w' => w'.cell? ⟨b, o, none⟩ = some (.int .i64 ea) ∧ w'.cell? ⟨b, o + 1, none⟩ = some (.int .i64 eb) ∧ w'.cell? ⟨b, o + 2, none⟩ = some (.int .i64 ek) ∧ w'.cell? ⟨b, o + 3, none⟩ = some (.int .i64 em) ∧ w'.cell? ⟨b, o + 4, none⟩ = some (.slice sp sm sc) ∧ Below wc.heap.size wc w') (by kernel_rfl) ?_ (fun hHeld => ?_)
          · (try dsimp only); exact MS.out _ ((Below.refl _ _).drew)
          refine wpAnyH_take (i := 1) (v := ?v1) rfl (by kernel_rfl) (by kernel_rfl) (by kernel_rfl) (fun _ _ _ h => h) (Or.inl ⟨by kernel_rfl, ?hy1⟩) (by assumption) ?rest1
          case hy1 => intro w hSw; (try dsimp only at hSw); go_simp; (first | done | with_reducible rfl)
          (try simp only [Act.put, List.getElem_toArray, List.getElem_cons_zero, List.getElem_cons_succ, List.setIfInBounds_toArray, List.set_cons_zero, List.set_cons_succ])
          refine wpAnyH_take (i := 2) (v := ?v2) rfl (by kernel_rfl) (by kernel_rfl) (by kernel_rfl) (fun _ _ _ h => h) (Or.inl ⟨by kernel_rfl, ?hy2⟩) (by assumption) ?rest2
          case hy2 => intro w hSw; (try dsimp only at hSw); go_simp; (first | done | with_reducible rfl)
          (try simp only [Act.put, List.getElem_toArray, List.getElem_cons_zero, List.getElem_cons_succ, List.setIfInBounds_toArray, List.set_cons_zero, List.set_cons_succ])
          refine wpAnyH_take (i := 3) (v := ?v3) rfl (by kernel_rfl) (by kernel_rfl) (by kernel_rfl) (fun _ _ _ h => h) (Or.inl ⟨by kernel_rfl, ?hy3⟩) (by assumption) ?rest3
          case hy3 => intro w hSw; (try dsimp only at hSw); go_simp; (first | done | with_reducible rfl)
          (try simp only [Act.put, List.getElem_toArray, List.getElem_cons_zero, List.getElem_cons_succ, List.setIfInBounds_toArray, List.set_cons_zero, List.set_cons_succ])
          refine wpAnyH_take (i := 5) (v := ?v4) rfl (by kernel_rfl) (by kernel_rfl) (by kernel_rfl) (fun _ _ _ h => h) (Or.inl ⟨by kernel_rfl, ?hy4⟩) (by assumption) ?rest4
          case hy4 => intro w hSw; (try dsimp only at hSw); go_simp; (first | done | with_reducible rfl)
          (try simp only [Act.put, List.getElem_toArray, List.getElem_cons_zero, List.getElem_cons_succ, List.setIfInBounds_toArray, List.set_cons_zero, List.set_cons_succ])
          refine wpAnyH_take (i := 6) (v := ?v5) rfl (by kernel_rfl) (by kernel_rfl) (by kernel_rfl) (fun _ _ _ h => h) (Or.inl ⟨by kernel_rfl, ?hy5⟩) (by assumption) ?rest5
          case hy5 => intro w hSw; (try dsimp only at hSw); go_simp; (first | done | with_reducible rfl)
          (try simp only [Act.put, List.getElem_toArray, List.getElem_cons_zero, List.getElem_cons_succ, List.setIfInBounds_toArray, List.set_cons_zero, List.set_cons_succ])
          refine wpAnyH_take (i := 7) (v := ?v6) rfl (by kernel_rfl) (by kernel_rfl) (by kernel_rfl) (fun _ _ _ h => h) (Or.inl ⟨by kernel_rfl, ?hy6⟩) (by assumption) ?rest6
          case hy6 => intro w hSw; (try dsimp only at hSw); go_simp; (first | done | with_reducible rfl)
          (try simp only [Act.put, List.getElem_toArray, List.getElem_cons_zero, List.getElem_cons_succ, List.setIfInBounds_toArray, List.set_cons_zero, List.set_cons_succ])
          refine wpAnyH_take (i := 8) (v := ?v7) rfl (by kernel_rfl) (by kernel_rfl) (by kernel_rfl) (fun _ _ _ h => h) (Or.inl ⟨by kernel_rfl, ?hy7⟩) (by assumption) ?rest7
          case hy7 => intro w hSw; (try dsimp only at hSw); go_simp; (first | done | with_reducible rfl)
          (try simp only [Act.put, List.getElem_toArray, List.getElem_cons_zero, List.getElem_cons_succ, List.setIfInBounds_toArray, List.set_cons_zero, List.set_cons_succ])
          refine wpAnyH_take (i := 11) (v := ?v8) rfl (by kernel_rfl) (by kernel_rfl) (by kernel_rfl) (fun _ _ _ h => h) (Or.inl ⟨by kernel_rfl, ?hy8⟩) (by assumption) ?rest8
          case hy8 => intro w hSw; (try dsimp only at hSw); go_simp; (first | done | with_reducible rfl)
          (try simp only [Act.put, List.getElem_toArray, List.getElem_cons_zero, List.getElem_cons_succ, List.setIfInBounds_toArray, List.set_cons_zero, List.set_cons_succ])
          refine wpAnyH_take (i := 12) (v := ?v9) rfl (by kernel_rfl) (by kernel_rfl) (by kernel_rfl) (fun _ _ _ h => h) (Or.inl ⟨by kernel_rfl, ?hy9⟩) (by assumption) ?rest9
          case hy9 => intro w hSw; (try dsimp only at hSw); go_simp; (first | done | with_reducible rfl)
          (try simp only [Act.put, List.getElem_toArray, List.getElem_cons_zero, List.getElem_cons_succ, List.setIfInBounds_toArray, List.set_cons_zero, List.set_cons_succ])
          refine wpAnyH_take (i := 13) (v := ?v10) rfl (by kernel_rfl) (by kernel_rfl) (by kernel_rfl) (fun _ _ _ h => h) (Or.inl ⟨by kernel_rfl, ?hy10⟩) (by assumption) ?rest10
          case hy10 => intro w hSw; (try dsimp only at hSw); go_simp; (first | done | with_reducible rfl)
          (try simp only [Act.put, List.getElem_toArray, List.getElem_cons_zero, List.getElem_cons_succ, List.setIfInBounds_toArray, List.set_cons_zero, List.set_cons_succ])
          have HB0 : Hid (Below wc.heap.size wc wc.drew) := Lib.hid ((Below.refl _ _).drew)
          generalize wc.drew = u0 at *
          refine wpAnyH_ready (rs := [0, 9]) (by kernel_rfl) (by simp) ?_
          refine AllReadyH.cons rfl (fun K hK => ?_) (AllReadyH.cons rfl (fun K hK => ?_) AllReadyH.nil)
          · go_simp
            obtain ⟨u1, hu⟩ : ∃ u1, u0.alloc (.cells #[] 44) = u1 := ⟨_, rfl⟩
            have bb : Below u0.heap.size u0 u1 := by rw [← hu]; exact (Below.refl _ _).alloc (Nat.le_refl _) _
            have hn := heap_alloc_new u0 (.cells #[] 44)
            have HZb := Lib.hid (show u1.heap.size = u0.heap.size + 1 by rw [← hu]; simp)
            rw [hu] at hn ⊢
            have HB1 := Lib.hid (HB0.out.trans (bb.mono HB0.out.size))
            have HT := Lib.hid (OwnE.emp (lim := lim) (B := wc.heap.size) hn HB0.out.size)
            clear hu
            refine hK.out _ _ (MS.out _ HB1.out) (fun hHeld2 => ?_)
            clear hK K hHeld
            have hHeld := hHeld2
            clear hHeld2
            (try simp only [Act.put, List.getElem_toArray, List.getElem_cons_zero, List.getElem_cons_succ, List.setIfInBounds_toArray, List.set_cons_zero, List.set_cons_succ])
            refine wpAnyH_ready (rs := [4, 9]) (by kernel_rfl) (by simp) ?_
            refine AllReadyH.cons rfl (fun K hK => ?_) (AllReadyH.cons rfl (fun K hK => ?_) AllReadyH.nil)
            · refine step_plain rfl (wp_append_e _ _ rfl rfl HT.out rfl hTl (ST.out _ HB1.out) (by have := HB1.out.size; omega) hlc (by simp only [List.length_nil]; omega) ?_)
              intro v4 u2 hO hg
              have HB2 := Lib.hid (HB1.out.grown hg HB1.out.size HT.out.ownLe)
              have HO1 := Lib.hid hO
              clear hO hg
              refine hK.out _ _ (MS.out _ HB2.out) (fun hHeld2 => ?_)
              clear hK K hHeld
              have hHeld := hHeld2
              clear hHeld2
              (try simp only [Act.put, List.getElem_toArray, List.getElem_cons_zero, List.getElem_cons_succ, List.setIfInBounds_toArray, List.set_cons_zero, List.set_cons_succ])
              refine wpAnyH_ready (rs := [9]) (by kernel_rfl) (by simp) ?_
              refine AllReadyH.cons rfl (fun K hK => ?_) AllReadyH.nil
              go_simp
              obtain ⟨u3, hu⟩ : ∃ u3, u2.alloc (.cells #[.int .i64 ea, .int .i64 eb, .int .i64 ek, .int .i64 em, .slice sp sm sc] 44) = u3 := ⟨_, rfl⟩
              have bb : Below u2.heap.size u2 u3 := by rw [← hu]; exact (Below.refl _ _).alloc (Nat.le_refl _) _
              have hn := heap_alloc_new u2 (.cells #[.int .i64 ea, .int .i64 eb, .int .i64 ek, .int .i64 em, .slice sp sm sc] 44)
              have HZa := Lib.hid (show u3.heap.size = u2.heap.size + 1 by rw [← hu]; simp)
              rw [hu] at hn ⊢
              have HB3 := Lib.hid (HB2.out.trans (bb.mono HB2.out.size))
              have HY := Lib.hid hn
              have HO1 := Lib.hid (HO1.out.below bb (by have := HB2.out.size; omega))
              refine hK.out _ _ (MS.out _ HB3.out) (fun hHeld2 => ?_)
              clear hK K hHeld
              have hHeld := hHeld2
              clear hHeld2
              (try simp only [Act.put, List.getElem_toArray, List.getElem_cons_zero, List.getElem_cons_succ, List.setIfInBounds_toArray, List.set_cons_zero, List.set_cons_succ])
              refine wpAnyH_ready (rs := [10]) (by kernel_rfl) (by simp) ?_
              refine AllReadyH.cons rfl (fun K hK => ?_) AllReadyH.nil
              refine step_plain rfl (wp_append_e _ _ rfl rfl HO1.out rfl rfl (src1 HY.out (KD2.out _ HB3.out)) (by have := HB3.out.size; omega) hlc (by simp only [List.nil_append]; omega) ?_)
              intro v8 u8 hO hg
              have HB4 := Lib.hid (HB3.out.grown hg HB3.out.size HO1.out.ownLe)
              have HO2 := Lib.hid hO
              clear hO hg
              refine hK.out _ _ (MS.out _ HB4.out) (fun hHeld2 => ?_)
              clear hK K hHeld
              have hHeld := hHeld2
              clear hHeld2
              (try simp only [Act.put, List.getElem_toArray, List.getElem_cons_zero, List.getElem_cons_succ, List.setIfInBounds_toArray, List.set_cons_zero, List.set_cons_succ])
              refine wpAnyH_ready (rs := [14]) (by kernel_rfl) (by simp) ?_
              refine AllReadyH.cons rfl (fun K hK => ?_) AllReadyH.nil
              refine step_plain rfl (wp_append_e _ _ rfl rfl HO2.out rfl hDl0 (by first | exact SD.out _ HB4.out | (split; (exact SDN.out (by assumption) _ _); (exact SD.out _ HB4.out))) (by have := HB4.out.size; omega) hlc (by simp only [List.nil_append, List.length_append, List.length_singleton]; omega) ?_)
              intro v9 u9 hO hg
              have HB5 := Lib.hid (HB4.out.grown hg HB4.out.size HO2.out.ownLe)
              have HO3 := Lib.hid hO
              clear hO hg
              refine hK.out _ _ (MS.out _ HB5.out) (fun hHeld2 => ?_)
              clear hK K hHeld
              have hHeld := hHeld2
              clear hHeld2
              (try simp only [Act.put, List.getElem_toArray, List.getElem_cons_zero, List.getElem_cons_succ, List.setIfInBounds_toArray, List.set_cons_zero, List.set_cons_succ])
              refine wpAnyH_take (i := 15) (v := ?v11) rfl (by kernel_rfl) (by kernel_rfl) (by kernel_rfl) (fun _ _ _ h => h) (Or.inl ⟨by kernel_rfl, ?hy11⟩) (by assumption) ?rest11
              case hy11 => intro w hSw; (try dsimp only at hSw); go_simp; (first | done | with_reducible rfl)
              (try simp only [Act.put, List.getElem_toArray, List.getElem_cons_zero, List.getElem_cons_succ, List.setIfInBounds_toArray, List.set_cons_zero, List.set_cons_succ])
              refine wpAnyH_done (by kernel_rfl) ?_ _
              go_wp2_with fail
              go_roundw
              case rel => exact ⟨0 + 1, _, by go_num, rfl, by omega, Lib.hid (FIN.out _ _ HO3.out), Lib.hid (HBW2.out.trans (HB5.out.mono HBW2.out.size))⟩
              case measure => simp only [intOf]; omega
            · go_simp
              obtain ⟨u2, hu⟩ : ∃ u2, u1.alloc (.cells #[.int .i64 ea, .int .i64 eb, .int .i64 ek, .int .i64 em, .slice sp sm sc] 44) = u2 := ⟨_, rfl⟩
              have bb : Below u1.heap.size u1 u2 := by rw [← hu]; exact (Below.refl _ _).alloc (Nat.le_refl _) _
              have hn := heap_alloc_new u1 (.cells #[.int .i64 ea, .int .i64 eb, .int .i64 ek, .int .i64 em, .slice sp sm sc] 44)
              have HZc := Lib.hid (show u2.heap.size = u1.heap.size + 1 by rw [← hu]; simp)
              rw [hu] at hn ⊢
              have HB2 := Lib.hid (HB1.out.trans (bb.mono HB1.out.size))
              have HY := Lib.hid hn
              have HTT := Lib.hid (HT.out.below bb (by have := HB1.out.size; omega))
              refine hK.out _ _ (MS.out _ HB2.out) (fun hHeld2 => ?_)
              clear hK K hHeld
              have hHeld := hHeld2
              clear hHeld2
              (try simp only [Act.put, List.getElem_toArray, List.getElem_cons_zero, List.getElem_cons_succ, List.setIfInBounds_toArray, List.set_cons_zero, List.set_cons_succ])
              refine wpAnyH_ready (rs := [4]) (by kernel_rfl) (by simp) ?_
              refine AllReadyH.cons rfl (fun K hK => ?_) AllReadyH.nil
              refine step_plain rfl (wp_append_e _ _ rfl rfl HTT.out rfl hTl (ST.out _ HB2.out) (by have := HB2.out.size; omega) hlc (by simp only [List.length_nil]; omega) ?_)
              intro v4 u3 hO hg
              have HB3 := Lib.hid (HB2.out.grown hg HB2.out.size HTT.out.ownLe)
              have HY3 := Lib.hid ((hg.block _ (by have := HZb.out; have := HZc.out; omega) (fun e => by have := HZb.out; have := HZc.out; have e' := Option.some.inj (show some u1.heap.size = some u0.heap.size from e); omega)).trans HY.out)
              have HO1 := Lib.hid hO
              clear hO hg
              refine hK.out _ _ (MS.out _ HB3.out) (fun hHeld2 => ?_)
              clear hK K hHeld
              have hHeld := hHeld2
              clear hHeld2
              (try simp only [Act.put, List.getElem_toArray, List.getElem_cons_zero, List.getElem_cons_succ, List.setIfInBounds_toArray, List.set_cons_zero, List.set_cons_succ])
              refine wpAnyH_ready (rs := [10]) (by kernel_rfl) (by simp) ?_
              refine AllReadyH.cons rfl (fun K hK => ?_) AllReadyH.nil
              refine step_plain rfl (wp_append_e _ _ rfl rfl HO1.out rfl rfl (src1 HY3.out (KD2.out _ HB3.out)) (by have := HB3.out.size; omega) hlc (by simp only [List.nil_append]; omega) ?_)
              intro v8 u8 hO hg
              have HB4 := Lib.hid (HB3.out.grown hg HB3.out.size HO1.out.ownLe)
              have HO2 := Lib.hid hO
              clear hO hg
              refine hK.out _ _ (MS.out _ HB4.out) (fun hHeld2 => ?_)
              clear hK K hHeld
              have hHeld := hHeld2
              clear hHeld2
              (try simp only [Act.put, List.getElem_toArray, List.getElem_cons_zero, List.getElem_cons_succ, List.setIfInBounds_toArray, List.set_cons_zero, List.set_cons_succ])
              refine wpAnyH_ready (rs := [14]) (by kernel_rfl) (by simp) ?_
              refine AllReadyH.cons rfl (fun K hK => ?_) AllReadyH.nil
              refine step_plain rfl (wp_append_e _ _ rfl rfl HO2.out rfl hDl0 (by first | exact SD.out _ HB4.out | (split; (exact SDN.out (by assumption) _ _); (exact SD.out _ HB4.out))) (by have := HB4.out.size; omega) hlc (by simp only [List.nil_append, List.length_append, List.length_singleton]; omega) ?_)
              intro v9 u9 hO hg
              have HB5 := Lib.hid (HB4.out.grown hg HB4.out.size HO2.out.ownLe)
              have HO3 := Lib.hid hO
              clear hO hg
              refine hK.out _ _ (MS.out _ HB5.out) (fun hHeld2 => ?_)
              clear hK K hHeld
              have hHeld := hHeld2
              clear hHeld2
              (try simp only [Act.put, List.getElem_toArray, List.getElem_cons_zero, List.getElem_cons_succ, List.setIfInBounds_toArray, List.set_cons_zero, List.set_cons_succ])
              refine wpAnyH_take (i := 15) (v := ?v12) rfl (by kernel_rfl) (by kernel_rfl) (by kernel_rfl) (fun _ _ _ h => h) (Or.inl ⟨by kernel_rfl, ?hy12⟩) (by assumption) ?rest12
              case hy12 => intro w hSw; (try dsimp only at hSw); go_simp; (first | done | with_reducible rfl)
              (try simp only [Act.put, List.getElem_toArray, List.getElem_cons_zero, List.getElem_cons_succ, List.setIfInBounds_toArray, List.set_cons_zero, List.set_cons_succ])
              refine wpAnyH_done (by kernel_rfl) ?_ _
              go_wp2_with fail
              go_roundw
              case rel => exact ⟨0 + 1, _, by go_num, rfl, by omega, Lib.hid (FIN.out _ _ HO3.out), Lib.hid (HBW2.out.trans (HB5.out.mono HBW2.out.size))⟩
              case measure => simp only [intOf]; omega
          · go_simp
            obtain ⟨u1, hu⟩ : ∃ u1, u0.alloc (.cells #[.int .i64 ea, .int .i64 eb, .int .i64 ek, .int .i64 em, .slice sp sm sc] 44) = u1 := ⟨_, rfl⟩
            have bb : Below u0.heap.size u0 u1 := by rw [← hu]; exact (Below.refl _ _).alloc (Nat.le_refl _) _
            have hn := heap_alloc_new u0 (.cells #[.int .i64 ea, .int .i64 eb, .int .i64 ek, .int .i64 em, .slice sp sm sc] 44)
            have HZb := Lib.hid (show u1.heap.size = u0.heap.size + 1 by rw [← hu]; simp)
            rw [hu] at hn ⊢
            have HB1 := Lib.hid (HB0.out.trans (bb.mono HB0.out.size))
            have HY := Lib.hid hn
            clear hn hu bb
            refine hK.out _ _ (MS.out _ HB1.out) (fun hHeld2 => ?_)
            clear hK K hHeld
            have hHeld := hHeld2
            clear hHeld2
            (try simp only [Act.put, List.getElem_toArray, List.getElem_cons_zero, List.getElem_cons_succ, List.setIfInBounds_toArray, List.set_cons_zero, List.set_cons_succ])
            refine wpAnyH_ready (rs := [0]) (by kernel_rfl) (by simp) ?_
            refine AllReadyH.cons rfl (fun K hK => ?_) AllReadyH.nil
            go_simp
            obtain ⟨u2, hu⟩ : ∃ u2, u1.alloc (.cells #[] 44) = u2 := ⟨_, rfl⟩
            have bb : Below u1.heap.size u1 u2 := by rw [← hu]; exact (Below.refl _ _).alloc (Nat.le_refl _) _
            have hn := heap_alloc_new u1 (.cells #[] 44)
            have HZc := Lib.hid (show u2.heap.size = u1.heap.size + 1 by rw [← hu]; simp)
            rw [hu] at hn ⊢
            have HB2 := Lib.hid (HB1.out.trans (bb.mono HB1.out.size))
            have HT := Lib.hid (OwnE.emp (lim := lim) (B := wc.heap.size) hn HB1.out.size)
            have HY2 := Lib.hid ((bb.block _ (by have := HZb.out; have := HZc.out; omega)).trans HY.out)
            refine hK.out _ _ (MS.out _ HB2.out) (fun hHeld2 => ?_)
            clear hK K hHeld
            have hHeld := hHeld2
            clear hHeld2
            (try simp only [Act.put, List.getElem_toArray, List.getElem_cons_zero, List.getElem_cons_succ, List.setIfInBounds_toArray, List.set_cons_zero, List.set_cons_succ])
            refine wpAnyH_ready (rs := [4]) (by kernel_rfl) (by simp) ?_
            refine AllReadyH.cons rfl (fun K hK => ?_) AllReadyH.nil
            refine step_plain rfl (wp_append_e _ _ rfl rfl HT.out rfl hTl (ST.out _ HB2.out) (by have := HB2.out.size; omega) hlc (by simp only [List.length_nil]; omega) ?_)
            intro v4 u3 hO hg
            have HB3 := Lib.hid (HB2.out.grown hg HB2.out.size HT.out.ownLe)
            have HY3 := Lib.hid ((hg.block _ (by have := HZb.out; have := HZc.out; omega) (fun e => by have := HZb.out; have := HZc.out; have e' := Option.some.inj (show some u0.heap.size = some u1.heap.size from e); omega)).trans HY2.out)
            have HO1 := Lib.hid hO
            clear hO hg
            refine hK.out _ _ (MS.out _ HB3.out) (fun hHeld2 => ?_)
            clear hK K hHeld
            have hHeld := hHeld2
            clear hHeld2
            (try simp only [Act.put, List.getElem_toArray, List.getElem_cons_zero, List.getElem_cons_succ, List.setIfInBounds_toArray, List.set_cons_zero, List.set_cons_succ])
            refine wpAnyH_ready (rs := [10]) (by kernel_rfl) (by simp) ?_
            refine AllReadyH.cons rfl (fun K hK => ?_) AllReadyH.nil
            refine step_plain rfl (wp_append_e _ _ rfl rfl HO1.out rfl rfl (src1 HY3.out (KD2.out _ HB3.out)) (by have := HB3.out.size; omega) hlc (by simp only [List.nil_append]; omega) ?_)
            intro v8 u8 hO hg
            have HB4 := Lib.hid (HB3.out.grown hg HB3.out.size HO1.out.ownLe)
            have HO2 := Lib.hid hO
            clear hO hg
            refine hK.out _ _ (MS.out _ HB4.out) (fun hHeld2 => ?_)
            clear hK K hHeld
            have hHeld := hHeld2
            clear hHeld2
            (try simp only [Act.put, List.getElem_toArray, List.getElem_cons_zero, List.getElem_cons_succ, List.setIfInBounds_toArray, List.set_cons_zero, List.set_cons_succ])
            refine wpAnyH_ready (rs := [14]) (by kernel_rfl) (by simp) ?_
            refine AllReadyH.cons rfl (fun K hK => ?_) AllReadyH.nil
            refine step_plain rfl (wp_append_e _ _ rfl rfl HO2.out rfl hDl0 (by first | exact SD.out _ HB4.out | (split; (exact SDN.out (by assumption) _ _); (exact SD.out _ HB4.out))) (by have := HB4.out.size; omega) hlc (by simp only [List.nil_append, List.length_append, List.length_singleton]; omega) ?_)
            intro v9 u9 hO hg
            have HB5 := Lib.hid (HB4.out.grown hg HB4.out.size HO2.out.ownLe)
            have HO3 := Lib.hid hO
            clear hO hg
            refine hK.out _ _ (MS.out _ HB5.out) (fun hHeld2 => ?_)
            clear hK K hHeld
            have hHeld := hHeld2
            clear hHeld2
            (try simp only [Act.put, List.getElem_toArray, List.getElem_cons_zero, List.getElem_cons_succ, List.setIfInBounds_toArray, List.set_cons_zero, List.set_cons_succ])
            refine wpAnyH_take (i := 15) (v := ?v13) rfl (by kernel_rfl) (by kernel_rfl) (by kernel_rfl) (fun _ _ _ h => h) (Or.inl ⟨by kernel_rfl, ?hy13⟩) (by assumption) ?rest13
            case hy13 => intro w hSw; (try dsimp only at hSw); go_simp; (first | done | with_reducible rfl)
            (try simp only [Act.put, List.getElem_toArray, List.getElem_cons_zero, List.getElem_cons_succ, List.setIfInBounds_toArray, List.set_cons_zero, List.set_cons_succ])
            refine wpAnyH_done (by kernel_rfl) ?_ _
            go_wp2_with fail
            go_roundw
            case rel => exact ⟨0 + 1, _, by go_num, rfl, by omega, Lib.hid (FIN.out _ _ HO3.out), Lib.hid (HBW2.out.trans (HB5.out.mono HBW2.out.size))⟩
            case measure => simp only [intOf]; omega
        · subst hvp
          have SD := Lib.hid (fun w' (hb' : Below wc.heap.size wc w') => (show SrcE w' lim (some ⟨g, k * 5, none⟩) D from by
            have hs2 : SrcE w' lim (some ⟨g, 0, none⟩) L := fun u z hz => by
              obtain ⟨b', o', s', hp', c0, c1, c2, c3, c4, hkk⟩ := hsg u z hz
              cases hp'
              have hb2 := HBC.out.trans (hb'.mono hcz)
              exact ⟨g, 0, s', rfl, (hb2.cell (p := ⟨g, 0 + u * 5, none⟩) hg).trans c0, (hb2.cell (p := ⟨g, 0 + u * 5 + 1, none⟩) hg).trans c1, (hb2.cell (p := ⟨g, 0 + u * 5 + 2, none⟩) hg).trans c2, (hb2.cell (p := ⟨g, 0 + u * 5 + 3, none⟩) hg).trans c3, (hb2.cell (p := ⟨g, 0 + u * 5 + 4, none⟩) hg).trans c4, hkk.below hlc2 hb2⟩
            have := hs2.drop k
            rw [Nat.zero_add, HD1.out] at this
            exact this))
          have hkv : k ≤ vc := by omega
          have SDN := Lib.hid (fun (h : vc = k) w p => (show SrcE w lim p D from fun u z hz => by have := (List.getElem?_eq_some_iff.1 hz).1; omega))
          have hkvI : (k : Int) ≤ (vc : Int) := by omega
          clear hT hD hsg
          go_wp2_with fail
          refine wp_region_held_drew (S := fun w' => w'.cell? ⟨b, o + i * 5, none⟩ = some (.int .i64 ea) ∧ w'.cell? ⟨b, o + i * 5 + 1, none⟩ = some (.int .i64 eb) ∧ w'.cell? ⟨b, o + i * 5 + 2, none⟩ = some (.int .i64 ek) ∧ w'.cell? ⟨b, o + i * 5 + 3, none⟩ = some (.int .i64 em) ∧ w'.cell? ⟨b, o + i * 5 + 4, none⟩ = some (.slice sp sm sc) ∧ Below wc.heap.size wc w') (by kernel_rfl) ?_ (fun hHeld => ?_)
          · (try dsimp only); exact MS.out _ ((Below.refl _ _).drew)
          refine wpAnyH_take (i := 1) (v := ?v14) rfl (by kernel_rfl) (by kernel_rfl) (by kernel_rfl) (fun _ _ _ h => h) (Or.inl ⟨by kernel_rfl, ?hy14⟩) (by assumption) ?rest14
          case hy14 => intro w hSw; (try dsimp only at hSw); go_simp; (first | done | with_reducible rfl)
          (try simp only [Act.put, List.getElem_toArray, List.getElem_cons_zero, List.getElem_cons_succ, List.setIfInBounds_toArray, List.set_cons_zero, List.set_cons_succ])
          refine wpAnyH_take (i := 2) (v := ?v15) rfl (by kernel_rfl) (by kernel_rfl) (by kernel_rfl) (fun _ _ _ h => h) (Or.inl ⟨by kernel_rfl, ?hy15⟩) (by assumption) ?rest15
          case hy15 => intro w hSw; (try dsimp only at hSw); go_simp; (first | done | with_reducible rfl)
          (try simp only [Act.put, List.getElem_toArray, List.getElem_cons_zero, List.getElem_cons_succ, List.setIfInBounds_toArray, List.set_cons_zero, List.set_cons_succ])
          refine wpAnyH_take (i := 3) (v := ?v16) rfl (by kernel_rfl) (by kernel_rfl) (by kernel_rfl) (fun _ _ _ h => h) (Or.inl ⟨by kernel_rfl, ?hy16⟩) (by assumption) ?rest16
          case hy16 => intro w hSw; (try dsimp only at hSw); go_simp; (first | done | with_reducible rfl)
          (try simp only [Act.put, List.getElem_toArray, List.getElem_cons_zero, List.getElem_cons_succ, List.setIfInBounds_toArray, List.set_cons_zero, List.set_cons_succ])
          refine wpAnyH_take (i := 5) (v := ?v17) rfl (by kernel_rfl) (by kernel_rfl) (by kernel_rfl) (fun _ _ _ h => h) (Or.inl ⟨by kernel_rfl, ?hy17⟩) (by assumption) ?rest17
          case hy17 => intro w hSw; (try dsimp only at hSw); go_simp; (first | done | with_reducible rfl)
          (try simp only [Act.put, List.getElem_toArray, List.getElem_cons_zero, List.getElem_cons_succ, List.setIfInBounds_toArray, List.set_cons_zero, List.set_cons_succ])
          refine wpAnyH_take (i := 6) (v := ?v18) rfl (by kernel_rfl) (by kernel_rfl) (by kernel_rfl) (fun _ _ _ h => h) (Or.inl ⟨by kernel_rfl, ?hy18⟩) (by assumption) ?rest18
          case hy18 => intro w hSw; (try dsimp only at hSw); go_simp; (first | done | with_reducible rfl)
          (try simp only [Act.put, List.getElem_toArray, List.getElem_cons_zero, List.getElem_cons_succ, List.setIfInBounds_toArray, List.set_cons_zero, List.set_cons_succ])
          refine wpAnyH_take (i := 7) (v := ?v19) rfl (by kernel_rfl) (by kernel_rfl) (by kernel_rfl) (fun _ _ _ h => h) (Or.inl ⟨by kernel_rfl, ?hy19⟩) (by assumption) ?rest19
          case hy19 => intro w hSw; (try dsimp only at hSw); go_simp; (first | done | with_reducible rfl)
          (try simp only [Act.put, List.getElem_toArray, List.getElem_cons_zero, List.getElem_cons_succ, List.setIfInBounds_toArray, List.set_cons_zero, List.set_cons_succ])
          refine wpAnyH_take (i := 8) (v := ?v20) rfl (by kernel_rfl) (by kernel_rfl) (by kernel_rfl) (fun _ _ _ h => h) (Or.inl ⟨by kernel_rfl, ?hy20⟩) (by assumption) ?rest20
          case hy20 => intro w hSw; (try dsimp only at hSw); go_simp; (first | done | with_reducible rfl)
          (try simp only [Act.put, List.getElem_toArray, List.getElem_cons_zero, List.getElem_cons_succ, List.setIfInBounds_toArray, List.set_cons_zero, List.set_cons_succ])
          refine wpAnyH_take (i := 11) (v := ?v21) rfl (by kernel_rfl) (by kernel_rfl) (by kernel_rfl) (fun _ _ _ h => h) (Or.inl ⟨by kernel_rfl, ?hy21⟩) (by assumption) ?rest21
          case hy21 => intro w hSw; (try dsimp only at hSw); go_simp; (first | done | with_reducible rfl)
          (try simp only [Act.put, List.getElem_toArray, List.getElem_cons_zero, List.getElem_cons_succ, List.setIfInBounds_toArray, List.set_cons_zero, List.set_cons_succ])
          refine wpAnyH_take (i := 12) (v := ?v22) rfl (by kernel_rfl) (by kernel_rfl) (by kernel_rfl) (fun _ _ _ h => h) (Or.inl ⟨by kernel_rfl, ?hy22⟩) (by assumption) ?rest22
          case hy22 => intro w hSw; (try dsimp only at hSw); go_simp; (first | done | with_reducible rfl)
          (try simp only [Act.put, List.getElem_toArray, List.getElem_cons_zero, List.getElem_cons_succ, List.setIfInBounds_toArray, List.set_cons_zero, List.set_cons_succ])
          refine wpAnyH_take (i := 13) (v := ?v23) rfl (by kernel_rfl) (by kernel_rfl) (by kernel_rfl) (fun _ _ _ h => h) (Or.inl ⟨by kernel_rfl, ?hy23⟩) (by assumption) ?rest23
          case hy23 => intro w hSw; (try dsimp only at hSw); go_simp; (first | done | with_reducible rfl)
          (try simp only [Act.put, List.getElem_toArray, List.getElem_cons_zero, List.getElem_cons_succ, List.setIfInBounds_toArray, List.set_cons_zero, List.set_cons_succ])
          have HB0 : Hid (Below wc.heap.size wc wc.drew) := Lib.hid ((Below.refl _ _).drew)
          generalize wc.drew = u0 at *
          refine wpAnyH_ready (rs := [0, 9]) (by kernel_rfl) (by simp) ?_
          refine AllReadyH.cons rfl (fun K hK => ?_) (AllReadyH.cons rfl (fun K hK => ?_) AllReadyH.nil)
          · go_simp
            obtain ⟨u1, hu⟩ : ∃ u1, u0.alloc (.cells #[] 44) = u1 := ⟨_, rfl⟩
            have bb : Below u0.heap.size u0 u1 := by rw [← hu]; exact (Below.refl _ _).alloc (Nat.le_refl _) _
            have hn := heap_alloc_new u0 (.cells #[] 44)
            have HZb := Lib.hid (show u1.heap.size = u0.heap.size + 1 by rw [← hu]; simp)
            rw [hu] at hn ⊢
            have HB1 := Lib.hid (HB0.out.trans (bb.mono HB0.out.size))
            have HT := Lib.hid (OwnE.emp (lim := lim) (B := wc.heap.size) hn HB0.out.size)
            clear hu
            refine hK.out _ _ (MS.out _ HB1.out) (fun hHeld2 => ?_)
            clear hK K hHeld
            have hHeld := hHeld2
            clear hHeld2
            (try simp only [Act.put, List.getElem_toArray, List.getElem_cons_zero, List.getElem_cons_succ, List.setIfInBounds_toArray, List.set_cons_zero, List.set_cons_succ])
            refine wpAnyH_ready (rs := [4, 9]) (by kernel_rfl) (by simp) ?_
            refine AllReadyH.cons rfl (fun K hK => ?_) (AllReadyH.cons rfl (fun K hK => ?_) AllReadyH.nil)
            · refine step_plain rfl (wp_append_e _ _ rfl rfl HT.out rfl hTl (ST.out _ HB1.out) (by have := HB1.out.size; omega) hlc (by simp only [List.length_nil]; omega) ?_)
              intro v4 u2 hO hg
              have HB2 := Lib.hid (HB1.out.grown hg HB1.out.size HT.out.ownLe)
              have HO1 := Lib.hid hO
              clear hO hg
              refine hK.out _ _ (MS.out _ HB2.out) (fun hHeld2 => ?_)
              clear hK K hHeld
              have hHeld := hHeld2
              clear hHeld2
              (try simp only [Act.put, List.getElem_toArray, List.getElem_cons_zero, List.getElem_cons_succ, List.setIfInBounds_toArray, List.set_cons_zero, List.set_cons_succ])
              refine wpAnyH_ready (rs := [9]) (by kernel_rfl) (by simp) ?_
              refine AllReadyH.cons rfl (fun K hK => ?_) AllReadyH.nil
              go_simp
              obtain ⟨u3, hu⟩ : ∃ u3, u2.alloc (.cells #[.int .i64 ea, .int .i64 eb, .int .i64 ek, .int .i64 em, .slice sp sm sc] 44) = u3 := ⟨_, rfl⟩
              have bb : Below u2.heap.size u2 u3 := by rw [← hu]; exact (Below.refl _ _).alloc (Nat.le_refl _) _
              have hn := heap_alloc_new u2 (.cells #[.int .i64 ea, .int .i64 eb, .int .i64 ek, .int .i64 em, .slice sp sm sc] 44)
              have HZa := Lib.hid (show u3.heap.size = u2.heap.size + 1 by rw [← hu]; simp)
              rw [hu] at hn ⊢
              have HB3 := Lib.hid (HB2.out.trans (bb.mono HB2.out.size))
              have HY := Lib.hid hn
              have HO1 := Lib.hid (HO1.out.below bb (by have := HB2.out.size; omega))
              refine hK.out _ _ (MS.out _ HB3.out) (fun hHeld2 => ?_)
              clear hK K hHeld
              have hHeld := hHeld2
              clear hHeld2
              (try simp only [Act.put, List.getElem_toArray, List.getElem_cons_zero, List.getElem_cons_succ, List.setIfInBounds_toArray, List.set_cons_zero, List.set_cons_succ])
              refine wpAnyH_ready (rs := [10]) (by kernel_rfl) (by simp) ?_
              refine AllReadyH.cons rfl (fun K hK => ?_) AllReadyH.nil
              refine step_plain rfl (wp_append_e _ _ rfl rfl HO1.out rfl rfl (src1 HY.out (KD2.out _ HB3.out)) (by have := HB3.out.size; omega) hlc (by simp only [List.nil_append]; omega) ?_)
              intro v8 u8 hO hg
              have HB4 := Lib.hid (HB3.out.grown hg HB3.out.size HO1.out.ownLe)
              have HO2 := Lib.hid hO
              clear hO hg
              refine hK.out _ _ (MS.out _ HB4.out) (fun hHeld2 => ?_)
              clear hK K hHeld
              have hHeld := hHeld2
              clear hHeld2
              (try simp only [Act.put, List.getElem_toArray, List.getElem_cons_zero, List.getElem_cons_succ, List.setIfInBounds_toArray, List.set_cons_zero, List.set_cons_succ])
              refine wpAnyH_ready (rs := [14]) (by kernel_rfl) (by simp) ?_
              refine AllReadyH.cons rfl (fun K hK => ?_) AllReadyH.nil
              refine step_plain rfl (wp_append_e _ _ rfl rfl HO2.out rfl hDl (by first | exact SD.out _ HB4.out | (split; (exact SDN.out (by assumption) _ _); (exact SD.out _ HB4.out))) (by have := HB4.out.size; omega) hlc (by simp only [List.nil_append, List.length_append, List.length_singleton]; omega) ?_)
              intro v9 u9 hO hg
              have HB5 := Lib.hid (HB4.out.grown hg HB4.out.size HO2.out.ownLe)
              have HO3 := Lib.hid hO
              clear hO hg
              refine hK.out _ _ (MS.out _ HB5.out) (fun hHeld2 => ?_)
              clear hK K hHeld
              have hHeld := hHeld2
              clear hHeld2
              (try simp only [Act.put, List.getElem_toArray, List.getElem_cons_zero, List.getElem_cons_succ, List.setIfInBounds_toArray, List.set_cons_zero, List.set_cons_succ])
              refine wpAnyH_take (i := 15) (v := ?v24) rfl (by kernel_rfl) (by kernel_rfl) (by kernel_rfl) (fun _ _ _ h => h) (Or.inl ⟨by kernel_rfl, ?hy24⟩) (by assumption) ?rest24
              case hy24 => intro w hSw; (try dsimp only at hSw); go_simp; (first | done | with_reducible rfl)
              (try simp only [Act.put, List.getElem_toArray, List.getElem_cons_zero, List.getElem_cons_succ, List.setIfInBounds_toArray, List.set_cons_zero, List.set_cons_succ])
              refine wpAnyH_done (by kernel_rfl) ?_ _
              go_wp2_with fail
              go_roundw
              case rel => exact ⟨i + 1, _, by go_num, rfl, by omega, Lib.hid (FIN.out _ _ HO3.out), Lib.hid (HBW2.out.trans (HB5.out.mono HBW2.out.size))⟩
              case measure => simp only [intOf]; omega
            · go_simp
              obtain ⟨u2, hu⟩ : ∃ u2, u1.alloc (.cells #[.int .i64 ea, .int .i64 eb, .int .i64 ek, .int .i64 em, .slice sp sm sc] 44) = u2 := ⟨_, rfl⟩
              have bb : Below u1.heap.size u1 u2 := by rw [← hu]; exact (Below.refl _ _).alloc (Nat.le_refl _) _
              have hn := heap_alloc_new u1 (.cells #[.int .i64 ea, .int .i64 eb, .int .i64 ek, .int .i64 em, .slice sp sm sc] 44)
              have HZc := Lib.hid (show u2.heap.size = u1.heap.size + 1 by rw [← hu]; simp)
              rw [hu] at hn ⊢
              have HB2 := Lib.hid (HB1.out.trans (bb.mono HB1.out.size))
              have HY := Lib.hid hn
              have HTT := Lib.hid (HT.out.below bb (by have := HB1.out.size; omega))
              refine hK.out _ _ (MS.out _ HB2.out) (fun hHeld2 => ?_)
              clear hK K hHeld
              have hHeld := hHeld2
              clear hHeld2
              (try simp only [Act.put, List.getElem_toArray, List.getElem_cons_zero, List.getElem_cons_succ, List.setIfInBounds_toArray, List.set_cons_zero, List.set_cons_succ])
              refine wpAnyH_ready (rs := [4]) (by kernel_rfl) (by simp) ?_
              refine AllReadyH.cons rfl (fun K hK => ?_) AllReadyH.nil
              refine step_plain rfl (wp_append_e _ _ rfl rfl HTT.out rfl hTl (ST.out _ HB2.out) (by have := HB2.out.size; omega) hlc (by simp only [List.length_nil]; omega) ?_)
              intro v4 u3 hO hg
              have HB3 := Lib.hid (HB2.out.grown hg HB2.out.size HTT.out.ownLe)
              have HY3 := Lib.hid ((hg.block _ (by have := HZb.out; have := HZc.out; omega) (fun e => by have := HZb.out; have := HZc.out; have e' := Option.some.inj (show some u1.heap.size = some u0.heap.size from e); omega)).trans HY.out)
              have HO1 := Lib.hid hO
              clear hO hg
              refine hK.out _ _ (MS.out _ HB3.out) (fun hHeld2 => ?_)
              clear hK K hHeld
              have hHeld := hHeld2
              clear hHeld2
              (try simp only [Act.put, List.getElem_toArray, List.getElem_cons_zero, List.getElem_cons_succ, List.setIfInBounds_toArray, List.set_cons_zero, List.set_cons_succ])
              refine wpAnyH_ready (rs := [10]) (by kernel_rfl) (by simp) ?_
              refine AllReadyH.cons rfl (fun K hK => ?_) AllReadyH.nil
              refine step_plain rfl (wp_append_e _ _ rfl rfl HO1.out rfl rfl (src1 HY3.out (KD2.out _ HB3.out)) (by have := HB3.out.size; omega) hlc (by simp only [List.nil_append]; omega) ?_)
              intro v8 u8 hO hg
              have HB4 := Lib.hid (HB3.out.grown hg HB3.out.size HO1.out.ownLe)
              have HO2 := Lib.hid hO
              clear hO hg
              refine hK.out _ _ (MS.out _ HB4.out) (fun hHeld2 => ?_)
              clear hK K hHeld
              have hHeld := hHeld2
              clear hHeld2
              (try simp only [Act.put, List.getElem_toArray, List.getElem_cons_zero, List.getElem_cons_succ, List.setIfInBounds_toArray, List.set_cons_zero, List.set_cons_succ])
              refine wpAnyH_ready (rs := [14]) (by kernel_rfl) (by simp) ?_
              refine AllReadyH.cons rfl (fun K hK => ?_) AllReadyH.nil
              refine step_plain rfl (wp_append_e _ _ rfl rfl HO2.out rfl hDl (by first | exact SD.out _ HB4.out | (split; (exact SDN.out (by assumption) _ _); (exact SD.out _ HB4.out))) (by have := HB4.out.size; omega) hlc (by simp only [List.nil_append, List.length_append, List.length_singleton]; omega) ?_)
              intro v9 u9 hO hg
              have HB5 := Lib.hid (HB4.out.grown hg HB4.out.size HO2.out.ownLe)
              have HO3 := Lib.hid hO
              clear hO hg
              refine hK.out _ _ (MS.out _ HB5.out) (fun hHeld2 => ?_)
              clear hK K hHeld
              have hHeld := hHeld2
              clear hHeld2
              (try simp only [Act.put, List.getElem_toArray, List.getElem_cons_zero, List.getElem_cons_succ, List.setIfInBounds_toArray, List.set_cons_zero, List.set_cons_succ])
              refine wpAnyH_take (i := 15) (v := ?v25) rfl (by kernel_rfl) (by kernel_rfl) (by kernel_rfl) (fun _ _ _ h => h) (Or.inl ⟨by kernel_rfl, ?hy25⟩) (by assumption) ?rest25
              case hy25 => intro w hSw; (try dsimp only at hSw); go_simp; (first | done | with_reducible rfl)
              (try simp only [Act.put, List.getElem_toArray, List.getElem_cons_zero, List.getElem_cons_succ, List.setIfInBounds_toArray, List.set_cons_zero, List.set_cons_succ])
              refine wpAnyH_done (by kernel_rfl) ?_ _
              go_wp2_with fail
              go_roundw
              case rel => exact ⟨i + 1, _, by go_num, rfl, by omega, Lib.hid (FIN.out _ _ HO3.out), Lib.hid (HBW2.out.trans (HB5.out.mono HBW2.out.size))⟩
              case measure => simp only [intOf]; omega
          · go_simp
            obtain ⟨u1, hu⟩ : ∃ u1, u0.alloc (.cells #[.int .i64 ea, .int .i64 eb, .int .i64 ek, .int .i64 em, .slice sp sm sc] 44) = u1 := ⟨_, rfl⟩
            have bb : Below u0.heap.size u0 u1 := by rw [← hu]; exact (Below.refl _ _).alloc (Nat.le_refl _) _
            have hn := heap_alloc_new u0 (.cells #[.int .i64 ea, .int .i64 eb, .int .i64 ek, .int .i64 em, .slice sp sm sc] 44)
            have HZb := Lib.hid (show u1.heap.size = u0.heap.size + 1 by rw [← hu]; simp)
            rw [hu] at hn ⊢
            have HB1 := Lib.hid (HB0.out.trans (bb.mono HB0.out.size))
            have HY := Lib.hid hn
            clear hn hu bb
            refine hK.out _ _ (MS.out _ HB1.out) (fun hHeld2 => ?_)
            clear hK K hHeld
            have hHeld := hHeld2
            clear hHeld2
            (try simp only [Act.put, List.getElem_toArray, List.getElem_cons_zero, List.getElem_cons_succ, List.setIfInBounds_toArray, List.set_cons_zero, List.set_cons_succ])
            refine wpAnyH_ready (rs := [0]) (by kernel_rfl) (by simp) ?_
            refine AllReadyH.cons rfl (fun K hK => ?_) AllReadyH.nil
            go_simp
            obtain ⟨u2, hu⟩ : ∃ u2, u1.alloc (.cells #[] 44) = u2 := ⟨_, rfl⟩
            have bb : Below u1.heap.size u1 u2 := by rw [← hu]; exact (Below.refl _ _).alloc (Nat.le_refl _) _
            have hn := heap_alloc_new u1 (.cells #[] 44)
            have HZc := Lib.hid (show u2.heap.size = u1.heap.size + 1 by rw [← hu]; simp)
            rw [hu] at hn ⊢
            have HB2 := Lib.hid (HB1.out.trans (bb.mono HB1.out.size))
            have HT := Lib.hid (OwnE.emp (lim := lim) (B := wc.heap.size) hn HB1.out.size)
            have HY2 := Lib.hid ((bb.block _ (by have := HZb.out; have := HZc.out; omega)).trans HY.out)
            refine hK.out _ _ (MS.out _ HB2.out) (fun hHeld2 => ?_)
            clear hK K hHeld
            have hHeld := hHeld2
            clear hHeld2
            (try simp only [Act.put, List.getElem_toArray, List.getElem_cons_zero, List.getElem_cons_succ, List.setIfInBounds_toArray, List.set_cons_zero, List.set_cons_succ])
            refine wpAnyH_ready (rs := [4]) (by kernel_rfl) (by simp) ?_
            refine AllReadyH.cons rfl (fun K hK => ?_) AllReadyH.nil
            refine step_plain rfl (wp_append_e _ _ rfl rfl HT.out rfl hTl (ST.out _ HB2.out) (by have := HB2.out.size; omega) hlc (by simp only [List.length_nil]; omega) ?_)
            intro v4 u3 hO hg
            have HB3 := Lib.hid (HB2.out.grown hg HB2.out.size HT.out.ownLe)
            have HY3 := Lib.hid ((hg.block _ (by have := HZb.out; have := HZc.out; omega) (fun e => by have := HZb.out; have := HZc.out; have e' := Option.some.inj (show some u0.heap.size = some u1.heap.size from e); omega)).trans HY2.out)
            have HO1 := Lib.hid hO
            clear hO hg
            refine hK.out _ _ (MS.out _ HB3.out) (fun hHeld2 => ?_)
            clear hK K hHeld
            have hHeld := hHeld2
            clear hHeld2
            (try simp only [Act.put, List.getElem_toArray, List.getElem_cons_zero, List.getElem_cons_succ, List.setIfInBounds_toArray, List.set_cons_zero, List.set_cons_succ])
            refine wpAnyH_ready (rs := [10]) (by kernel_rfl) (by simp) ?_
            refine AllReadyH.cons rfl (fun K hK => ?_) AllReadyH.nil
            refine step_plain rfl (wp_append_e _ _ rfl rfl HO1.out rfl rfl (src1 HY3.out (KD2.out _ HB3.out)) (by have := HB3.out.size; omega) hlc (by simp only [List.nil_append]; omega) ?_)
            intro v8 u8 hO hg
            have HB4 := Lib.hid (HB3.out.grown hg HB3.out.size HO1.out.ownLe)
            have HO2 := Lib.hid hO
            clear hO hg
            refine hK.out _ _ (MS.out _ HB4.out) (fun hHeld2 => ?_)
            clear hK K hHeld
            have hHeld := hHeld2
            clear hHeld2
            (try simp only [Act.put, List.getElem_toArray, List.getElem_cons_zero, List.getElem_cons_succ, List.setIfInBounds_toArray, List.set_cons_zero, List.set_cons_succ])
            refine wpAnyH_ready (rs := [14]) (by kernel_rfl) (by simp) ?_
            refine AllReadyH.cons rfl (fun K hK => ?_) AllReadyH.nil
            refine step_plain rfl (wp_append_e _ _ rfl rfl HO2.out rfl hDl (by first | exact SD.out _ HB4.out | (split; (exact SDN.out (by assumption) _ _); (exact SD.out _ HB4.out))) (by have := HB4.out.size; omega) hlc (by simp only [List.nil_append, List.length_append, List.length_singleton]; omega) ?_)
            intro v9 u9 hO hg
            have HB5 := Lib.hid (HB4.out.grown hg HB4.out.size HO2.out.ownLe)
            have HO3 := Lib.hid hO
            clear hO hg
            refine hK.out _ _ (MS.out _ HB5.out) (fun hHeld2 => ?_)
            clear hK K hHeld
            have hHeld := hHeld2
            clear hHeld2
            (try simp only [Act.put, List.getElem_toArray, List.getElem_cons_zero, List.getElem_cons_succ, List.setIfInBounds_toArray, List.set_cons_zero, List.set_cons_succ])
            refine wpAnyH_take (i := 15) (v := ?v26) rfl (by kernel_rfl) (by kernel_rfl) (by kernel_rfl) (fun _ _ _ h => h) (Or.inl ⟨by kernel_rfl, ?hy26⟩) (by assumption) ?rest26
            case hy26 => intro w hSw; (try dsimp only at hSw); go_simp; (first | done | with_reducible rfl)
            (try simp only [Act.put, List.getElem_toArray, List.getElem_cons_zero, List.getElem_cons_succ, List.setIfInBounds_toArray, List.set_cons_zero, List.set_cons_succ])
            refine wpAnyH_done (by kernel_rfl) ?_ _
            go_wp2_with fail
            go_roundw
            case rel => exact ⟨i + 1, _, by go_num, rfl, by omega, Lib.hid (FIN.out _ _ HO3.out), Lib.hid (HBW2.out.trans (HB5.out.mono HBW2.out.size))⟩
            case measure => simp only [intOf]; omega
end Go.Proofs.YtafmiilkdhdngaaGreatDoor
