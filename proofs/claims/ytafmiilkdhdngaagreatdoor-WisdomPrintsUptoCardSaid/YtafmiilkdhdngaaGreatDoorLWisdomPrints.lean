/- WisdomPrints: any entries' text, that it is read as these by their keys; or why there is none; of arguments of a bulk of at most 1048576. -/
import Derived.Test.YtafmiilkdhdngaaGreatDoorR34
import Derived.Test.YtafmiilkdhdngaaGreatDoorR35
import Derived.Test.YtafmiilkdhdngaaGreatDoorR22
namespace Go.Proofs.YtafmiilkdhdngaaGreatDoor
open Go.ChangeShapes Go.WideShapes Go.ChangeAt Go.RowKit
set_option linter.unusedVariables false
set_option linter.unusedSimpArgs false
namespace wisdomPrints
attribute [local go_sem ↓] Go.wp_at_zero Go.wp_at_succ
set_option maxRecDepth 100000 in
set_option maxHeartbeats 16000000 in
theorem walk (W : World) (v0 : Value) (l0 : List En) (hR0 : RowN W W.heap.size v0 l0) (hE0 : ∀ e ∈ l0, e.inr ∧ e.ks.cnt + 1 ≤ 1048576) (hm : ∃ m, W.cell? ⟨0, 0, none⟩ = some (.int .i64 m)) (hL : laidMet Tryz.prog Rows.wisdomPrintsUptoRow.laid W) :
    Calls Tryz.prog 3 #[v0] W fun e W' => e = .returned (.bool true) ∧ Below W.heap.size W W' := by
  have hT : Lib.TabIs Tryz.prog W "internal/strconv.uint64pow10" .u64 Lib.pow10Tab := pow10_head (laidMet.tail (laidMet.tail hL))
  have LV := Lib.hid (fun w (hb : Below W.heap.size W w) => live25 w (pow10_below hT hb))
  have HT_ := Lib.hid hT
  have HM := Lib.hid hm
  have MU := r24_much _ l0 W.heap.size W hR0 (Nat.le_refl _) (fun e he => (hE0 e he).2)
  obtain ⟨p, c, rfl, hlc, hcm⟩ := hR0.form
  have HR := Lib.hid hR0
  have HE := Lib.hid hE0
  clear hL hT hm hR0 hE0 hlc hcm
  go_enter Tryz.func3, Tryz.ntmps3
  go_wp2_with fail
  refine MU.mono ?_
  rintro e w1 ⟨⟨z, rfl, hz⟩, hb1⟩
  have HB1 := Lib.hid hb1
  clear hb1 MU
  cases z
  case true =>
    clear hz
    go_wp2_with fail
    refine (LV.out _ HB1.out).mono ?_
    rintro e w2 ⟨rfl, hb2⟩
    have HB2 := Lib.hid (HB1.out.trans (hb2.mono HB1.out.size))
    clear hb2
    go_wp2_with fail
    go_ret
    exact ⟨rfl, HB2.out⟩
  case false =>
    obtain ⟨hn, -⟩ := hz rfl
    have PR := w_print _ l0 W.heap.size w1 (HR.out.carry HB1.out) HB1.out.size (by omega) HE.out (pow10_below HT_.out HB1.out)
    clear hz
    go_wp2_with fail
    refine PR.mono ?_
    rintro e w2 ⟨⟨s, rfl, hs0, hs1⟩, hb2⟩
    have HB2 := Lib.hid (HB1.out.trans (hb2.mono HB1.out.size))
    have CK := r25_check _ l0 W.heap.size w2 (HR.out.carry HB2.out) HB2.out.size (by omega) HE.out
    obtain ⟨k, hk⟩ : ∃ k, wErr l0 = k := ⟨_, rfl⟩
    have HK := Lib.hid hk
    rw [hk] at hs0 hs1 CK ⊢
    have HS0 := Lib.hid hs0
    have HS1 := Lib.hid hs1
    have f1 : (k != k) = false := by simp
    clear PR hb2 hs0 hs1 hk
    go_wp2_with fail
    refine CK.mono ?_
    rintro e w3 ⟨rfl, hb3⟩
    have HB3 := Lib.hid (HB2.out.trans (hb3.mono HB2.out.size))
    clear CK hb3
    by_cases h0 : k = 0
    case neg =>
      have e1 : (k != 0) = true := by simp [bne, h0]
      obtain rfl := HS0.out h0
      clear HS0 HS1
      go_wp2_with fail
      refine (LV.out _ HB3.out).mono ?_
      rintro e w4 ⟨rfl, hb4⟩
      have HB4 := Lib.hid (HB3.out.trans (hb4.mono HB3.out.size))
      clear hb4
      go_wp2_with fail
      go_ret
      exact ⟨rfl, HB4.out⟩
    case pos =>
      subst h0
      obtain ⟨hbd, hap, hlz⟩ := wErr_zero HK.out
      have hs := HS1.out rfl
      have hpm := sortN_perm l0
      have hgd : ∀ e ∈ l0, GoodE e := fun e he => good_of (badE_all hbd e he)
      have hid := sortN_idem hap
      have PA := w_parse s w3 (HM.out.imp (fun m h => (HB3.out.cell (p := ⟨0, 0, none⟩) (block_lt_of_cell h)).trans h))
      have WP := Lib.hid (WPar.of_text hs (fun e he => hgd e (hpm.subset he)) (hap.perm hpm.symm) (by rw [Lib.size_eq, hs]; exact hlz))
      have TX := Lib.hid (fun (w' : World) (hb : Below W.heap.size W w') => r25_text _ l0 W.heap.size w' (HR.out.carry hb) hb.size (by omega) hgd)
      have ST := Lib.hid (fun (w' : World) (hb : Below W.heap.size W w') => r24_sort _ l0 W.heap.size w' (HR.out.carry hb) hb.size (by omega))
      have HID := Lib.hid hid
      have HS := Lib.hid hs
      have HLN := Lib.hid (show (sortN l0).length ≤ 30 by rw [sortN_len]; exact hn)
      clear hbd hap hlz hs hpm hgd hid HS0 HS1
      go_wp2_with fail
      refine PA.mono ?_
      rintro e w4 ⟨o2, ln2, c2, v2, hp2, rfl, hr2, hb4⟩
      obtain ⟨e1, e2, e3⟩ := WP.out.uniq hp2
      subst e1 e2 e3
      rw [HID.out] at hr2
      have HB4 := Lib.hid (HB3.out.trans (hb4.mono HB3.out.size))
      have HR4 := Lib.hid hr2
      obtain ⟨va, vc, rfl, -, -⟩ := hr2.form
      have T := TX.out w4 HB4.out
      clear PA hp2 hr2 hb4
      go_wp2_with fail
      refine T.mono ?_
      rintro e w5 ⟨s', rfl, hs', hb5⟩
      obtain rfl : s' = s := ba_ext (hs'.trans HS.out.symm)
      have HB5 := Lib.hid (HB4.out.trans (hb5.mono HB4.out.size))
      have HR5 := Lib.hid (HR4.out.below (Nat.le_refl _) hb5)
      have h45 := hb5.size
      have S5 := ST.out w5 HB5.out
      have f3 : (s'.toList == s'.toList) = true := by simp
      clear T hs' hb5
      go_wp2_with fail
      refine S5.mono ?_
      rintro e w6 ⟨v6, rfl, hO6, hb6⟩
      have HB6 := Lib.hid (HB5.out.trans (hb6.mono HB5.out.size))
      have hr6 := hO6.rowN HB6.out.size
      have h56 := hb6.size
      have AL := r24_all_same _ v6 (sortN l0) w6.heap.size w6 ((HR5.out.below h45 hb6).mono (by omega)) hr6 (Nat.le_refl _) (by have := HLN.out; omega)
      obtain ⟨va6, vc6, rfl, -, -⟩ := hr6.form
      clear S5 hO6 hb6 hr6
      go_wp2_with fail
      refine AL.mono ?_
      rintro e w7 ⟨rfl, hb7⟩
      have HB7 := Lib.hid (HB6.out.trans (hb7.mono HB6.out.size))
      clear AL hb7
      go_wp2_with fail
      refine (LV.out _ HB7.out).mono ?_
      rintro e w8 ⟨rfl, hb8⟩
      have HB8 := Lib.hid (HB7.out.trans (hb8.mono HB7.out.size))
      clear hb8
      go_wp2_with fail
      go_ret
      exact ⟨rfl, HB8.out⟩
end wisdomPrints
end Go.Proofs.YtafmiilkdhdngaaGreatDoor
