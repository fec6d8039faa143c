/- EntrySorts: any entries by their keys, and how any two keys stand to each other. -/
import Derived.Test.YtmbcfijhlpeddaaDoorG7
import Derived.Test.YtmbcfijhlpeddaaDoorG14
namespace Go.Proofs.YtmbcfijhlpeddaaDoor
open Go.ChangeShapes Go.WideShapes Go.ChangeAt Go.RowKit
set_option linter.unusedVariables false
set_option linter.unusedSimpArgs false
theorem cmpK_three (a b a' b' : Int) : (Srt.klt (a, b) (a', b') = true ∧ Srt.klt (a', b') (a, b) = false ∧ cmpK a b a' b' = -1) ∨ (Srt.klt (a, b) (a', b') = false ∧ Srt.klt (a', b') (a, b) = true ∧ cmpK a b a' b' = 1) ∨ (Srt.klt (a, b) (a', b') = false ∧ Srt.klt (a', b') (a, b) = false ∧ cmpK a b a' b' = 0) := by
  unfold Srt.klt cmpK cmp3
  simp only [fz, decide_eq_true_eq, decide_eq_false_iff_not]
  by_cases h1 : a < a'
  · left; simp [h1]; omega
  · by_cases h2 : a' < a
    · right; left; simp [h1, h2]; omega
    · have : a = a' := by omega
      subst this
      by_cases h3 : b < b'
      · left; simp [h3]; omega
      · by_cases h4 : b' < b
        · right; left; simp [h3, h4]
        · right; right; simp [h3, h4]
namespace entrySorts
attribute [local go_sem ↓] Go.wp_at_zero Go.wp_at_succ
set_option maxRecDepth 100000 in
set_option maxHeartbeats 16000000 in
theorem walk (W : World) (v0 : Value) (l0 : List En) (hR0 : RowN W W.heap.size v0 l0) (hE0 : ∀ e ∈ l0, e.inr ∧ e.ks.cnt + 1 ≤ 1048576) (a1_0 : Int) (w1_0 : -9223372036854775808 ≤ a1_0 ∧ a1_0 ≤ 9223372036854775807) (a1_1 : Int) (w1_1 : -9223372036854775808 ≤ a1_1 ∧ a1_1 ≤ 9223372036854775807) (a2_0 : Int) (w2_0 : -9223372036854775808 ≤ a2_0 ∧ a2_0 ≤ 9223372036854775807) (a2_1 : Int) (w2_1 : -9223372036854775808 ≤ a2_1 ∧ a2_1 ≤ 9223372036854775807) (hL : laidMet Tryd.prog Rows.entrySortsUptoRow.laid W) :
    Calls Tryd.prog 3 #[v0, .agg #[.int .i64 a1_0, .int .i64 a1_1], .agg #[.int .i64 a2_0, .int .i64 a2_1]] W fun e W' => e = .returned (.bool true) ∧ Below W.heap.size W W' := by
  have hT : Lib.TabIs Tryd.prog W "internal/strconv.uint64pow10" .u64 Lib.pow10Tab := pow10_head (laidMet.tail (laidMet.tail hL))
  have LV := Lib.hid (fun w (hb : Below W.heap.size W w) => live24 w (pow10_below hT hb))
  obtain ⟨p, c, rfl, hlc, hcm⟩ := hR0.form
  obtain ⟨w0, hw0, x0, x1, y0, y1, hB0, hs0⟩ := box2k W a1_0 a1_1 a2_0 a2_1 24
  have HW0 := Lib.hid hw0.symm
  have hR := hR0.below (Nat.le_refl _) hB0
  have hz0 := hB0.size
  have MU := Lib.hid (r24_much _ l0 W.heap.size w0 hR hz0 (fun e he => (hE0 e he).2))
  have HBW := Lib.hid (fun w' (hb : Below w0.heap.size w0 w') => hB0.trans (hb.mono hz0))
  have SO := Lib.hid (fun w' (hb : Below w0.heap.size w0 w') (hn : l0.length ≤ 30 ∧ ∀ e ∈ l0, e.ks.cnt + 1 ≤ 80) => entry_sort _ l0 W.heap.size w' (hR.below hz0 hb) (by have := hb.size; omega) (by omega) (fun e he => by have := hn.2 e he; omega))
  have RS := Lib.hid (fun w' (hb : Below w0.heap.size w0 w') (hn : l0.length ≤ 30) => r24_sort _ l0 W.heap.size w' (hR.below hz0 hb) (by have := hb.size; omega) (by omega))
  have AL := Lib.hid (fun (w1 w2 : World) g v' (hb1 : Below w0.heap.size w0 w1) (hb2 : Below w1.heap.size w1 w2) (h1 : RowN w1 w1.heap.size (.slice (some ⟨g, 0, none⟩) l0.length l0.length) (sortN l0)) (h2 : OwnE w2 W.heap.size w1.heap.size v' (sortN l0)) (hn : l0.length ≤ 30) => r24_all_same _ _ (sortN l0) w2.heap.size w2 ((h1.below (Nat.le_refl _) hb2).mono hb2.size) (h2.rowN (by have := hb1.size; have := hb2.size; omega)) (Nat.le_refl _) (by rw [sortN_len]; omega))
  have AH1 := Lib.hid (fun w => r24_ahead a1_0 a1_1 a2_0 a2_1 w)
  have AH2 := Lib.hid (fun w => r24_ahead a2_0 a2_1 a1_0 a1_1 w)
  have CM := Lib.hid (fun w => e_cmp a1_0 a1_1 a2_0 a2_1 w)
  have lt0 : W.heap.size < w0.heap.size := by omega
  have lt1 : W.heap.size + 1 < w0.heap.size := by omega
  have KX := Lib.hid (fun w' (hb : Below w0.heap.size w0 w') => (show w'.cell? ⟨W.heap.size, 0, none⟩ = some (.int .i64 a1_0) ∧ w'.cell? ⟨W.heap.size, 1, none⟩ = some (.int .i64 a1_1) ∧ w'.cell? ⟨W.heap.size + 1, 0, none⟩ = some (.int .i64 a2_0) ∧ w'.cell? ⟨W.heap.size + 1, 1, none⟩ = some (.int .i64 a2_1) from
    ⟨(hb.cell (p := ⟨W.heap.size, 0, none⟩) lt0).trans x0, (hb.cell (p := ⟨W.heap.size, 1, none⟩) lt0).trans x1, (hb.cell (p := ⟨W.heap.size + 1, 0, none⟩) lt1).trans y0, (hb.cell (p := ⟨W.heap.size + 1, 1, none⟩) lt1).trans y1⟩))
  have C3 := cmpK_three a1_0 a1_1 a2_0 a2_1
  generalize Srt.klt (a1_0, a1_1) (a2_0, a2_1) = z1 at *
  generalize Srt.klt (a2_0, a2_1) (a1_0, a1_1) = z2 at *
  generalize cmpK a1_0 a1_1 a2_0 a2_1 = z3 at *
  clear hT hL hR0 hE0 hR hw0 hB0 hs0 hlc hcm lt0 lt1 hz0 x0 x1 y0 y1
  rcases C3 with ⟨rfl, rfl, rfl⟩ | ⟨rfl, rfl, rfl⟩ | ⟨rfl, rfl, rfl⟩
  · obtain ⟨x0, x1, y0, y1⟩ := KX.out w0 (Below.refl _ _)
    go_enter Tryd.func3, Tryd.ntmps3
    go_upto_region 1 with fail
    rw [HW0.out]
    go_wp2_with fail
    refine MU.out.mono ?_
    rintro e w1 ⟨⟨z, rfl, hz⟩, hb1⟩
    cases z
    case true =>
      clear hz MU SO RS AL AH1 AH2 CM KX x0 x1 y0 y1
      have L1 := LV.out w1 (HBW.out _ hb1)
      have H1 := Lib.hid (HBW.out _ hb1)
      clear hb1
      go_wp2_with fail
      refine L1.mono ?_
      rintro e w2 ⟨rfl, hb2⟩
      have H2 := Lib.hid (H1.out.trans (hb2.mono H1.out.size))
      clear hb2 L1
      go_wp2_with fail
      go_ret
      exact ⟨rfl, H2.out⟩
    case false =>
      have hz := hz rfl
      have HZ := Lib.hid hz
      have H1 := Lib.hid hb1
      clear hz hb1 MU x0 x1 y0 y1
      obtain ⟨x0, x1, y0, y1⟩ := KX.out w1 H1.out
      go_wp2_with fail
      refine (AH1.out _).mono ?_
      rintro e w2 ⟨rfl, hb2⟩
      have H2 := Lib.hid (H1.out.trans (hb2.mono H1.out.size))
      clear hb2 x0 x1 y0 y1
      obtain ⟨x0, x1, y0, y1⟩ := KX.out w2 H2.out
      go_wp2_with fail
      refine (AH2.out _).mono ?_
      rintro e w3 ⟨rfl, hb3⟩
      have H3 := Lib.hid (H2.out.trans (hb3.mono H2.out.size))
      clear hb3 x0 x1 y0 y1
      go_wp2_with fail
      refine (SO.out _ H3.out HZ.out).mono ?_
      rintro e w4 ⟨g, rfl, -, hr4, hb4⟩
      have H4 := Lib.hid (H3.out.trans (hb4.mono H3.out.size))
      have R4 := Lib.hid hr4
      clear hb4 hr4
      go_wp2_with fail
      refine (RS.out _ H4.out HZ.out.1).mono ?_
      rintro e w5 ⟨v5, rfl, ho5, hb5⟩
      have A5 := Lib.hid (AL.out w4 w5 g v5 H4.out hb5 R4.out ho5 HZ.out.1)
      have H5 := Lib.hid (H4.out.trans (hb5.mono H4.out.size))
      obtain ⟨vp, vm, vc, rfl⟩ : ∃ vp vm vc, v5 = .slice vp vm vc := by
        rcases ho5.form with ⟨h, _⟩ | ⟨_, _, h, _⟩
        · exact ⟨_, _, _, h⟩
        · exact ⟨_, _, _, h⟩
      clear hb5 ho5 R4
      go_wp2_with fail
      refine A5.out.mono ?_
      rintro e w6 ⟨rfl, hb6⟩
      have H6 := Lib.hid (H5.out.trans (hb6.mono H5.out.size))
      clear hb6 A5
      obtain ⟨x0, x1, y0, y1⟩ := KX.out w6 H6.out
      go_wp2_with fail
      refine (CM.out _).mono ?_
      rintro e w7 ⟨rfl, hb7⟩
      have H7 := Lib.hid (H6.out.trans (hb7.mono H6.out.size))
      clear hb7 x0 x1 y0 y1
      have L7 := LV.out w7 (HBW.out _ H7.out)
      go_wp2_with fail
      refine L7.mono ?_
      rintro e w8 ⟨rfl, hb8⟩
      have H8 := Lib.hid ((HBW.out _ H7.out).trans (hb8.mono (HBW.out _ H7.out).size))
      clear hb8 L7
      go_wp2_with fail
      go_ret
      exact ⟨rfl, H8.out⟩
  · obtain ⟨x0, x1, y0, y1⟩ := KX.out w0 (Below.refl _ _)
    go_enter Tryd.func3, Tryd.ntmps3
    go_upto_region 1 with fail
    rw [HW0.out]
    go_wp2_with fail
    refine MU.out.mono ?_
    rintro e w1 ⟨⟨z, rfl, hz⟩, hb1⟩
    cases z
    case true =>
      clear hz MU SO RS AL AH1 AH2 CM KX x0 x1 y0 y1
      have L1 := LV.out w1 (HBW.out _ hb1)
      have H1 := Lib.hid (HBW.out _ hb1)
      clear hb1
      go_wp2_with fail
      refine L1.mono ?_
      rintro e w2 ⟨rfl, hb2⟩
      have H2 := Lib.hid (H1.out.trans (hb2.mono H1.out.size))
      clear hb2 L1
      go_wp2_with fail
      go_ret
      exact ⟨rfl, H2.out⟩
    case false =>
      have hz := hz rfl
      have HZ := Lib.hid hz
      have H1 := Lib.hid hb1
      clear hz hb1 MU x0 x1 y0 y1
      obtain ⟨x0, x1, y0, y1⟩ := KX.out w1 H1.out
      go_wp2_with fail
      refine (AH1.out _).mono ?_
      rintro e w2 ⟨rfl, hb2⟩
      have H2 := Lib.hid (H1.out.trans (hb2.mono H1.out.size))
      clear hb2 x0 x1 y0 y1
      obtain ⟨x0, x1, y0, y1⟩ := KX.out w2 H2.out
      go_wp2_with fail
      refine (AH2.out _).mono ?_
      rintro e w3 ⟨rfl, hb3⟩
      have H3 := Lib.hid (H2.out.trans (hb3.mono H2.out.size))
      clear hb3 x0 x1 y0 y1
      go_wp2_with fail
      refine (SO.out _ H3.out HZ.out).mono ?_
      rintro e w4 ⟨g, rfl, -, hr4, hb4⟩
      have H4 := Lib.hid (H3.out.trans (hb4.mono H3.out.size))
      have R4 := Lib.hid hr4
      clear hb4 hr4
      go_wp2_with fail
      refine (RS.out _ H4.out HZ.out.1).mono ?_
      rintro e w5 ⟨v5, rfl, ho5, hb5⟩
      have A5 := Lib.hid (AL.out w4 w5 g v5 H4.out hb5 R4.out ho5 HZ.out.1)
      have H5 := Lib.hid (H4.out.trans (hb5.mono H4.out.size))
      obtain ⟨vp, vm, vc, rfl⟩ : ∃ vp vm vc, v5 = .slice vp vm vc := by
        rcases ho5.form with ⟨h, _⟩ | ⟨_, _, h, _⟩
        · exact ⟨_, _, _, h⟩
        · exact ⟨_, _, _, h⟩
      clear hb5 ho5 R4
      go_wp2_with fail
      refine A5.out.mono ?_
      rintro e w6 ⟨rfl, hb6⟩
      have H6 := Lib.hid (H5.out.trans (hb6.mono H5.out.size))
      clear hb6 A5
      obtain ⟨x0, x1, y0, y1⟩ := KX.out w6 H6.out
      go_wp2_with fail
      refine (CM.out _).mono ?_
      rintro e w7 ⟨rfl, hb7⟩
      have H7 := Lib.hid (H6.out.trans (hb7.mono H6.out.size))
      clear hb7 x0 x1 y0 y1
      have L7 := LV.out w7 (HBW.out _ H7.out)
      go_wp2_with fail
      refine L7.mono ?_
      rintro e w8 ⟨rfl, hb8⟩
      have H8 := Lib.hid ((HBW.out _ H7.out).trans (hb8.mono (HBW.out _ H7.out).size))
      clear hb8 L7
      go_wp2_with fail
      go_ret
      exact ⟨rfl, H8.out⟩
  · obtain ⟨x0, x1, y0, y1⟩ := KX.out w0 (Below.refl _ _)
    go_enter Tryd.func3, Tryd.ntmps3
    go_upto_region 1 with fail
    rw [HW0.out]
    go_wp2_with fail
    refine MU.out.mono ?_
    rintro e w1 ⟨⟨z, rfl, hz⟩, hb1⟩
    cases z
    case true =>
      clear hz MU SO RS AL AH1 AH2 CM KX x0 x1 y0 y1
      have L1 := LV.out w1 (HBW.out _ hb1)
      have H1 := Lib.hid (HBW.out _ hb1)
      clear hb1
      go_wp2_with fail
      refine L1.mono ?_
      rintro e w2 ⟨rfl, hb2⟩
      have H2 := Lib.hid (H1.out.trans (hb2.mono H1.out.size))
      clear hb2 L1
      go_wp2_with fail
      go_ret
      exact ⟨rfl, H2.out⟩
    case false =>
      have hz := hz rfl
      have HZ := Lib.hid hz
      have H1 := Lib.hid hb1
      clear hz hb1 MU x0 x1 y0 y1
      obtain ⟨x0, x1, y0, y1⟩ := KX.out w1 H1.out
      go_wp2_with fail
      refine (AH1.out _).mono ?_
      rintro e w2 ⟨rfl, hb2⟩
      have H2 := Lib.hid (H1.out.trans (hb2.mono H1.out.size))
      clear hb2 x0 x1 y0 y1
      obtain ⟨x0, x1, y0, y1⟩ := KX.out w2 H2.out
      go_wp2_with fail
      refine (AH2.out _).mono ?_
      rintro e w3 ⟨rfl, hb3⟩
      have H3 := Lib.hid (H2.out.trans (hb3.mono H2.out.size))
      clear hb3 x0 x1 y0 y1
      go_wp2_with fail
      refine (SO.out _ H3.out HZ.out).mono ?_
      rintro e w4 ⟨g, rfl, -, hr4, hb4⟩
      have H4 := Lib.hid (H3.out.trans (hb4.mono H3.out.size))
      have R4 := Lib.hid hr4
      clear hb4 hr4
      go_wp2_with fail
      refine (RS.out _ H4.out HZ.out.1).mono ?_
      rintro e w5 ⟨v5, rfl, ho5, hb5⟩
      have A5 := Lib.hid (AL.out w4 w5 g v5 H4.out hb5 R4.out ho5 HZ.out.1)
      have H5 := Lib.hid (H4.out.trans (hb5.mono H4.out.size))
      obtain ⟨vp, vm, vc, rfl⟩ : ∃ vp vm vc, v5 = .slice vp vm vc := by
        rcases ho5.form with ⟨h, _⟩ | ⟨_, _, h, _⟩
        · exact ⟨_, _, _, h⟩
        · exact ⟨_, _, _, h⟩
      clear hb5 ho5 R4
      go_wp2_with fail
      refine A5.out.mono ?_
      rintro e w6 ⟨rfl, hb6⟩
      have H6 := Lib.hid (H5.out.trans (hb6.mono H5.out.size))
      clear hb6 A5
      obtain ⟨x0, x1, y0, y1⟩ := KX.out w6 H6.out
      go_wp2_with fail
      refine (CM.out _).mono ?_
      rintro e w7 ⟨rfl, hb7⟩
      have H7 := Lib.hid (H6.out.trans (hb7.mono H6.out.size))
      clear hb7 x0 x1 y0 y1
      have L7 := LV.out w7 (HBW.out _ H7.out)
      go_wp2_with fail
      refine L7.mono ?_
      rintro e w8 ⟨rfl, hb8⟩
      have H8 := Lib.hid ((HBW.out _ H7.out).trans (hb8.mono (HBW.out _ H7.out).size))
      clear hb8 L7
      go_wp2_with fail
      go_ret
      exact ⟨rfl, H8.out⟩
end entrySorts
end Go.Proofs.YtmbcfijhlpeddaaDoor
