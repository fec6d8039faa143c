/- ScriptBig: what is told of texts and of scripts that are too big. -/
import Derived.Test.YtoejflnlkapkiaaDoorScv
import Derived.Lib.LaidTab
import Derived.Stop.LaidErr
import Derived.Deep.Cut
namespace Go.Proofs.YtoejflnlkapkiaaDoor
open Go.ChangeShapes Go.WideShapes Go.ChangeAt Go.RowKit
set_option linter.unusedVariables false
set_option linter.unusedSimpArgs false
theorem sb_pow10_data : (Rows.laid_internal_strconv_uint64pow10 : DataW Unit) = Lib.tabData .u64 Lib.pow10Tab := by kernel_rfl
theorem sb_pow10_head {W : World} {l : List (String × DataW Unit)} (hL : laidMet Tryd.prog (("internal/strconv.uint64pow10", Rows.laid_internal_strconv_uint64pow10) :: l) W) : Lib.TabIs Tryd.prog W "internal/strconv.uint64pow10" .u64 Lib.pow10Tab := by
  rw [sb_pow10_data] at hL
  exact Lib.tabIs_of_head (g := 0) (t := 127) (e := 78) (n := 20) (by kernel_rfl) (by kernel_rfl) Tryd.underlying127 Tryd.underlying78 (by kernel_rfl) (by kernel_rfl) hL
theorem tm5 (k : Nat) : (k : Int).tmod 5 = ((k % 5 : Nat) : Int) := by rw [show (5 : Int) = ((5 : Nat) : Int) from rfl, ← Int.ofNat_tmod]
theorem tm4 (k : Nat) : (k : Int).tmod 4 = ((k % 4 : Nat) : Int) := by rw [show (4 : Int) = ((4 : Nat) : Int) from rfl, ← Int.ofNat_tmod]
namespace scriptBig
set_option maxRecDepth 100000 in
set_option maxHeartbeats 8000000 in
theorem main (W : World) (k : Nat) (hk : k ≤ 255) (hm : MaxAt W) (h1 : 1 < W.heap.size) (hT : Lib.TabIs Tryd.prog W "internal/strconv.uint64pow10" .u64 Lib.pow10Tab) :
    Calls Tryd.prog 6 #[.int .u8 (k : Int)] W fun e W' => e = .returned (.bool true) ∧ Below W.heap.size W W' := by
  have WKH := Lib.hid (show wrap64 (k : Int) = (k : Int) by simp only [wrap64]; omega)
  obtain ⟨r, hr⟩ : ∃ r, k % 5 = r := ⟨_, rfl⟩
  obtain ⟨q, hq⟩ : ∃ q, k % 4 = q := ⟨_, rfl⟩
  have HR5 := Lib.hid (show (k : Int).tmod 5 = (r : Int) ∧ (k : Int) % 5 = (r : Int) from ⟨by rw [tm5, hr], by omega⟩)
  have HQ4 := Lib.hid (show (k : Int).tmod 4 = (q : Int) ∧ (k : Int) % 4 = (q : Int) from ⟨by rw [tm4, hq], by omega⟩)
  have hrl : r < 5 := by omega
  have hql : q < 4 := by omega
  obtain ⟨N, hN⟩ : ∃ N, 1048574 + r = N := ⟨_, rfl⟩
  obtain ⟨M, hM⟩ : ∃ M, 524276 + q = M := ⟨_, rfl⟩
  obtain ⟨M2, hM2⟩ : ∃ M2, 2 * M = M2 := ⟨_, rfl⟩
  obtain ⟨L, hL⟩ : ∃ L, M2 + 21 = L := ⟨_, rfl⟩
  have HWN := Lib.hid (show wrap64 (1048574 + (r : Int)) = (N : Int) by simp only [wrap64]; omega)
  have HWM := Lib.hid (show wrap64 ((q : Int) + 524276) = (M : Int) ∧ wrap64 (M : Int) = (M : Int) ∧ wrap64 (M2 : Int) = (M2 : Int) ∧ wrap64 (L : Int) = (L : Int) ∧ (2 : Int) * (M : Int) = (M2 : Int) ∧ (M2 : Int) + 21 = (L : Int) from ⟨by simp only [wrap64]; omega, by simp only [wrap64]; omega, by simp only [wrap64]; omega, by simp only [wrap64]; omega, by omega, by omega⟩)
  have HLM := Lib.hid (show 2 * M + 21 = L by omega)
  clear hM2 hL
  have hmk := make_u8 N (by omega)
  obtain ⟨w0, hw0, r0, hB0, hs0⟩ := boxG W (Array.replicate N (.int .u8 0)) 5
  have hcv := conv_zero w0 W.heap.size N r0
  have hm0 := hm.below hB0 h1
  have HT0 := Lib.hid (pow10_bel hT hB0)
  have HB0 := Lib.hid hB0
  have h10 : 1 < w0.heap.size := by omega
  have HNM := Lib.hid (show N ≤ 1048578 ∧ 1048574 ≤ N ∧ 524276 ≤ M ∧ M ≤ 524279 by omega)
  have AL := Lib.hid (fun (w : World) => l42_alike0 w)
  have LV := Lib.hid (fun (w : World) (hb : Below w0.heap.size w0 w) => live42 w (pow10_bel HT0.out hb))
  have HNI := Lib.hid (show (1048574 : Int) + (r : Int) = (N : Int) ∧ (q : Int) + 524276 = (M : Int) by omega)
  clear hr hq hrl hql hN hM r0 hB0 hs0 hk hT hm h1
  by_cases hbig : 1048576 < N
  · have PA := Lib.hid (sc_parse_big (zeroT N) (by rw [zeroT_size]; exact hbig) w0)
    have d1 : decide ((1048576 : Int) < (N : Int)) = true := decide_eq_true (by omega)
    clear hm0 h10 hbig
    have WK := WKH.out
    obtain ⟨hNI, hMI⟩ := HNI.out
    have WN := HWN.out
    obtain ⟨WM, WM0, WM2, WM3, hM2, hL⟩ := HWM.out
    obtain ⟨hr5, hr5'⟩ := HR5.out
    obtain ⟨hq4, hq4'⟩ := HQ4.out
    go_enter Tryd.func6, Tryd.ntmps6
    go_wp2_with fail
    refine PA.out.mono ?_
    rintro e w1 ⟨rfl, hb1⟩
    have HB1 := Lib.hid hb1
    clear hb1
    have HB2 := Lib.hid (HB1.out.alloc HB1.out.size (.cells #[.int .i64 0, .int .i64 0, .slice none 0 0, .slice none 0 0, .slice none 0 0] 25))
    unfold zeroSc
    go_wp2_with fail
    refine (AL.out _).mono ?_
    rintro e w3 ⟨rfl, hb3⟩
    have HB3 := Lib.hid (HB2.out.trans (hb3.mono HB2.out.size))
    clear hb3
    go_wp2_with fail
    refine (LV.out _ HB3.out).mono ?_
    rintro e w4 ⟨rfl, hb4⟩
    have HB4 := Lib.hid (HB0.out.trans ((HB3.out.trans (hb4.mono HB3.out.size)).mono HB0.out.size))
    clear hb4
    go_wp2_with fail
    go_ret
    exact ⟨rfl, HB4.out⟩
  · have PA := Lib.hid (sc_parse_none (zeroT N) (by rw [zeroT_size]; have := HNM.out; omega) (by rw [zeroT_size]; omega) (zeroT_idx N) w0 hm0 h10)
    have d1 : decide ((1048576 : Int) < (N : Int)) = false := decide_eq_false (by omega)
    have hmk2 := make_i64 M (by have := HNM.out; omega)
    clear hm0 h10 hbig
    have WK := WKH.out
    obtain ⟨hNI, hMI⟩ := HNI.out
    have WN := HWN.out
    obtain ⟨hr5, hr5'⟩ := HR5.out
    go_enter Tryd.func6, Tryd.ntmps6
    go_wp2_with fail
    refine PA.out.mono ?_
    rintro e w1 ⟨rfl, hb1⟩
    have HB1 := Lib.hid hb1
    clear hb1 WK hNI hMI WN hr5 hr5'
    obtain ⟨w2, hw2, r2, hB2, hs2⟩ := boxG w1 #[.int .i64 0, .int .i64 0, .slice none 0 0, .slice none 0 0, .slice none 0 0] 25
    have HB2 := Lib.hid (HB1.out.trans (hB2.mono HB1.out.size))
    have HW2 := Lib.hid hw2
    have HS2 := Lib.hid hs2
    clear r2 hB2 hs2 hw2
    unfold zeroSc
    obtain ⟨w3, hw3, r3, hB3, hs3⟩ := boxG w2 (Array.replicate M (.int .i64 0)) 3
    have HB3 := Lib.hid (HB2.out.trans (hB3.mono HB2.out.size))
    have hrow : RowI w3 (some ⟨w2.heap.size, 0, none⟩) M (List.replicate M 0) := RowI.of_at (T := 3) (by unfold RowAtI; rw [r3]; simp) (by
      intro u hu
      rw [List.eq_of_mem_replicate hu]; decide) (by simp) (by have := HNM.out; omega)
    have PR := Lib.hid (sc_print 0 0 (.slice none 0 0) [] (some ⟨w2.heap.size, 0, none⟩) M M (List.replicate M 0) none 0 0 [] w3 (by unfold i64r; decide) (by unfold i64r; decide) ⟨none, 0, rfl, .inl rfl⟩ (by decide) (by simp) hrow (by have := HNM.out; omega) (rowI_nil _) (by decide) (by rw [scT_zero]; have := HNM.out; omega) (by simp) (pow10_bel HT0.out HB3.out) (by simp))
    have hlen := scT_zero M
    rw [HLM.out] at hlen
    obtain ⟨T, hTT⟩ : ∃ T, scT 0 0 (List.replicate M 0) [] [] = T := ⟨_, rfl⟩
    rw [hTT] at PR hlen
    rw [HS2.out] at PR
    have HW3 := Lib.hid hw3
    clear r3 hB3 hs3 hrow hTT hw3
    by_cases hb : L ≤ 1048576
    · have hS : bigS T = ⟨T.toArray⟩ := by unfold bigS; rw [if_pos (by omega)]
      have hE : bigE T = 0 := by unfold bigE; rw [if_pos (by omega)]
      rw [hS, hE] at PR
      have hsz : (⟨T.toArray⟩ : ByteArray).size = L := by show T.toArray.size = _; simp [hlen]
      have d2 : decide ((1048576 : Int) < (L : Int)) = false := decide_eq_false (by omega)
      generalize (⟨T.toArray⟩ : ByteArray) = S at *
      clear hS hE hlen hb
      obtain ⟨-, -, -, -, hM2, hL⟩ := HWM.out
      have hMb : M ≤ 524279 := HNM.out.2.2.2
      have hLb : L ≤ 2000000 := by have := HLM.out; omega
      have hM2b : M2 ≤ 2000000 := by have := HLM.out; omega
      have WK := WKH.out
      have WM := HWM.out.1
      obtain ⟨hNI, hMI⟩ := HNI.out
      obtain ⟨hq4, hq4'⟩ := HQ4.out
      go_wp2_with fail
      clear hNI hMI hq4 hq4' WK WM
      rw [HW2.out, HW3.out]
      refine PR.out.mono ?_
      rintro e w4 ⟨rfl, hb4⟩
      have HB4 := Lib.hid (HB3.out.trans (hb4.mono HB3.out.size))
      clear hb4
      go_wp2_with fail
      refine (LV.out _ HB4.out).mono ?_
      rintro e w5 ⟨rfl, hb5⟩
      have HB5 := Lib.hid (HB0.out.trans ((HB4.out.trans (hb5.mono HB4.out.size)).mono HB0.out.size))
      clear hb5
      go_wp2_with fail
      go_ret
      exact ⟨rfl, HB5.out⟩
    · have hS : bigS T = ⟨#[]⟩ := by unfold bigS; rw [if_neg (by omega)]
      have hE : bigE T = 12 := by unfold bigE; rw [if_neg (by omega)]
      rw [hS, hE] at PR
      have d2 : decide ((1048576 : Int) < (L : Int)) = true := decide_eq_true (by omega)
      clear hS hE hlen hb
      obtain ⟨-, -, -, -, hM2, hL⟩ := HWM.out
      have hMb : M ≤ 524279 := HNM.out.2.2.2
      have hLb : L ≤ 2000000 := by have := HLM.out; omega
      have hM2b : M2 ≤ 2000000 := by have := HLM.out; omega
      have WK := WKH.out
      have WM := HWM.out.1
      obtain ⟨hNI, hMI⟩ := HNI.out
      obtain ⟨hq4, hq4'⟩ := HQ4.out
      go_wp2_with fail
      clear hNI hMI hq4 hq4' WK WM
      rw [HW2.out, HW3.out]
      refine PR.out.mono ?_
      rintro e w4 ⟨rfl, hb4⟩
      have HB4 := Lib.hid (HB3.out.trans (hb4.mono HB3.out.size))
      clear hb4
      go_wp2_with fail
      refine (LV.out _ HB4.out).mono ?_
      rintro e w5 ⟨rfl, hb5⟩
      have HB5 := Lib.hid (HB0.out.trans ((HB4.out.trans (hb5.mono HB4.out.size)).mono HB0.out.size))
      clear hb5
      go_wp2_with fail
      go_ret
      exact ⟨rfl, HB5.out⟩
theorem walk (W : World) (a0 : Int) (w0 : 0 ≤ a0 ∧ a0 ≤ 255) (hm : ∃ m, W.cell? ⟨1, 0, none⟩ = some (.int .i64 m)) (hL : laidMet Tryd.prog Rows.scriptBigRow.laid W) :
    Calls Tryd.prog 6 #[.int .u8 a0] W fun e W' => e = .returned (.bool true) ∧ Below W.heap.size W W' := by
  have hT : Lib.TabIs Tryd.prog W "internal/strconv.uint64pow10" .u64 Lib.pow10Tab := sb_pow10_head (laidMet.tail (laidMet.tail hL))
  obtain ⟨k, rfl⟩ : ∃ k : Nat, a0 = k := ⟨a0.toNat, by omega⟩
  exact main W k (by omega) hm (by obtain ⟨m, h⟩ := hm; have := block_lt_of_cell h; simpa using this) hT
end scriptBig
end Go.Proofs.YtoejflnlkapkiaaDoor
