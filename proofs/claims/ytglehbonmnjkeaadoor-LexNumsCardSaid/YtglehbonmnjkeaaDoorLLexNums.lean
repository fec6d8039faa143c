/- LexNums: which number digits are, and a number's digits. -/
import Derived.Test.YtglehbonmnjkeaaDoorLexo
import Derived.Lib.LaidTab
import Derived.Stop.LaidErr
namespace Go.Proofs.YtglehbonmnjkeaaDoor
open Go.ChangeShapes Go.WideShapes Go.ChangeAt Go.RowKit
set_option linter.unusedVariables false
set_option linter.unusedSimpArgs false

theorem pow10_data : (Rows.laid_internal_strconv_uint64pow10 : DataW Unit) = Lib.tabData .u64 Lib.pow10Tab := by kernel_rfl
theorem pow10_of {W : World} (hL : laidMet Tryd.prog Rows.lexNumsRow.laid W) : Lib.TabIs Tryd.prog W "internal/strconv.uint64pow10" .u64 Lib.pow10Tab := by
  have h := laidMet.tail (laidMet.tail hL)
  rw [pow10_data] at h
  exact Lib.tabIs_of_head (g := 1) (t := 74) (e := 64) (n := 20) (by kernel_rfl) (by kernel_rfl) Tryd.underlying74 Tryd.underlying64 (by kernel_rfl) (by kernel_rfl) h
theorem ba_eq {x y : ByteArray} (h : x.data.toList = y.data.toList) : x = y := by
  apply ByteArray.ext
  exact Array.toList_inj.1 h

namespace lexNums
set_option maxRecDepth 100000 in
set_option maxHeartbeats 8000000 in
theorem walk (W : World) (a0 : ByteArray) (w0 : a0.size ≤ maxLen) (a1 : Int) (w1 : -9223372036854775808 ≤ a1 ∧ a1 ≤ 9223372036854775807) (hm : ∃ m, W.cell? ⟨0, 0, none⟩ = some (.int .i64 m)) (hL : laidMet Tryd.prog Rows.lexNumsRow.laid W) :
    Calls Tryd.prog 4 #[.string a0, .int .i64 a1] W fun e W' => e = .returned (.bool true) ∧ Below W.heap.size W W' := by
  have LV := Lib.hid (fun w (b : Below W.heap.size W w) => live22 w (hm_below hm b))
  have HT := Lib.hid (pow10_of hL)
  clear hL
  by_cases hs : a0.size > 60
  · have d1 : decide ((a0.size : Int) > 60) = true := decide_eq_true (by omega)
    have d1' : decide (60 < a0.size) = true := decide_eq_true hs
    go_enter Tryd.func4, Tryd.ntmps4
    go_wp2_with fail
    refine (LV.out _ (Below.refl _ _)).mono ?_
    rintro e w1 ⟨rfl, b1⟩
    go_wp2_with fail
    go_ret
    exact ⟨rfl, b1⟩
  · have d1 : decide ((a0.size : Int) > 60) = false := decide_eq_false (by omega)
    have d1' : decide (60 < a0.size) = false := decide_eq_false hs
    -- the number, told alike by both
    obtain ⟨m, er, wt, N1, N2, hcmp⟩ : ∃ (m er wt : Int), Hid (Calls Tryd.prog 12 #[.string a0] W (fun e w' => Below W.heap.size W w' ∧ e = .returned (.tuple #[.int .i64 m, .int .i64 er]))) ∧ Hid (∀ w, Calls Tryd.prog 13 #[.string a0] w (fun e w' => w = w' ∧ e = .returned (.int .i64 wt))) ∧ ((m = 0 ∧ er = 10 ∧ wt = -1) ∨ (er = 0 ∧ ∃ V : Nat, m = V ∧ wt = V)) := by
      by_cases h : IsN a0
      · refine ⟨(vl a0 a0.size : Int), 0, (vl a0 a0.size : Int), Lib.hid ((lex_num a0 (by omega) W).mono ?_), Lib.hid (fun w => (ref_num a0 (by omega) w).mono ?_), .inr ⟨rfl, _, rfl, rfl⟩⟩
        · rintro e w' ⟨hb, ⟨h1, -⟩ | ⟨-, h2⟩⟩
          · exact absurd h h1
          · exact ⟨hb, h2⟩
        · rintro e w' ⟨hb, ⟨h1, -⟩ | ⟨-, h2⟩⟩
          · exact absurd h h1
          · exact ⟨hb, h2⟩
      · refine ⟨0, 10, -1, Lib.hid ((lex_num a0 (by omega) W).mono ?_), Lib.hid (fun w => (ref_num a0 (by omega) w).mono ?_), .inl ⟨rfl, rfl, rfl⟩⟩
        · rintro e w' ⟨hb, ⟨-, h2⟩ | ⟨h1, -⟩⟩
          · exact ⟨hb, h2⟩
          · exact absurd h1 h
        · rintro e w' ⟨hb, ⟨-, h2⟩ | ⟨h1, -⟩⟩
          · exact ⟨hb, h2⟩
          · exact absurd h1 h
    have DG := Lib.hid (fun w (b : Below W.heap.size W w) => lex_digits a1 w1 w (pow10_below HT.out b))
    have RD := Lib.hid (fun (n : Nat) (hn : n ≤ 999999999) w => ref_digits n hn w)
    have RN := Lib.hid (fun (s : ByteArray) (h : s.size ≤ 900) (hy : IsN s) w => (ref_num s h w).mono (R' := fun e w' => w = w' ∧ e = .returned (.int .i64 (vl s s.size))) (by
      rintro e w' ⟨hb, ⟨h1, -⟩ | ⟨-, h2⟩⟩
      · exact absurd hy h1
      · exact ⟨hb, h2⟩))
    rcases hcmp with ⟨rfl, rfl, rfl⟩ | ⟨rfl, V, rfl, rfl⟩
    · go_enter Tryd.func4, Tryd.ntmps4
      go_wp2_with fail
      refine N1.out.mono ?_
      rintro e w1 ⟨b1, rfl⟩
      go_wp2_with fail
      refine (N2.out _).mono ?_
      rintro e w2 ⟨rfl, rfl⟩
      clear N1 N2
      go_wp2_with fail
      refine (DG.out _ b1).mono ?_
      rintro e w2 ⟨b2, ⟨hr, rfl⟩ | ⟨n, hn1, hn, s, hsd, rfl⟩⟩
      · have hB := b1.trans (b2.mono b1.size)
        clear DG RD RN
        by_cases h0 : a1 < 0
        · have d2 : decide (a1 < 0) = true := decide_eq_true h0
          clear hr
          go_wp2_with fail
          refine (LV.out _ hB).mono ?_
          rintro e w3 ⟨rfl, b3⟩
          have hB3 := hB.trans (b3.mono hB.size)
          go_wp2_with fail
          go_ret
          exact ⟨rfl, hB3⟩
        · have d2 : decide (a1 < 0) = false := decide_eq_false h0
          have h9 : 999999999 < a1 := by omega
          have d3 : decide (a1 > 999999999) = true := decide_eq_true h9
          have d3' : decide (999999999 < a1) = true := decide_eq_true h9
          clear hr
          go_wp2_with fail
          refine (LV.out _ hB).mono ?_
          rintro e w3 ⟨rfl, b3⟩
          have hB3 := hB.trans (b3.mono hB.size)
          go_wp2_with fail
          go_ret
          exact ⟨rfl, hB3⟩
      · have hB := b1.trans (b2.mono b1.size)
        have hN := dec_isN hn s hsd
        have hsz : s.size ≤ 900 := by have := hN.1.1.2.1; omega
        have R3 := Lib.hid (fun w => RN.out s hsz hN.1 w)
        have R3 := Lib.hid (by have := R3.out; rw [hN.2] at this; exact this)
        have R2 := Lib.hid (fun w => RD.out n hn w)
        have HS := Lib.hid hsd
        have d2 : decide ((n : Int) < 0) = false := decide_eq_false (by omega)
        have d3 : decide ((n : Int) > 999999999) = false := decide_eq_false (by omega)
        have d3' : decide (999999999 < n) = false := decide_eq_false (by omega)
        subst hn1
        clear DG RD RN hN hsz hsd
        go_wp2_with fail
        refine (R2.out _).mono ?_
        rintro e w3 ⟨rfl, s2, hs2, rfl⟩
        obtain rfl : s2 = s := ba_eq (hs2.trans HS.out.symm)
        clear hs2 HS R2
        go_wp2_with fail
        refine (R3.out _).mono ?_
        rintro e w4 ⟨rfl, rfl⟩
        clear R3
        go_wp2_with fail
        refine (LV.out _ hB).mono ?_
        rintro e w5 ⟨rfl, b3⟩
        have hB3 := hB.trans (b3.mono hB.size)
        go_wp2_with fail
        go_ret
        exact ⟨rfl, hB3⟩
    · go_enter Tryd.func4, Tryd.ntmps4
      go_wp2_with fail
      refine N1.out.mono ?_
      rintro e w1 ⟨b1, rfl⟩
      go_wp2_with fail
      refine (N2.out _).mono ?_
      rintro e w2 ⟨rfl, rfl⟩
      clear N1 N2
      go_wp2_with fail
      refine (DG.out _ b1).mono ?_
      rintro e w2 ⟨b2, ⟨hr, rfl⟩ | ⟨n, hn1, hn, s, hsd, rfl⟩⟩
      · have hB := b1.trans (b2.mono b1.size)
        clear DG RD RN
        by_cases h0 : a1 < 0
        · have d2 : decide (a1 < 0) = true := decide_eq_true h0
          clear hr
          go_wp2_with fail
          refine (LV.out _ hB).mono ?_
          rintro e w3 ⟨rfl, b3⟩
          have hB3 := hB.trans (b3.mono hB.size)
          go_wp2_with fail
          go_ret
          exact ⟨rfl, hB3⟩
        · have d2 : decide (a1 < 0) = false := decide_eq_false h0
          have h9 : 999999999 < a1 := by omega
          have d3 : decide (a1 > 999999999) = true := decide_eq_true h9
          have d3' : decide (999999999 < a1) = true := decide_eq_true h9
          clear hr
          go_wp2_with fail
          refine (LV.out _ hB).mono ?_
          rintro e w3 ⟨rfl, b3⟩
          have hB3 := hB.trans (b3.mono hB.size)
          go_wp2_with fail
          go_ret
          exact ⟨rfl, hB3⟩
      · have hB := b1.trans (b2.mono b1.size)
        have hN := dec_isN hn s hsd
        have hsz : s.size ≤ 900 := by have := hN.1.1.2.1; omega
        have R3 := Lib.hid (fun w => RN.out s hsz hN.1 w)
        have R3 := Lib.hid (by have := R3.out; rw [hN.2] at this; exact this)
        have R2 := Lib.hid (fun w => RD.out n hn w)
        have HS := Lib.hid hsd
        have d2 : decide ((n : Int) < 0) = false := decide_eq_false (by omega)
        have d3 : decide ((n : Int) > 999999999) = false := decide_eq_false (by omega)
        have d3' : decide (999999999 < n) = false := decide_eq_false (by omega)
        subst hn1
        clear DG RD RN hN hsz hsd
        go_wp2_with fail
        refine (R2.out _).mono ?_
        rintro e w3 ⟨rfl, s2, hs2, rfl⟩
        obtain rfl : s2 = s := ba_eq (hs2.trans HS.out.symm)
        clear hs2 HS R2
        go_wp2_with fail
        refine (R3.out _).mono ?_
        rintro e w4 ⟨rfl, rfl⟩
        clear R3
        go_wp2_with fail
        refine (LV.out _ hB).mono ?_
        rintro e w5 ⟨rfl, b3⟩
        have hB3 := hB.trans (b3.mono hB.size)
        go_wp2_with fail
        go_ret
        exact ⟨rfl, hB3⟩
end lexNums
end Go.Proofs.YtglehbonmnjkeaaDoor
