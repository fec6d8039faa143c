/- Package small: Do, of two; the page's example; the document's Twist. -/
import Derived.Test.YtjiedfncamdojaaSmall2
import Derived.Test.YtjiedfncamdojaaHalf
namespace Go.Proofs.Ytjiedfncamdojaa
open Go.ChangeShapes Go.WideShapes Go.ChangeAt Go.RowKit
set_option linter.unusedVariables false
/-- Is it so few? -/
def few (n : Int) : Bool := decide (1 ≤ n ∧ n ≤ 5)
theorem small_has (n : Int) (w : World) : Calls Try.prog 41 #[.int .i64 n] w fun e w' => e = .returned (.bool (few n)) ∧ w = w' := by
  by_cases h1 : 1 ≤ n
  · by_cases h2 : n ≤ 5
    · have HD := Lib.hid (show few n = true from decide_eq_true ⟨h1, h2⟩)
      have d1 : decide (1 ≤ n) = true := decide_eq_true h1
      have d2 : decide (n ≤ 5) = true := decide_eq_true h2
      go_enter Try.func41, Try.ntmps41
      go_wp2_with fail
      go_ret
      exact ⟨ret_bool HD.out.symm, rfl⟩
    · have HD := Lib.hid (show few n = false from decide_eq_false (by omega))
      have d1 : decide (1 ≤ n) = true := decide_eq_true h1
      have d2 : decide (n ≤ 5) = false := decide_eq_false h2
      go_enter Try.func41, Try.ntmps41
      go_wp2_with fail
      go_ret
      exact ⟨ret_bool HD.out.symm, rfl⟩
  · have HD := Lib.hid (show few n = false from decide_eq_false (by omega))
    have d1 : decide (1 ≤ n) = false := decide_eq_false h1
    go_enter Try.func41, Try.ntmps41
    go_wp2_with fail
    go_ret
    exact ⟨ret_bool HD.out.symm, rfl⟩
theorem few_two : few 2 = true := by decide
set_option maxRecDepth 100000 in
theorem do_two (p : Option Addr) (c : Nat) (a b : Int) (W : World) (hr : Row W p 2 [a, b]) :
    Calls Try.prog 40 #[.slice p 2 c, .int .i64 0] W (GivesOk W 2 [fm (fm a + fm b), fm (fm a - fm b)]) := by
  have RD := Lib.hid (c_redown p 2 c [a, b] W hr)
  have T := Lib.hid (fun (w : World) (B : Nat) (h : RowAt w B 24 (redl [a, b])) => small_two B 0 2 0 (redl [a, b]) (fm a) (fm b) w h (by simp [redl]) rfl rfl (fm_lo _) (fm_hi' _) (fm_lo _) (fm_hi' _) (.inl rfl))
  have H2 := fun w => small_has 2 w
  rw [few_two] at H2
  have H2 := Lib.hid H2
  clear hr
  go_enter Try.func40, Try.ntmps40
  go_wp2_with fail
  refine (H2.out _).mono ?_
  rintro e w1 ⟨rfl, rfl⟩
  go_wp2_with fail
  refine RD.out.mono ?_
  rintro e w1 ⟨rfl, hq, b1⟩
  have HQ := Lib.hid hq
  have HB := Lib.hid b1
  clear hq b1
  go_wp2_with fail
  refine (T.out _ _ HQ.out).mono ?_
  rintro e w2 ⟨rfl, i2⟩
  have HI := Lib.hid i2
  clear i2
  go_wp2_with fail
  go_ret2
  have hb := HB.out
  have hs := hb.size
  exact ⟨_, _, rfl, Row.of_at HI.out.r (by intro z hz; simp [redl] at hz; rcases hz with rfl | rfl <;> exact WalkArith.wf_u64 ⟨fm_lo _, fm_hi' _⟩) rfl (by omega), hb.trans (HI.out.b.b _ (Nat.le_refl _) hs)⟩
theorem tw112 : twl [1, 1, 1] 2 = [1, 2, 4] := by decide +kernel
theorem do12 : [fm (fm 1 + fm 2), fm (fm 1 - fm 2)] = [3, 18446744069414584320] := by decide +kernel
set_option maxRecDepth 100000 in
theorem live10 (w : World) : Calls Try.prog 39 #[] w fun e w' => e = .returned (.bool true) ∧ Below w.heap.size w w' := by
  have B1 := Lib.hid ((Below.refl w.heap.size w).alloc (Nat.le_refl _) (.cells #[.int .u64 1, .int .u64 2] 24))
  have D := Lib.hid (do_two _ 2 1 2 _ (Row.of_at (rowat2 w 1 2) (by decide) (n := 2) rfl (by omega)))
  rw [do12] at D
  go_enter Try.func39, Try.ntmps39
  go_wp2_with fail
  refine D.out.mono ?_
  rintro e w1 ⟨p, c, rfl, hq, b3⟩
  have B3 := Lib.hid (B1.out.trans (b3.mono B1.out.size))
  have HQ := Lib.hid (Row.alloc hq (.cells #[.int .u64 3, .int .u64 18446744069414584320] 24))
  have R3 := Lib.hid (Row.of_at (rowat2 w1 3 18446744069414584320) (by decide) (n := 2) rfl (by omega))
  have B4 := Lib.hid (B3.out.alloc B3.out.size (.cells #[.int .u64 3, .int .u64 18446744069414584320] 24))
  clear hq b3
  go_wp2_with fail
  generalize w1.alloc (.cells #[.int .u64 3, .int .u64 18446744069414584320] 24) = W3 at *
  refine (c_same HQ.out R3.out).mono ?_
  rintro e w4 ⟨rfl, b5⟩
  have B5 := Lib.hid (B4.out.trans (b5.mono B4.out.size))
  have R5 := Lib.hid (Row.of_at (rowat3 w4 1 1 1) (by decide) (n := 3) rfl (by omega))
  have B6 := Lib.hid (B5.out.alloc B5.out.size (.cells #[.int .u64 1, .int .u64 1, .int .u64 1] 24))
  clear b5 B1 B3 B4 B5 HQ R3 D
  go_wp2_with fail
  generalize w4.alloc (.cells #[.int .u64 1, .int .u64 1, .int .u64 1] 24) = W5 at *
  refine (small_twist _ _ _ _ 2 _ R5.out (by omega) (by omega) (by omega)).mono ?_
  rintro e w6 ⟨p, c, rfl, hq, b7⟩
  rw [tw112] at hq
  have B7 := Lib.hid (B6.out.trans (b7.mono B6.out.size))
  have HQ := Lib.hid (Row.alloc hq (.cells #[.int .u64 1, .int .u64 2, .int .u64 4] 24))
  have R7 := Lib.hid (Row.of_at (rowat3 w6 1 2 4) (by decide) (n := 3) rfl (by omega))
  have B8 := Lib.hid (B7.out.alloc B7.out.size (.cells #[.int .u64 1, .int .u64 2, .int .u64 4] 24))
  clear hq b7 B6 B7 R5
  go_wp2_with fail
  generalize w6.alloc (.cells #[.int .u64 1, .int .u64 2, .int .u64 4] 24) = W7 at *
  refine (c_same HQ.out R7.out).mono ?_
  rintro e w8 ⟨rfl, b9⟩
  go_wp2_with fail
  go_ret
  exact ⟨rfl, B8.out.trans (b9.mono B8.out.size)⟩
set_option maxRecDepth 100000 in
theorem r10_twist (u : Int) (u0 : 0 ≤ u) (u1 : u ≤ 18446744073709551615) (p : Option Addr) (n c : Nat) (xs : List Int) (w : World) (hr : Row w p n xs) (hn : n ≤ 16777216) :
    Calls Try.prog 45 #[.slice p n c, .int .u64 u] w (Gives w n (twl xs u)) := by
  have hs := hr.small
  have hl := hr.len
  have HL := Lib.hid (show (twl xs u).length = n by rw [twl_len, hl])
  have HA := Lib.hid (show ∀ i, i < n → (twl xs u).getD i 0 = fm (xs.getD i 0 * u ^ i) by intro i hi; exact twl_at xs u i (by omega))
  have HX := Lib.hid hr
  clear hr hl
  go_enter Try.func45, Try.ntmps45
  go_wp2_with fail
  go_loopw [5, 6] (fun v i wr => ∃ k : Nat, k ≤ n ∧ i = .int .i64 k ∧ Hid (Owns wr w.heap.size 24 .u64 v (upto (twl xs u) k)) ∧ Below w.heap.size w wr) (fun _ i _ => n - (intOf i).toNat)
  case atStart => exact ⟨0, Nat.zero_le _, rfl, Lib.hid (Owns.nil _ _ _ _), Below.refl _ _⟩
  case round =>
    obtain ⟨k, hk, rfl, HO, hB⟩ := hrel
    by_cases hlt : k < n
    · obtain ⟨b, off, rfl, hb, hc0, x0, x1⟩ := HX.out.cell hlt
      have HS := Lib.hid (upto_snoc (twl xs u) k _ (by rw [HL.out]; exact hlt) (HA.out k hlt))
      have HK := Lib.hid (upto_len (twl xs u) k (by rw [HL.out]; exact hk))
      have P := Lib.hid (fun w => r2_powf u k w (by omega))
      generalize xs.getD k 0 = x at *
      have hc : wr.cell? ⟨b, off + k, none⟩ = some (.int .u64 x) := (hB.cell (p := ⟨b, off + k, none⟩) hb).trans hc0
      clear hc0
      go_wp2_with (first | (go_at_call 46; (with_reducible refine (r2_red _ _ (by assumption) (by assumption)).mono ?_); rintro e w' ⟨rfl, rfl⟩) | (go_at_call 63; (with_reducible refine (P.out _).mono ?_); rintro e w' ⟨rfl, rfl⟩) | (go_at_call 28; (with_reducible refine (r2_mulf _ _ _).mono ?_); rintro e w' ⟨rfl, rfl⟩) | (at_builtin; refine append_one Try.underlying22 info_u64 rfl _ _ rfl rfl HO.out rfl hB.size (by rw [HK.out]; omega) ?_; intro v' w' hO hb'))
      have HO2 := Lib.hid hO
      clear hO
      go_wp2_with fail
      go_roundw
      case rel => exact ⟨k + 1, by omega, by go_num, by rw [← HS.out]; exact HO2, hB.trans hb'⟩
      case measure => (first | (simp [intOf]; done) | (simp [intOf]; omega) | (simp only [intOf]; omega))
    · obtain rfl : k = n := by omega
      go_wp2_with fail
      go_ret
      exact gives_own rfl (by rw [← upto_full (twl xs u) k HL.out]; exact HO.out) hB (twl_wf xs u) HL.out hs
theorem twl_twice (xs : List Int) (u v : Int) : twl (twl xs u) v = twl xs (fm (u * v)) := by rw [twl_twl, fm_mul_fm]
end Go.Proofs.Ytjiedfncamdojaa
