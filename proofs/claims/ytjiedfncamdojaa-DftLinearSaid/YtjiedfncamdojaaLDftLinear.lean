/- DftLinear: the transform of a sum, and of a turned row. -/
import Derived.Test.YtjiedfncamdojaaDft3
import Derived.Test.YtjiedfncamdojaaLive6
import Derived.Test.YtjiedfncamdojaaRturn
import Derived.Test.YtjiedfncamdojaaLDftBack
namespace Go.Proofs.Ytjiedfncamdojaa
open Go.ChangeShapes Go.WideShapes Go.ChangeAt Go.RowKit
set_option linter.unusedVariables false
namespace dftLinear
open rootTells dftBack
theorem tpos_nat (m n : Nat) : tpos (m : Int) n = m % n := by unfold tpos; omega
theorem turned {n : Nat} (hh : hasb n = true) (xs : List Int) (hl : xs.length = n) (t k : Nat) (ht : t < n) (hk : k < n) : (horl (rt n) (turnl xs t) n).getD k 0 = fm ((horl (rt n) xs n).getD k 0 * (powl (finv (rt n)) n).getD (t * k % n) 0) := by
  have I := inv2_rt n hh
  rw [powl_at _ _ _ (Nat.mod_lt _ (by omega))]
  exact horl_turn I.rn I.symm.rs xs hl t k ht hk
set_option maxRecDepth 100000 in
theorem main (W : World) (a0 a1 : Option Addr) (n c0 c1 m : Nat) (xs ys : List Int) (hx : Row W a0 n xs) (hy : Row W a1 n ys) (hcap : n ≤ c0) (hn : n ≤ 130) (hm : m ≤ 1000) (hc : chk n 0 = 0) :
    Calls Try.prog 4 #[.slice a0 n c0, .slice a1 n c1, .int .i64 m] W fun e W' => e = .returned (.bool true) ∧ Below W.heap.size W W' := by
  have g1 : decide (130 < (n : Int)) = false := decide_eq_false (by omega)
  have g2 : decide ((m : Int) < 0) = false := decide_eq_false (by omega)
  have g3 : decide (1000 < (m : Int)) = false := decide_eq_false (by omega)
  obtain ⟨hd, hh, _⟩ := chk_ok hc
  have hn1 : 1 ≤ n := by have := (hasb_dvd hh).1; omega
  have TU := Lib.hid (fun k hk => turned hh xs hx.len (m % n) k (Nat.mod_lt _ (by omega)) hk)
  have AD := Lib.hid (horl_add (rt n) xs ys n (hx.len.trans hy.len.symm))
  have TL := Lib.hid (show turnl xs (tpos m n) = turnl xs (m % n) by rw [tpos_nat])
  have C := fun w => r6_chk n 0 w (by omega) (by omega)
  rw [hc] at C
  have C := Lib.hid C
  have DD : ∀ (p : Option Addr) (c : Nat) (ys : List Int) (w : World), Row w p n ys → Calls Try.prog 16 #[.slice p n c, .int .i64 0] w (GivesOk w n (horl (rt n) ys n)) := fun p c ys w h => dft_dft2 p n c 0 ys w h hc
  have DD := Lib.hid DD
  have BK := Lib.hid (fun w => r4_back n w hh)
  have PW := Lib.hid (fun w => c_rpows (finv (rt n)) n w (finv_lo _) (finv_hi _) (by omega))
  have HX := Lib.hid hx
  have HY := Lib.hid hy
  have hB : Below W.heap.size W W := Below.refl _ _
  have i0 := finv_lo (rt n)
  have i1 := finv_hi (rt n)
  clear hx hy hc hh hd
  generalize finv (rt n) = b at *
  generalize rt n = r at *
  go_enter Try.func4, Try.ntmps4
  go_wp2_with fail
  refine (C.out _).mono ?_
  rintro e w1 ⟨rfl, rfl⟩
  go_wp2_with fail
  refine (DD.out _ _ _ _ HX.out).mono ?_
  rintro e w1 ⟨p1, d1, rfl, hr, b1⟩
  have RA := Lib.hid hr; clear hr; have HX := Lib.hid (HX.out.below b1); have HY := Lib.hid (HY.out.below b1); have hB := hB.trans (b1.mono hB.size); clear b1
  go_wp2_with fail
  refine (DD.out _ _ _ _ HY.out).mono ?_
  rintro e w1 ⟨p2, d2, rfl, hr, b1⟩
  have RB := Lib.hid hr; clear hr; have HX := Lib.hid (HX.out.below b1); have HY := Lib.hid (HY.out.below b1); have RA := Lib.hid (RA.out.below b1); have hB := hB.trans (b1.mono hB.size); clear b1
  go_wp2_with fail
  refine (c_radd HX.out HY.out).mono ?_
  rintro e w1 ⟨p3, d3, rfl, hr, b1⟩
  have RS := Lib.hid hr; clear hr; have HX := Lib.hid (HX.out.below b1); have RA := Lib.hid (RA.out.below b1); have RB := Lib.hid (RB.out.below b1); have hB := hB.trans (b1.mono hB.size); clear b1
  go_wp2_with fail
  refine (DD.out _ _ _ _ RS.out).mono ?_
  rintro e w1 ⟨p4, d4, rfl, hr, b1⟩
  rw [AD.out] at hr
  have RY := Lib.hid hr; clear hr; clear RS; have HX := Lib.hid (HX.out.below b1); have RA := Lib.hid (RA.out.below b1); have RB := Lib.hid (RB.out.below b1); have hB := hB.trans (b1.mono hB.size); clear b1
  go_wp2_with fail
  refine (c_rturn HX.out hcap (by omega) (by omega)).mono ?_
  rintro e w1 ⟨p5, d5, rfl, hr, b1⟩
  rw [TL.out] at hr
  have RT := Lib.hid hr; clear hr; have RA := Lib.hid (RA.out.below b1); have RB := Lib.hid (RB.out.below b1); have RY := Lib.hid (RY.out.below b1); have hB := hB.trans (b1.mono hB.size); clear b1
  go_wp2_with fail
  refine (DD.out _ _ _ _ RT.out).mono ?_
  rintro e w1 ⟨p6, d6, rfl, hr, b1⟩
  have RU := Lib.hid hr; clear hr; clear RT; have RA := Lib.hid (RA.out.below b1); have RB := Lib.hid (RB.out.below b1); have RY := Lib.hid (RY.out.below b1); have hB := hB.trans (b1.mono hB.size); clear b1
  go_wp2_with fail
  refine (c_radd RA.out RB.out).mono ?_
  rintro e w1 ⟨p7, d7, rfl, hr, b1⟩
  have RZ := Lib.hid hr; clear hr; have RA := Lib.hid (RA.out.below b1); have RY := Lib.hid (RY.out.below b1); have RU := Lib.hid (RU.out.below b1); have hB := hB.trans (b1.mono hB.size); clear b1
  go_wp2_with fail
  refine (c_same RY.out RZ.out).mono ?_
  rintro e w1 ⟨rfl, b1⟩
  clear RY RZ; have RA := Lib.hid (RA.out.below b1); have RU := Lib.hid (RU.out.below b1); have hB := hB.trans (b1.mono hB.size); clear b1
  go_wp2_with fail
  refine (BK.out _).mono ?_
  rintro e w1 ⟨rfl, rfl⟩
  go_wp2_with fail
  refine (PW.out _).mono ?_
  rintro e w1 ⟨p8, d8, rfl, hr, b1⟩
  have RP := Lib.hid hr; clear hr; have RA := Lib.hid (RA.out.below b1); have RU := Lib.hid (RU.out.below b1); have hB := hB.trans (b1.mono hB.size); clear b1
  go_wp2_with fail
  go_loopw [17] (fun i wr => ∃ k : Nat, k ≤ n ∧ i = .int .i64 k ∧ Hid (Row wr p1 n (horl r xs n)) ∧ Hid (Row wr p6 n (horl r (turnl xs (m % n)) n)) ∧ Hid (Row wr p8 n (powl b n)) ∧ Below W.heap.size W wr) (fun i _ => n - (intOf i).toNat)
  case atStart => exact ⟨0, Nat.zero_le _, rfl, RA, RU, RP, hB⟩
  case round =>
    clear RA RU RP hB
    obtain ⟨k, hk, rfl, RA, RU, RP, hB⟩ := hrel
    by_cases hlt : k < n
    · have hm2 : m % n * k % n < n := Nat.mod_lt _ (by omega)
      obtain ⟨b1, o1, rfl, hb1, hc1, x0, x1⟩ := RA.out.cell hlt
      obtain ⟨b2, o2, rfl, hb2, hc2, y0, y1⟩ := RU.out.cell hlt
      obtain ⟨b3, o3, rfl, hb3, hc3, z0, z1⟩ := RP.out.cell hm2
      rw [TU.out k hlt] at hc2
      have z2 : (powl b n).getD (m % n * k % n) 0 ≤ 18446744069414584320 := by rw [powl_at _ _ _ hm2]; exact fm_hi _
      generalize (powl b n).getD (m % n * k % n) 0 = z at *
      generalize (horl r xs n).getD k 0 = x at *
      have hmn : m % n < n := Nat.mod_lt _ (by omega)
      have hw0 : ((m : Int)).tmod (n : Int) = ((m % n : Nat) : Int) := rfl
      have hjk : m % n * k ≤ 130 * 130 := Nat.mul_le_mul (by omega) (by omega)
      have hw1 : IntKind.i64.wrap (((m % n : Nat) : Int) * (k : Int)) = ((m % n : Nat) : Int) * (k : Int) := IntWalk.i64_in _ (by rw [← Int.natCast_mul]; omega)
      have hw2 : (((m % n : Nat) : Int) * (k : Int)).tmod (n : Int) = ((m % n * k % n : Nat) : Int) := by
        rw [← Int.natCast_mul]; rfl
      have hnz : ((n : Int) == 0) = false := by simp; omega
      have hnz2 : ¬ ((n : Int) = 0) := by omega
      have hnz3 : ¬ (n = 0) := by omega
      generalize m % n * k % n = q at *
      generalize m % n = t at *
      have hm0 : (0 : Int) ≤ (q : Int) := by omega
      have hm1 : (q : Int) < (n : Int) := by omega
      go_wp2_with fail
      go_region_held3 (fun w' => w'.cell? ⟨b1, o1 + k, none⟩ = some (.int .u64 x) ∧ w'.cell? ⟨b2, o2 + k, none⟩ = some (.int .u64 (fm (x * z))) ∧ w'.cell? ⟨b3, o3 + q, none⟩ = some (.int .u64 z) ∧ Below wr.heap.size wr w') (first | exact ⟨hc1, hc2, hc3, (Below.refl _ _).drew⟩ | assumption) (first | (go_at_call 28; (with_reducible refine (r2_mulz _ _ _ x0 x1 z0 z2).mono ?_); rintro e w' ⟨rfl, rfl⟩))
      have hS2 := Lib.hid (by assumption : _ ∧ _ ∧ _ ∧ Below wr.heap.size wr _)
      go_wp2_with fail
      go_roundw
      case rel => exact ⟨k + 1, by omega, by go_num, Lib.hid (RA.out.below hS2.out.2.2.2), Lib.hid (RU.out.below hS2.out.2.2.2), Lib.hid (RP.out.below hS2.out.2.2.2), hB.trans (hS2.out.2.2.2.mono hB.size)⟩
      case measure => (first | (simp [intOf]; done) | (simp [intOf]; omega) | (simp only [intOf]; omega))
    · obtain rfl : k = n := by omega
      go_wp2_with fail
      refine (live6 _).mono ?_
      rintro e w1 ⟨rfl, b1⟩
      have hB := hB.trans (b1.mono hB.size); clear b1
      go_wp2_with fail
      go_ret
      exact ⟨rfl, hB⟩

set_option maxRecDepth 100000 in
theorem odd (W : World) (a0 a1 : Option Addr) (n m c0 c1 : Nat) (k : Int) (w2 : -9223372036854775808 ≤ k ∧ k ≤ 9223372036854775807) (hn : n ≤ 9223372036854775807) (h : 130 < n ∨ (n ≤ 130 ∧ m ≠ n) ∨ (n ≤ 130 ∧ m = n ∧ chk n 0 ≠ 0) ∨ (n ≤ 130 ∧ m = n ∧ chk n 0 = 0 ∧ k < 0) ∨ (n ≤ 130 ∧ m = n ∧ chk n 0 = 0 ∧ 1000 < k)) :
    Calls Try.prog 4 #[.slice a0 n c0, .slice a1 m c1, .int .i64 k] W fun e W' => e = .returned (.bool true) ∧ Below W.heap.size W W' := by
  have C := Lib.hid (fun w => r6_chk n 0 w (by omega) (by omega))
  rcases h with h | ⟨hn, h⟩ | ⟨hn, rfl, h⟩ | ⟨hn, rfl, hz, h⟩ | ⟨hn, rfl, hz, h⟩
  · have g1 : decide (130 < (n : Int)) = true := decide_eq_true (by omega)
    clear C
    go_enter Try.func4, Try.ntmps4
    go_wp2_with fail
    refine (live6 _).mono ?_
    rintro e w1 ⟨rfl, b1⟩
    go_wp2_with fail
    go_ret
    exact ⟨rfl, b1⟩
  · have g1 : decide (130 < (n : Int)) = false := decide_eq_false (by omega)
    have g2 : ((m : Int) != (n : Int)) = true := by simp; omega
    clear C
    go_enter Try.func4, Try.ntmps4
    go_wp2_with fail
    refine (live6 _).mono ?_
    rintro e w1 ⟨rfl, b1⟩
    go_wp2_with fail
    go_ret
    exact ⟨rfl, b1⟩
  · have g1 : decide (130 < (m : Int)) = false := decide_eq_false (by omega)
    have hz : (chk m 0 != 0) = true := by simpa using h
    clear h
    generalize chk m 0 = z at *
    go_enter Try.func4, Try.ntmps4
    go_wp2_with fail
    refine (C.out _).mono ?_
    rintro e w1 ⟨rfl, rfl⟩
    go_wp2_with fail
    refine (live6 _).mono ?_
    rintro e w1 ⟨rfl, b1⟩
    go_wp2_with fail
    go_ret
    exact ⟨rfl, b1⟩
  · have g1 : decide (130 < (m : Int)) = false := decide_eq_false (by omega)
    have g2 : decide (k < 0) = true := decide_eq_true h
    rw [hz] at C
    go_enter Try.func4, Try.ntmps4
    go_wp2_with fail
    refine (C.out _).mono ?_
    rintro e w1 ⟨rfl, rfl⟩
    go_wp2_with fail
    refine (live6 _).mono ?_
    rintro e w1 ⟨rfl, b1⟩
    go_wp2_with fail
    go_ret
    exact ⟨rfl, b1⟩
  · have g1 : decide (130 < (m : Int)) = false := decide_eq_false (by omega)
    have g2 : decide (k < 0) = false := decide_eq_false (by omega)
    have g3 : decide (1000 < k) = true := decide_eq_true h
    rw [hz] at C
    go_enter Try.func4, Try.ntmps4
    go_wp2_with fail
    refine (C.out _).mono ?_
    rintro e w1 ⟨rfl, rfl⟩
    go_wp2_with fail
    refine (live6 _).mono ?_
    rintro e w1 ⟨rfl, b1⟩
    go_wp2_with fail
    go_ret
    exact ⟨rfl, b1⟩

theorem walk (W : World) (a0 : Option Addr) (n0 c0 : Nat) (w0 : IsRow .u64 W a0 n0 c0) (a1 : Option Addr) (n1 c1 : Nat) (w1 : IsRow .u64 W a1 n1 c1) (a2 : Int) (w2 : -9223372036854775808 ≤ a2 ∧ a2 ≤ 9223372036854775807) :
    Calls Try.prog 4 #[.slice a0 n0 c0, .slice a1 n1 c1, .int .i64 a2] W fun e W' => e = .returned (.bool true) ∧ Below W.heap.size W W' := by
  by_cases h : 130 < n0 ∨ (n0 ≤ 130 ∧ n1 ≠ n0) ∨ (n0 ≤ 130 ∧ n1 = n0 ∧ chk n0 0 ≠ 0) ∨ (n0 ≤ 130 ∧ n1 = n0 ∧ chk n0 0 = 0 ∧ a2 < 0) ∨ (n0 ≤ 130 ∧ n1 = n0 ∧ chk n0 0 = 0 ∧ 1000 < a2)
  · obtain ⟨_, _, _, hs, _⟩ := w0
    exact odd W a0 a1 n0 n1 c0 c1 a2 w2 hs h
  · obtain ⟨xs, hx⟩ := Row.of_isRow w0 (by omega)
    obtain ⟨_, _, hcap, _⟩ := w0
    have e1 : n1 = n0 := by omega
    subst e1
    obtain ⟨ys, hy⟩ := Row.of_isRow w1 (by omega)
    have hc : chk n1 0 = 0 := by omega
    obtain ⟨m, rfl⟩ : ∃ m : Nat, a2 = m := ⟨a2.toNat, by omega⟩
    exact main W a0 a1 n1 c0 c1 m xs ys hx hy hcap (by omega) (by omega) hc
end dftLinear
end Go.Proofs.Ytjiedfncamdojaa
