/- DftBack: what was transformed is undone; twice there is backwards. -/
import Derived.Test.YteimfmenbeicfaaGeo4
import Derived.Test.YteimfmenbeicfaaLive6
import Derived.Test.YteimfmenbeicfaaRturn
namespace Go.Proofs.Yteimfmenbeicfaa
open Go.ChangeShapes Go.WideShapes Go.ChangeAt Go.RowKit
set_option linter.unusedVariables false
namespace dftBack
open rootTells
theorem inv2_rt (n : Nat) (hh : hasb n = true) : Inv2 (rt n) (finv (rt n)) n := by
  obtain ⟨a, b, c⟩ := hasb_dvd hh
  have h1 := rt_one_pow hh
  rw [Int.toNat_natCast] at h1
  have hrs := rt_inv hh
  have hsn : fm (finv (rt n) ^ n) = 1 := by
    have := pow_one_of hrs n
    rw [Int.mul_pow, ← fm_mul_l, h1, Int.one_mul] at this
    exact this
  have hd : n ∣ 18446744069414584320 := by
    have := Int.dvd_of_emod_eq_zero c
    exact Int.ofNat_dvd.1 (show ((n : Nat) : Int) ∣ ((18446744069414584320 : Nat) : Int) from this)
  refine ⟨h1, hsn, hrs, fun m m0 m1 => order_least (by omega) hd h1 ?_ m0 m1⟩
  intro q hq hqn
  have L := rt_least hh
  rcases hq with rfl | rfl | rfl | rfl | rfl | rfl
  · have := L 0 (by omega) (show (n : Int) % 2 = 0 by omega)
    rwa [show ((n : Int) / qsl.getD 0 0).toNat = n / 2 from by show ((n : Int) / 2).toNat = n / 2; omega] at this
  · have := L 1 (by omega) (show (n : Int) % 3 = 0 by omega)
    rwa [show ((n : Int) / qsl.getD 1 0).toNat = n / 3 from by show ((n : Int) / 3).toNat = n / 3; omega] at this
  · have := L 2 (by omega) (show (n : Int) % 5 = 0 by omega)
    rwa [show ((n : Int) / qsl.getD 2 0).toNat = n / 5 from by show ((n : Int) / 5).toNat = n / 5; omega] at this
  · have := L 3 (by omega) (show (n : Int) % 17 = 0 by omega)
    rwa [show ((n : Int) / qsl.getD 3 0).toNat = n / 17 from by show ((n : Int) / 17).toNat = n / 17; omega] at this
  · have := L 4 (by omega) (show (n : Int) % 257 = 0 by omega)
    rwa [show ((n : Int) / qsl.getD 4 0).toNat = n / 257 from by show ((n : Int) / 257).toNat = n / 257; omega] at this
  · have := L 5 (by omega) (show (n : Int) % 65537 = 0 by omega)
    rwa [show ((n : Int) / qsl.getD 5 0).toNat = n / 65537 from by show ((n : Int) / 65537).toNat = n / 65537; omega] at this
theorem inv2_dir (n : Nat) (d : Int) (hc : chk n d = 0) : Inv2 (rdir n d) (rdir n (1 - d)) n := by
  obtain ⟨hd, hh, _⟩ := chk_ok hc
  rcases hd with rfl | rfl
  · exact inv2_rt n hh
  · exact (inv2_rt n hh).symm
theorem inv_len (n : Nat) (h0 : 1 ≤ n) (h1 : n ≤ 4096) : fm (finv n * n) = 1 := Fld.inv_mul n (by
  have : fm (n : Int) = n := Int.emod_eq_of_lt (by omega) (by omega)
  rw [this]; omega)
theorem undone {r s : Int} {n : Nat} (h : Inv2 r s n) (xs : List Int) (hl : xs.length = n) (h0 : 1 ≤ n) (h1 : n ≤ 4096) : scl (finv n) (horl s (horl r xs n) n) = redl xs := by
  apply getD_ext (by rw [scl_len, horl_len, redl_len, hl])
  intro k hk
  rw [scl_len, horl_len] at hk
  rw [scl_at _ _ k (by rw [horl_len]; exact hk), h.at xs hl k hk, redl_at xs k (by omega), fm_mul_r, ← Int.mul_assoc, ← fm_mul_l, inv_len n h0 h1, Int.one_mul]
theorem redone {r s : Int} {n : Nat} (h : Inv2 r s n) (xs : List Int) (hl : xs.length = n) (h0 : 1 ≤ n) (h1 : n ≤ 4096) : horl r (scl (finv n) (horl s xs n)) n = redl xs := by
  rw [horl_scl, undone h.symm xs hl h0 h1]
theorem twiced {r s : Int} {n : Nat} (h : Inv2 r s n) (xs : List Int) (hl : xs.length = n) : horl r (horl r xs n) n = scl n (revl xs) := by
  apply getD_ext (by rw [horl_len, scl_len, revl_len, hl])
  intro k hk
  rw [horl_len] at hk
  rw [h.twice xs hl k hk, scl_at _ _ k (by rw [revl_len, hl]; exact hk), revl_at xs k (by omega), fm_mul_r, hl]

set_option maxRecDepth 100000 in
theorem main (W : World) (a0 : Option Addr) (n c0 : Nat) (xs : List Int) (hx : Row W a0 n xs) (hn : n ≤ 130) (d : Int) (b : Bool) (hb : d = if b then 1 else 0) (hc : chk n d = 0) :
    Calls Try.prog 12 #[.slice a0 n c0, .bool b] W fun e W' => e = .returned (.bool true) ∧ Below W.heap.size W W' := by
  have g1 : decide (130 < (n : Int)) = false := decide_eq_false (by omega)
  obtain ⟨hd, hh, _⟩ := chk_ok hc
  have hn1 : 1 ≤ n := by have := (hasb_dvd hh).1; omega
  have I := inv2_dir n d hc
  have E1 := Lib.hid (undone I xs hx.len hn1 (by omega))
  have E2 := Lib.hid (redone I xs hx.len hn1 (by omega))
  have E3 := Lib.hid (twiced I xs hx.len)
  have C := fun w => r6_chk n d w (by omega) (by omega)
  rw [hc] at C
  have C := Lib.hid C
  have DD := Lib.hid (fun (p : Option Addr) (c : Nat) (ys : List Int) (w : World) (h : Row w p n ys) => dft_dft2 p n c d ys w h hc)
  have UU := Lib.hid (fun (p : Option Addr) (c : Nat) (ys : List Int) (w : World) (h : Row w p n ys) => dft_undo p n c d ys w h hc)
  have HX := Lib.hid hx
  have hB : Below W.heap.size W W := Below.refl _ _
  clear hx hc hh I hd
  generalize finv (n : Int) = v at *
  generalize rdir n (1 - d) = s at *
  generalize rdir n d = r at *
  cases b
  all_goals
    simp only [if_true, if_false, Bool.false_eq_true] at hb
    subst hb
    go_enter Try.func12, Try.ntmps12
    go_wp2_with fail
    refine (C.out _).mono ?_
    rintro e w1 ⟨rfl, rfl⟩
    go_wp2_with fail
    refine (DD.out _ _ _ _ HX.out).mono ?_
    rintro e w1 ⟨p1, c1, rfl, hr, b1⟩
    have RY := Lib.hid hr; clear hr; have HX := Lib.hid (HX.out.below b1); have hB := hB.trans (b1.mono hB.size); clear b1
    go_wp2_with fail
    refine (UU.out _ _ _ _ RY.out).mono ?_
    rintro e w1 ⟨p2, c2, rfl, hr, b1⟩
    rw [E1.out] at hr
    have RZ := Lib.hid hr; clear hr; have HX := Lib.hid (HX.out.below b1); have RY := Lib.hid (RY.out.below b1); have hB := hB.trans (b1.mono hB.size); clear b1
    go_wp2_with fail
    refine (UU.out _ _ _ _ HX.out).mono ?_
    rintro e w1 ⟨p3, c3, rfl, hr, b1⟩
    have RU := Lib.hid hr; clear hr; have HX := Lib.hid (HX.out.below b1); have RY := Lib.hid (RY.out.below b1); have RZ := Lib.hid (RZ.out.below b1); have hB := hB.trans (b1.mono hB.size); clear b1
    go_wp2_with fail
    refine (DD.out _ _ _ _ RU.out).mono ?_
    rintro e w1 ⟨p4, c4, rfl, hr, b1⟩
    rw [E2.out] at hr
    have RV := Lib.hid hr; clear hr; have HX := Lib.hid (HX.out.below b1); have RY := Lib.hid (RY.out.below b1); have RZ := Lib.hid (RZ.out.below b1); have hB := hB.trans (b1.mono hB.size); clear b1
    go_wp2_with fail
    refine (DD.out _ _ _ _ RY.out).mono ?_
    rintro e w1 ⟨p5, c5, rfl, hr, b1⟩
    rw [E3.out] at hr
    have RT := Lib.hid hr; clear hr; have HX := Lib.hid (HX.out.below b1); have RZ := Lib.hid (RZ.out.below b1); have RV := Lib.hid (RV.out.below b1); have hB := hB.trans (b1.mono hB.size); clear b1
    clear RY RU
    go_wp2_with fail
    refine (c_rred HX.out).mono ?_
    rintro e w1 ⟨p6, c6, rfl, hr, b1⟩
    have R6 := Lib.hid hr; clear hr; have HX := Lib.hid (HX.out.below b1); have RZ := Lib.hid (RZ.out.below b1); have RV := Lib.hid (RV.out.below b1); have RT := Lib.hid (RT.out.below b1); have hB := hB.trans (b1.mono hB.size); clear b1
    go_wp2_with fail
    refine (c_same RZ.out R6.out).mono ?_
    rintro e w1 ⟨rfl, b1⟩
    clear R6 RZ; have HX := Lib.hid (HX.out.below b1); have RV := Lib.hid (RV.out.below b1); have RT := Lib.hid (RT.out.below b1); have hB := hB.trans (b1.mono hB.size); clear b1
    go_wp2_with fail
    refine (c_rred HX.out).mono ?_
    rintro e w1 ⟨p6, c6, rfl, hr, b1⟩
    have R6 := Lib.hid hr; clear hr; have HX := Lib.hid (HX.out.below b1); have RV := Lib.hid (RV.out.below b1); have RT := Lib.hid (RT.out.below b1); have hB := hB.trans (b1.mono hB.size); clear b1
    go_wp2_with fail
    refine (c_same RV.out R6.out).mono ?_
    rintro e w1 ⟨rfl, b1⟩
    clear R6 RV; have HX := Lib.hid (HX.out.below b1); have RT := Lib.hid (RT.out.below b1); have hB := hB.trans (b1.mono hB.size); clear b1
    go_wp2_with fail
    refine (c_rrev HX.out).mono ?_
    rintro e w1 ⟨p6, c6, rfl, hr, b1⟩
    have R6 := Lib.hid hr; clear hr; have HX := Lib.hid (HX.out.below b1); have RT := Lib.hid (RT.out.below b1); have hB := hB.trans (b1.mono hB.size); clear b1
    go_wp2_with fail
    refine (c_rscale R6.out (by omega) (by omega)).mono ?_
    rintro e w1 ⟨p7, c7, rfl, hr, b1⟩
    have R7 := Lib.hid hr; clear hr; have HX := Lib.hid (HX.out.below b1); have RT := Lib.hid (RT.out.below b1); have hB := hB.trans (b1.mono hB.size); clear b1
    clear R6
    go_wp2_with fail
    refine (c_same RT.out R7.out).mono ?_
    rintro e w1 ⟨rfl, b1⟩
    clear R7 RT; have HX := Lib.hid (HX.out.below b1); have hB := hB.trans (b1.mono hB.size); clear b1
    go_wp2_with fail
    refine (live6 _).mono ?_
    rintro e w1 ⟨rfl, b1⟩
    have HX := Lib.hid (HX.out.below b1); have hB := hB.trans (b1.mono hB.size); clear b1
    go_wp2_with fail
    go_ret
    exact ⟨rfl, hB⟩

set_option maxRecDepth 100000 in
theorem odd (W : World) (a0 : Option Addr) (n c0 : Nat) (d : Int) (b : Bool) (hb : d = if b then 1 else 0) (h : 130 < n ∨ (n ≤ 130 ∧ chk n d ≠ 0)) :
    Calls Try.prog 12 #[.slice a0 n c0, .bool b] W fun e W' => e = .returned (.bool true) ∧ Below W.heap.size W W' := by
  rcases h with h | ⟨hn, h⟩
  · have g1 : decide (130 < (n : Int)) = true := decide_eq_true (by omega)
    cases b
    all_goals
      go_enter Try.func12, Try.ntmps12
      go_wp2_with fail
      refine (live6 _).mono ?_
      rintro e w1 ⟨rfl, b1⟩
      go_wp2_with fail
      go_ret
      exact ⟨rfl, b1⟩
  · have g1 : decide (130 < (n : Int)) = false := decide_eq_false (by omega)
    have C := Lib.hid (fun w => r6_chk n d w (by omega) (by omega))
    have hz : (chk n d != 0) = true := by simpa using h
    clear h
    generalize chk n d = z at *
    cases b
    all_goals
      simp only [if_true, if_false, Bool.false_eq_true] at hb
      subst hb
      go_enter Try.func12, Try.ntmps12
      go_wp2_with fail
      refine (C.out _).mono ?_
      rintro e w1 ⟨rfl, rfl⟩
      go_wp2_with fail
      refine (live6 _).mono ?_
      rintro e w1 ⟨rfl, b1⟩
      go_wp2_with fail
      go_ret
      exact ⟨rfl, b1⟩

theorem walk (W : World) (a0 : Option Addr) (n0 c0 : Nat) (w0 : IsRow .u64 W a0 n0 c0) (b : Bool) :
    Calls Try.prog 12 #[.slice a0 n0 c0, .bool b] W fun e W' => e = .returned (.bool true) ∧ Below W.heap.size W W' := by
  by_cases h : 130 < n0 ∨ (n0 ≤ 130 ∧ chk n0 (if b then 1 else 0) ≠ 0)
  · exact odd W a0 n0 c0 _ b rfl h
  · obtain ⟨xs, hx⟩ := Row.of_isRow w0 (by omega)
    have hn : n0 ≤ 130 := by omega
    have hc : chk n0 (if b then 1 else 0) = 0 := by
      by_cases e : chk n0 (if b then 1 else 0) = 0
      · exact e
      · exact absurd (.inr ⟨hn, e⟩) h
    exact main W a0 n0 c0 xs hx hn _ b rfl hc
end dftBack
end Go.Proofs.Yteimfmenbeicfaa
