/- Package small: base, Twist; the document's. -/
import Derived.Test.YtjiedfncamdojaaBut
import Derived.Test.YtjiedfncamdojaaDft3
import Derived.Test.YtjiedfncamdojaaLDftBack
namespace Go.Proofs.Ytjiedfncamdojaa
open Go.ChangeShapes Go.WideShapes Go.ChangeAt Go.RowKit
set_option linter.unusedVariables false
open rootTells
theorem hasb_five {n : Nat} (h : 1 ≤ n) (h5 : n ≤ 5) : hasb n = true := by
  have : n = 1 ∨ n = 2 ∨ n = 3 ∨ n = 4 ∨ n = 5 := by omega
  rcases this with rfl | rfl | rfl | rfl | rfl <;> decide +kernel
theorem small_base (n : Nat) (dir : Int) (W : World) (h : 1 ≤ n) (h5 : n ≤ 5) (hd : dir = 0 ∨ dir = 1) :
    Calls Try.prog 83 #[.int .i64 n, .int .i64 dir] W fun e w' => e = .returned (.int .u64 (rdir n dir)) ∧ Below W.heap.size W w' := by
  have hB := Below.refl W.heap.size W
  have R := Lib.hid (fun w => root_root n w (by omega) (by omega) (hasb_five h h5))
  rcases hd with rfl | rfl
  · have E := Lib.hid (show rdir n 0 = rt n from rfl)
    go_enter Try.func83, Try.ntmps83
    go_wp2_with fail
    refine (R.out _).mono ?_
    rintro e w1 ⟨rfl, b1⟩
    have hB := hB.trans (b1.mono hB.size); clear b1
    go_wp2_with fail
    go_ret
    exact ⟨ret_u64 E.out.symm, hB⟩
  · have K := Lib.hid (fun w => root_back n w (by omega) (by omega) (hasb_five h h5))
    have E := Lib.hid (show rdir n 1 = finv (rt n) from rfl)
    go_enter Try.func83, Try.ntmps83
    go_wp2_with fail
    refine (R.out _).mono ?_
    rintro e w1 ⟨rfl, b1⟩
    have hB := hB.trans (b1.mono hB.size); clear b1
    go_wp2_with fail
    refine (K.out _).mono ?_
    rintro e w1 ⟨rfl, b1⟩
    have hB := hB.trans (b1.mono hB.size); clear b1
    go_wp2_with fail
    go_ret
    exact ⟨ret_u64 E.out.symm, hB⟩
/-- Each number times its power. -/
def twl (xs : List Int) (u : Int) : List Int := (List.range xs.length).map fun i => fm (xs.getD i 0 * u ^ i)
theorem twl_len (xs : List Int) (u : Int) : (twl xs u).length = xs.length := by unfold twl; simp
theorem twl_at (xs : List Int) (u : Int) (i : Nat) (h : i < xs.length) : (twl xs u).getD i 0 = fm (xs.getD i 0 * u ^ i) := by unfold twl; simp [List.getD, h]
theorem twl_wf (xs : List Int) (u : Int) : ∀ z ∈ twl xs u, (Lit.int .u64 z).wf = true := by
  intro z hz
  unfold twl at hz
  obtain ⟨x, _, rfl⟩ := List.mem_map.1 hz
  exact WalkArith.wf_u64 ⟨fm_lo _, fm_hi' _⟩
theorem twl_twl (xs : List Int) (u v : Int) : twl (twl xs u) v = twl xs (fm (fm u * fm v)) := by
  apply getD_ext (by rw [twl_len, twl_len, twl_len])
  intro k hk
  rw [twl_len, twl_len] at hk
  rw [twl_at _ _ _ (by rw [twl_len]; exact hk), twl_at _ _ _ hk, twl_at _ _ _ hk, fm_mul_l, fm_mul_fm, ← fm_mul_r (xs.getD k 0) (fm (u * v) ^ k), Fld.fm_pow1, fm_mul_r, Int.mul_pow, Int.mul_assoc]
set_option maxRecDepth 100000 in
theorem small_twist (p : Option Addr) (n c : Nat) (xs : List Int) (u : Int) (w : World) (hr : Row w p n xs) (hn : n ≤ 16777216) (u0 : 0 ≤ u) (u1 : u ≤ 18446744073709551615) :
    Calls Try.prog 44 #[.slice p n c, .int .u64 u] w (Gives w n (twl xs u)) := by
  have hmk := make_u64 n (by omega)
  have hs := hr.small
  have hl := hr.len
  have HL := Lib.hid (show (twl xs u).length = n by rw [twl_len, hl])
  have HA := Lib.hid (show ∀ i, i < n → (twl xs u).getD i 0 = fm (xs.getD i 0 * u ^ i) by intro i hi; exact twl_at xs u i (by omega))
  have HO := Lib.hid (show (1 : Int) = fm (u ^ 0) by rw [Int.pow_zero]; rfl)
  have HX := Lib.hid hr
  clear hr hl
  go_enter Try.func44, Try.ntmps44
  go_wp2_with fail
  go_loopw [6, 7, 8, 14] (fun q _ _ i wr => ∃ k : Nat, k ≤ n ∧ i = .int .i64 k ∧ q = .int .u64 (fm (u ^ k)) ∧ Hid (Filling wr w.heap.size 24 (twl xs u) k n) ∧ Below w.heap.size w wr) (fun _ _ _ i _ => n - (intOf i).toNat)
  case atStart => exact ⟨0, Nat.zero_le _, rfl, by rw [← HO.out], Lib.hid (Filling.start w _ _ n), (Below.refl _ _).alloc (Nat.le_refl _) _⟩
  case round =>
    obtain ⟨k, hk, rfl, rfl, HFL, hB⟩ := hrel
    have hsz := HFL.out.lt
    by_cases hlt : k < n
    · have HS0 := HA.out k hlt
      obtain ⟨b, off, rfl, hb, hc0, x0, x1⟩ := HX.out.cell hlt
      have HX2 := Lib.hid (pow_next u k)
      have HX3 := Lib.hid (show fm (xs.getD k 0 * fm (u ^ k)) = fm (xs.getD k 0 * u ^ k) from fm_mul_r _ _)
      have g0 := fm_lo (u ^ k)
      have g1 := fm_hi (u ^ k)
      generalize xs.getD k 0 = x at *
      rw [← HX3.out] at HS0
      have HS := Lib.hid HS0
      clear HS0 HX3
      generalize fm (u ^ k) = pk at *
      have hc := (hB.cell (p := ⟨b, off + k, none⟩) hb).trans hc0
      clear hc0
      obtain ⟨z, hz⟩ := HFL.out.cell hlt HL.out
      have hfr := HFL.out.free k
      have HG := Lib.hid (HFL.out.step hlt HL.out HS.out)
      go_wp2_with fail
      refine (gold_mul _ _ _ x0 x1 g0 (by omega)).mono ?_
      rintro e w1 ⟨rfl, hb1⟩
      obtain ⟨z, hz⟩ := (HFL.out.below hb1).cell hlt HL.out
      have hfr := (HFL.out.below hb1).free k
      have HG := Lib.hid ((HFL.out.below hb1).step hlt HL.out HS.out)
      have hsz2 : w.heap.size < w1.heap.size := by have := hb1.size; omega
      go_wp2_with fail
      refine (gold_mul _ _ _ g0 (by omega) u0 u1).mono ?_
      rintro e w2 ⟨rfl, hb2⟩
      rw [HX2.out]
      have HG2 := Lib.hid (HG.out.below hb2)
      go_wp2_with fail
      go_roundw
      case rel => exact ⟨k + 1, by omega, by go_num, rfl, HG2, ((hB.trans (hb1.mono hB.size)).setCell (Nat.le_refl _) _).trans (hb2.mono (by simp; exact (hB.trans (hb1.mono hB.size)).size))⟩
      case measure => (first | (simp [intOf]; done) | (simp [intOf]; omega) | (simp only [intOf]; omega))
    · obtain rfl : k = n := by omega
      go_wp2_with fail
      go_ret
      exact ⟨_, _, rfl, Row.of_at (HFL.out.done HL.out) (twl_wf _ _) HL.out hs, hB⟩
end Go.Proofs.Ytjiedfncamdojaa
