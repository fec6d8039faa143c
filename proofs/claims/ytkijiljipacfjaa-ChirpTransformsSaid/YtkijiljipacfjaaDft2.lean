/- Package dft, in both directions: base, Dft, Undo. -/
import Derived.Test.YtkijiljipacfjaaChk
import Derived.Test.YtkijiljipacfjaaLRootTells
namespace Go.Proofs.Ytkijiljipacfjaa
open Go.ChangeShapes Go.WideShapes Go.ChangeAt Go.RowKit
set_option linter.unusedVariables false
/-- The root of a direction. -/
def rdir (n dir : Int) : Int := if dir = 1 then finv (rt n) else rt n
theorem rdir_lo (n dir : Int) : 0 ≤ rdir n dir := by
  unfold rdir; split
  · exact rootTells.finv_lo _
  · exact rt_lo n
theorem rdir_hi (n dir : Int) : rdir n dir ≤ 18446744069414584320 := by
  unfold rdir; split
  · exact rootTells.finv_hi _
  · exact rt_hi n
theorem chk_ok {n dir : Int} (h : chk n dir = 0) : (dir = 0 ∨ dir = 1) ∧ hasb n = true ∧ n ≤ 4096 := by
  unfold chk at h
  by_cases d : dir = 0 ∨ dir = 1
  · rw [if_pos d] at h
    cases hh : hasb n with
    | false => rw [hh] at h; simp at h
    | true =>
      rw [hh, if_neg (by decide)] at h
      by_cases g : 4096 < n
      · rw [if_pos g] at h; omega
      · exact ⟨d, rfl, by omega⟩
  · rw [if_neg d] at h; omega
theorem chk_rng (n dir : Int) : 0 ≤ chk n dir ∧ chk n dir ≤ 12 := by
  unfold chk
  split
  · split
    · omega
    · split <;> omega
  · omega
theorem dft_base2 (n dir : Int) (w : World) (h0 : -9223372036854775808 ≤ n) (h1 : n ≤ 9223372036854775807) (hc : chk n dir = 0) :
    Calls Try.prog 62 #[.int .i64 n, .int .i64 dir] w fun e w' => e = .returned (.tuple #[.int .u64 (rdir n dir), .int .i64 0]) ∧ Below w.heap.size w w' := by
  obtain ⟨d, hh, hn⟩ := chk_ok hc
  have C := fun w => dft_chk n dir w h0 h1
  rw [hc] at C
  have C := Lib.hid C
  rcases d with rfl | rfl
  · have R := Lib.hid (show ∀ w, Calls Try.prog 92 #[.int .i64 n] w fun e w' => e = .returned (.tuple #[.int .u64 (rdir n 0), .int .i64 0]) ∧ Below w.heap.size w w' from fun w => root_root n w h0 h1 hh)
    generalize rdir n 0 = r at *
    clear hh hc
    go_enter Try.func62, Try.ntmps62
    go_wp2_with fail
    refine (C.out _).mono ?_
    rintro e w1 ⟨rfl, rfl⟩
    go_wp2_with fail
    refine (R.out _).mono ?_
    rintro e w1 ⟨rfl, b1⟩
    go_wp2_with fail
    go_ret2
    exact ⟨rfl, b1⟩
  · have R := Lib.hid (show ∀ w, Calls Try.prog 91 #[.int .i64 n] w fun e w' => e = .returned (.tuple #[.int .u64 (rdir n 1), .int .i64 0]) ∧ Below w.heap.size w w' from fun w => rootTells.root_back n w h0 h1 hh)
    generalize rdir n 1 = r at *
    clear hh hc
    go_enter Try.func62, Try.ntmps62
    go_wp2_with fail
    refine (C.out _).mono ?_
    rintro e w1 ⟨rfl, rfl⟩
    go_wp2_with fail
    refine (R.out _).mono ?_
    rintro e w1 ⟨rfl, b1⟩
    go_wp2_with fail
    go_ret2
    exact ⟨rfl, b1⟩
theorem dft_baseno (n dir c : Int) (w : World) (h0 : -9223372036854775808 ≤ n) (h1 : n ≤ 9223372036854775807) (hc : chk n dir = c) (hz : (c != 0) = true) :
    Calls Try.prog 62 #[.int .i64 n, .int .i64 dir] w fun e w' => e = .returned (.tuple #[.int .u64 0, .int .i64 c]) ∧ w = w' := by
  have C := fun w => dft_chk n dir w h0 h1
  rw [hc] at C
  have C := Lib.hid C
  clear hc
  go_enter Try.func62, Try.ntmps62
  go_wp2_with fail
  refine (C.out _).mono ?_
  rintro e w1 ⟨rfl, rfl⟩
  go_wp2_with fail
  go_ret2
  exact ⟨rfl, rfl⟩
set_option maxRecDepth 100000 in
theorem dft_dft2 (p : Option Addr) (n c : Nat) (dir : Int) (xs : List Int) (w : World) (hr : Row w p n xs) (hc : chk n dir = 0) :
    Calls Try.prog 26 #[.slice p n c, .int .i64 dir] w (GivesOk w n (horl (rdir n dir) xs n)) := by
  have hs := hr.small
  have h1 := (chk_ok hc).2.2
  have C := Lib.hid (fun w => dft_base2 n dir w (by omega) (by omega) hc)
  have HX := Lib.hid hr
  have r0 := rdir_lo n dir
  have r1 := rdir_hi n dir
  clear hc hr
  generalize rdir n dir = r at *
  go_enter Try.func26, Try.ntmps26
  go_wp2_with fail
  refine (C.out _).mono ?_
  rintro e w1 ⟨rfl, b1⟩
  have HX1 := Lib.hid (HX.out.below b1)
  go_wp2_with fail
  refine (dft_each p n c xs r _ HX1.out r0 r1 (by omega)).mono ?_
  rintro e w2 ⟨rfl, hq, b2⟩
  have HQ := Lib.hid hq
  clear hq
  go_wp2_with fail
  go_ret2
  exact ⟨_, _, rfl, Row.of_at HQ.out (horl_wf r xs n) (horl_len r xs n) hs, b1.trans (b2.mono b1.size)⟩
theorem dft_dftno (p : Option Addr) (n c : Nat) (dir z : Int) (w : World) (hs : n ≤ 17592186044415) (hc : chk n dir = z) (hz : (z != 0) = true) :
    Calls Try.prog 26 #[.slice p n c, .int .i64 dir] w fun e w' => e = .returned (.tuple #[.slice none 0 0, .int .i64 z]) ∧ w = w' := by
  have C := Lib.hid (fun w => dft_baseno n dir z w (by omega) (by omega) hc hz)
  clear hc
  go_enter Try.func26, Try.ntmps26
  go_wp2_with fail
  refine (C.out _).mono ?_
  rintro e w1 ⟨rfl, rfl⟩
  go_wp2_with fail
  go_ret2
  exact ⟨rfl, rfl⟩
end Go.Proofs.Ytkijiljipacfjaa
