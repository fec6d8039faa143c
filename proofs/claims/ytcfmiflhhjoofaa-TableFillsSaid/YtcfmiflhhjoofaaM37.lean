/- Put together by program (merge.py): Chirp3. -/
import Derived.Test.YtcfmiflhhjoofaaM36
/- Package chirp: rows, kernels, what stands ahead of the product and behind it. -/
namespace Go.Proofs.Ytcfmiflhhjoofaa
open Go.ChangeShapes Go.WideShapes Go.ChangeAt Go.RowKit
set_option linter.unusedVariables false
open rootTells
theorem c_crow (n many : Nat) (dir : Int) (W : World) (hh : hasb n = true) (hd : dir = 0 ∨ dir = 1) (hm : many ≤ 33554432) :
    Calls Try.prog 56 #[.int .i64 n, .int .i64 dir, .int .i64 many] W (GivesOk W many (rowc (rdir n dir) n many)) := by
  obtain ⟨a, b, c⟩ := hasb_dvd hh
  have BA := Lib.hid (fun w => chirp_base n dir w (by omega) (by omega) hh hd)
  have RW_ := Lib.hid (fun w => chirp_row (rdir n dir) n many w (rdir_lo _ _) (rdir_hi _ _) (by omega) (by omega) hm)
  have e1 : decide ((many : Int) < 0) = false := decide_eq_false (by omega)
  have e2 : decide (33554432 < (many : Int)) = false := decide_eq_false (by omega)
  clear hh hd c
  generalize rdir n dir = r at *
  generalize rowc r n many = ys at *
  go_enter Try.func56, Try.ntmps56
  go_wp2_with fail
  refine (BA.out _).mono ?_
  rintro e w1 ⟨rfl, b1⟩
  go_wp2_with fail
  refine (RW_.out _).mono ?_
  rintro e w2 ⟨p, k, rfl, h, b2⟩
  have HR := Lib.hid h
  clear h
  go_wp2_with fail
  go_ret2
  exact ⟨_, _, rfl, HR.out, b1.trans (b2.mono b1.size)⟩
theorem c_crowno (n dir many z : Int) (W : World) (h0 : -9223372036854775808 ≤ n) (h1 : n ≤ 9223372036854775807) (hz : (ckc n dir = z ∧ z ≠ 0) ∨ (ckc n dir = 0 ∧ (many < 0 ∨ 33554432 < many) ∧ z = 3)) :
    Calls Try.prog 56 #[.int .i64 n, .int .i64 dir, .int .i64 many] W fun e w' => e = .returned (.tuple #[.slice none 0 0, .int .i64 z]) ∧ Below W.heap.size W w' := by
  rcases hz with ⟨hc, hz⟩ | ⟨hc, hm, rfl⟩
  · have BA := Lib.hid (fun w => chirp_baseno n dir z w h0 h1 hc hz)
    have g : (z != 0) = true := by simpa using hz
    have hB : Below W.heap.size W W := Below.refl _ _
    clear hc hz
    go_enter Try.func56, Try.ntmps56
    go_wp2_with fail
    refine (BA.out _).mono ?_
    rintro e w1 ⟨rfl, rfl⟩
    go_wp2_with fail
    go_ret2
    exact ⟨rfl, hB⟩
  · obtain ⟨hh, hd⟩ := ckc_ok hc
    have BA := Lib.hid (fun w => chirp_base n dir w h0 h1 hh hd)
    clear hc hh hd
    generalize rdir n dir = r at *
    by_cases h : many < 0
    · have e1 : decide (many < 0) = true := decide_eq_true h
      clear hm
      go_enter Try.func56, Try.ntmps56
      go_wp2_with fail
      refine (BA.out _).mono ?_
      rintro e w1 ⟨rfl, b1⟩
      go_wp2_with fail
      go_ret2
      exact ⟨rfl, b1⟩
    · have e1 : decide (many < 0) = false := decide_eq_false h
      have e2 : decide (33554432 < many) = true := decide_eq_true (by omega)
      clear hm
      go_enter Try.func56, Try.ntmps56
      go_wp2_with fail
      refine (BA.out _).mono ?_
      rintro e w1 ⟨rfl, b1⟩
      go_wp2_with fail
      go_ret2
      exact ⟨rfl, b1⟩
set_option maxRecDepth 100000 in
theorem chirp_kernel (n m : Nat) (dir : Int) (W : World) (hh : hasb n = true) (hd : dir = 0 ∨ dir = 1) (hm : 2 * n - 1 ≤ m) (hhm : hasb m = true) :
    Calls Try.prog 59 #[.int .i64 n, .int .i64 m, .int .i64 dir] W (GivesOk W m (rowc (rdir n dir) n (2 * n - 1) ++ List.replicate (m - (2 * n - 1)) 0)) := by
  obtain ⟨a, b, c⟩ := hasb_dvd hh
  obtain ⟨a2, b2, c2⟩ := hasb_dvd hhm
  have hmk := make_u64 m (by omega)
  have BA := Lib.hid (fun w => chirp_base n dir w (by omega) (by omega) hh hd)
  have RW_ := Lib.hid (fun w => chirp_row (rdir n dir) n (2 * n - 1) w (rdir_lo _ _) (rdir_hi _ _) (by omega) (by omega) (by omega))
  have H := fun w => root_has (m : Int) w (by omega) (by omega)
  rw [hhm] at H
  have H := Lib.hid H
  have hw1 : IntKind.i64.wrap (2 * (n : Int)) = 2 * (n : Int) := IntWalk.i64_in _ (by omega)
  have hw2 : IntKind.i64.wrap (2 * (n : Int) - 1) = ((2 * n - 1 : Nat) : Int) := by rw [IntWalk.i64_in _ (by omega)]; omega
  have RLW := Lib.hid (rowc_wf (rdir n dir) n (2 * n - 1))
  have RLL := Lib.hid (rowc_len (rdir n dir) n (2 * n - 1))
  have hm17 : m ≤ 16777216 := by omega
  clear hh hd c hhm c2
  generalize rdir n dir = r at *
  generalize rowc r n (2 * n - 1) = ys at *
  generalize 2 * n - 1 = q at *
  have e1 : decide ((m : Int) < (q : Int)) = false := decide_eq_false (by omega)
  go_enter Try.func59, Try.ntmps59
  go_wp2_with fail
  refine (BA.out _).mono ?_
  rintro e w1 ⟨rfl, b1⟩
  go_wp2_with fail
  refine (H.out _).mono ?_
  rintro e w2 ⟨rfl, rfl⟩
  have R0 := Lib.hid (RowAt.made w1 43 m)
  have hB1 := b1.alloc b1.size (.cells (Array.replicate m (.int .u64 0)) 43)
  have hz1 : w1.heap.size < (w1.alloc (.cells (Array.replicate m (.int .u64 0)) 43)).heap.size := by simp
  go_wp2_with fail
  have hzz := b1.size
  obtain ⟨B, hBz⟩ : ∃ B, w1.heap.size = B := ⟨_, rfl⟩
  rw [hBz] at R0 hz1 hzz ⊢
  clear b1
  generalize w1.alloc (.cells (Array.replicate m (.int .u64 0)) 43) = w3 at *
  refine (RW_.out _).mono ?_
  rintro e w4 ⟨p, k, rfl, h, b3⟩
  obtain ⟨w5, hrun, hrow, hbut⟩ := run_copy_u64 3 (R0.out.below b3) (show (List.replicate m (0 : Int)).length = m by simp) h hm (dc := m) (sc := k)
  have HR := Lib.hid hrow
  have hB2 := hB1.trans (b3.mono hB1.size)
  have hB3 := hB2.trans (hbut.below hzz hB2.size)
  clear hrow hbut h b3 R0 hB1
  go_wp2_with (at_builtin; refine Lib.wpList_copy_run _ rfl _ _ 25 25 rfl _ _ rfl rfl hrun ?_)
  go_ret2
  refine ⟨_, _, rfl, Row.of_at (by rw [show List.replicate (m - q) (0 : Int) = (List.replicate m 0).drop q by rw [List.drop_replicate]]; exact HR.out) ?_ (by rw [List.length_append, RLL.out, List.length_replicate]; omega) (by omega), hB3⟩
  intro z hz
  rcases List.mem_append.1 hz with h | h
  · exact RLW.out z h
  · rw [List.eq_of_mem_replicate h]; decide
theorem chirp_kernelno (n m dir z : Int) (W : World) (h0 : -9223372036854775808 ≤ n) (h1 : n ≤ 9223372036854775807) (hz : ckc n dir = z) (hz0 : z ≠ 0) :
    Calls Try.prog 59 #[.int .i64 n, .int .i64 m, .int .i64 dir] W fun e w' => e = .returned (.tuple #[.slice none 0 0, .int .i64 z]) ∧ W = w' := by
  have BA := Lib.hid (fun w => chirp_baseno n dir z w h0 h1 hz hz0)
  have g : (z != 0) = true := by simpa using hz0
  clear hz hz0
  go_enter Try.func59, Try.ntmps59
  go_wp2_with fail
  refine (BA.out _).mono ?_
  rintro e w1 ⟨rfl, rfl⟩
  go_wp2_with fail
  go_ret2
  exact ⟨rfl, rfl⟩
theorem chirp_kernellen (n m dir : Int) (W : World) (hh : hasb n = true) (hd : dir = 0 ∨ dir = 1) (m0 : -9223372036854775808 ≤ m) (m1 : m ≤ 9223372036854775807) (h : m < 2 * n - 1 ∨ hasb m = false) :
    Calls Try.prog 59 #[.int .i64 n, .int .i64 m, .int .i64 dir] W fun e w' => e = .returned (.tuple #[.slice none 0 0, .int .i64 5]) ∧ Below W.heap.size W w' := by
  obtain ⟨a, b, c⟩ := hasb_dvd hh
  have BA := Lib.hid (fun w => chirp_base n dir w (by omega) (by omega) hh hd)
  have hw1 : IntKind.i64.wrap (2 * n) = 2 * n := IntWalk.i64_in _ (by omega)
  have hw2 : IntKind.i64.wrap (2 * n - 1) = 2 * n - 1 := IntWalk.i64_in _ (by omega)
  have H := fun w => root_has m w m0 m1
  clear hh hd c
  generalize rdir n dir = r at *
  by_cases e : m < 2 * n - 1
  · have e1 : decide (m < 2 * n - 1) = true := decide_eq_true e
    clear h H
    go_enter Try.func59, Try.ntmps59
    go_wp2_with fail
    refine (BA.out _).mono ?_
    rintro e w1 ⟨rfl, b1⟩
    go_wp2_with fail
    go_ret2
    exact ⟨rfl, b1⟩
  · have e1 : decide (m < 2 * n - 1) = false := decide_eq_false e
    have hm : hasb m = false := by
      rcases h with h | h
      · exact absurd h e
      · exact h
    rw [hm] at H
    have H := Lib.hid H
    clear h hm
    go_enter Try.func59, Try.ntmps59
    go_wp2_with fail
    refine (BA.out _).mono ?_
    rintro e w1 ⟨rfl, b1⟩
    go_wp2_with fail
    refine (H.out _).mono ?_
    rintro e w2 ⟨rfl, rfl⟩
    go_wp2_with fail
    go_ret2
    exact ⟨rfl, b1⟩
/-- What stands ahead of the product. -/
def forel (r : Int) (xs : List Int) (n : Nat) : List Int := tab n fun i => fm (xs.getD (n - 1 - i) 0 * fm (r ^ trin n (n - 1 - i)))
def aftl (r : Int) (cs : List Int) (n : Nat) : List Int := tab n fun k => fm (cs.getD (n - 1 + k) 0 * fm (r ^ trin n k))
theorem forel_len (r : Int) (xs : List Int) (n : Nat) : (forel r xs n).length = n := tab_len _ _
theorem aftl_len (r : Int) (xs : List Int) (n : Nat) : (aftl r xs n).length = n := tab_len _ _
theorem forel_at (r : Int) (xs : List Int) (n k : Nat) (h : k < n) : (forel r xs n).getD k 0 = fm (xs.getD (n - 1 - k) 0 * fm (r ^ trin n (n - 1 - k))) := tab_at n (fun i => fm (xs.getD (n - 1 - i) 0 * fm (r ^ trin n (n - 1 - i)))) k h
theorem aftl_at (r : Int) (xs : List Int) (n k : Nat) (h : k < n) : (aftl r xs n).getD k 0 = fm (xs.getD (n - 1 + k) 0 * fm (r ^ trin n k)) := tab_at n (fun k => fm (xs.getD (n - 1 + k) 0 * fm (r ^ trin n k))) k h
theorem forel_wf (r : Int) (xs : List Int) (n : Nat) : ∀ z ∈ forel r xs n, (Lit.int .u64 z).wf = true := by
  intro z hz
  unfold forel tab at hz
  obtain ⟨k, _, rfl⟩ := List.mem_map.1 hz
  exact WalkArith.wf_u64 ⟨fm_lo _, fm_hi' _⟩
theorem aftl_wf (r : Int) (xs : List Int) (n : Nat) : ∀ z ∈ aftl r xs n, (Lit.int .u64 z).wf = true := by
  intro z hz
  unfold aftl tab at hz
  obtain ⟨k, _, rfl⟩ := List.mem_map.1 hz
  exact WalkArith.wf_u64 ⟨fm_lo _, fm_hi' _⟩
/-- The row of Fore, whose last k places are filled. -/
def fillr (ys : List Int) (n k : Nat) : List Int := tab n fun i => if n - k ≤ i then ys.getD i 0 else 0
theorem fillr_zero (ys : List Int) (n : Nat) : fillr ys n 0 = List.replicate n 0 := by
  unfold fillr
  rw [tab_rep]
  apply tab_congr
  intro j hj
  rw [if_neg (by omega)]
theorem fillr_step (ys : List Int) (n k : Nat) (hk : k < n) : (fillr ys n k).set (n - 1 - k) (ys.getD (n - 1 - k) 0) = fillr ys n (k + 1) := by
  unfold fillr
  apply tab_set
  intro j hj
  by_cases e : j = n - 1 - k
  · rw [if_pos e, if_pos (by omega), e]
  · rw [if_neg e]
    by_cases h : n - k ≤ j
    · rw [if_pos h, if_pos (by omega)]
    · rw [if_neg h, if_neg (by omega)]
theorem fillr_full (ys : List Int) (n : Nat) (h : ys.length = n) : fillr ys n n = ys := by
  apply getD_ext
  · unfold fillr; rw [tab_len, h]
  · intro i hi
    unfold fillr at hi ⊢
    rw [tab_len] at hi
    rw [tab_at _ _ _ hi, if_pos (by omega)]
/-- The row of Aft, whose first k places are filled. -/
def filla (ys : List Int) (n k : Nat) : List Int := tab n fun i => if i < k then ys.getD i 0 else 0
theorem filla_zero (ys : List Int) (n : Nat) : filla ys n 0 = List.replicate n 0 := by
  unfold filla
  rw [tab_rep]
  apply tab_congr
  intro j hj
  rw [if_neg (by omega)]
theorem filla_step (ys : List Int) (n k : Nat) (hk : k < n) : (filla ys n k).set k (ys.getD k 0) = filla ys n (k + 1) := by
  unfold filla
  apply tab_set
  intro j hj
  by_cases e : j = k
  · rw [if_pos e, if_pos (by omega), e]
  · rw [if_neg e]
    by_cases h : j < k
    · rw [if_pos h, if_pos (by omega)]
    · rw [if_neg h, if_neg (by omega)]
theorem filla_full (ys : List Int) (n : Nat) (h : ys.length = n) : filla ys n n = ys := by
  apply getD_ext
  · unfold filla; rw [tab_len, h]
  · intro i hi
    unfold filla at hi ⊢
    rw [tab_len] at hi
    rw [tab_at _ _ _ hi, if_pos hi]
end Go.Proofs.Ytcfmiflhhjoofaa
