/- Put together by program (merge.py): Chirp. -/
import Derived.Test.YtcfmiflhhjoofaaM11
import Derived.Test.YtcfmiflhhjoofaaM32
import Derived.Test.YtcfmiflhhjoofaaM34
/- Package chirp, and reference 12. -/
namespace Go.Proofs.Ytcfmiflhhjoofaa
open Go.ChangeShapes Go.WideShapes Go.ChangeAt Go.RowKit
set_option linter.unusedVariables false
open rootTells
/-- Triangular numbers. -/
def tri : Nat → Nat
  | 0 => 0
  | i + 1 => tri i + i
theorem tri_two : ∀ i, 2 * tri i = i * (i - 1)
  | 0 => rfl
  | 1 => rfl
  | i + 2 => by
    have := tri_two (i + 1)
    rw [tri, Nat.mul_add, this]
    simp only [Nat.add_sub_cancel]
    rw [show i + 2 - 1 = i + 1 by omega]
    grind
theorem tri_half (i : Nat) : i * (i - 1) / 2 = tri i := by have := tri_two i; omega
def trin (n i : Nat) : Nat := tri i % n
theorem trin_zero (n : Nat) : trin n 0 = 0 := by unfold trin tri; simp
theorem trin_succ (n i : Nat) : (trin n i + i) % n = trin n (i + 1) := by unfold trin; rw [tri, Nat.mod_add_mod]
theorem trin_lt {n : Nat} (i : Nat) (h : 0 < n) : trin n i < n := Nat.mod_lt _ h
/-- The powers by triangular numbers. -/
def rowc (r : Int) (n many : Nat) : List Int := tab many fun i => fm (r ^ trin n i)
theorem rowc_len (r : Int) (n many : Nat) : (rowc r n many).length = many := tab_len _ _
theorem rowc_at (r : Int) (n many k : Nat) (h : k < many) : (rowc r n many).getD k 0 = fm (r ^ trin n k) := tab_at many (fun i => fm (r ^ trin n i)) k h
theorem rowc_wf (r : Int) (n many : Nat) : ∀ z ∈ rowc r n many, (Lit.int .u64 z).wf = true := by
  intro z hz
  unfold rowc tab at hz
  obtain ⟨k, _, rfl⟩ := List.mem_map.1 hz
  exact WalkArith.wf_u64 ⟨fm_lo _, fm_hi' _⟩
theorem chirp_base (n dir : Int) (w : World) (h0 : -9223372036854775808 ≤ n) (h1 : n ≤ 9223372036854775807) (hh : hasb n = true) (hd : dir = 0 ∨ dir = 1) :
    Calls Try.prog 65 #[.int .i64 n, .int .i64 dir] w fun e w' => e = .returned (.tuple #[.int .u64 (rdir n dir), .int .i64 0]) ∧ Below w.heap.size w w' := by
  have H := fun w => root_has n w h0 h1
  rw [hh] at H
  have H := Lib.hid H
  rcases hd with rfl | rfl
  · have R := Lib.hid (show ∀ w, Calls Try.prog 68 #[.int .i64 n] w fun e w' => e = .returned (.tuple #[.int .u64 (rdir n 0), .int .i64 0]) ∧ Below w.heap.size w w' from fun w => root_root n w h0 h1 hh)
    generalize rdir n 0 = r at *
    clear hh
    go_enter Try.func65, Try.ntmps65
    go_wp2_with fail
    refine (H.out _).mono ?_
    rintro e w1 ⟨rfl, rfl⟩
    go_wp2_with fail
    refine (R.out _).mono ?_
    rintro e w1 ⟨rfl, b1⟩
    go_wp2_with fail
    go_ret2
    exact ⟨rfl, b1⟩
  · have R := Lib.hid (show ∀ w, Calls Try.prog 71 #[.int .i64 n] w fun e w' => e = .returned (.tuple #[.int .u64 (rdir n 1), .int .i64 0]) ∧ Below w.heap.size w w' from fun w => root_back n w h0 h1 hh)
    generalize rdir n 1 = r at *
    clear hh
    go_enter Try.func65, Try.ntmps65
    go_wp2_with fail
    refine (H.out _).mono ?_
    rintro e w1 ⟨rfl, rfl⟩
    go_wp2_with fail
    refine (R.out _).mono ?_
    rintro e w1 ⟨rfl, b1⟩
    go_wp2_with fail
    go_ret2
    exact ⟨rfl, b1⟩
/-- The document's error of a size and a direction. -/
def ckc (n dir : Int) : Int := if hasb n = false then 4 else if dir = 0 ∨ dir = 1 then 0 else 2
theorem ckc_ok {n dir : Int} (h : ckc n dir = 0) : hasb n = true ∧ (dir = 0 ∨ dir = 1) := by
  unfold ckc at h
  cases hh : hasb n with
  | false => rw [hh] at h; simp at h
  | true =>
    rw [hh] at h
    by_cases hd : dir = 0 ∨ dir = 1
    · exact ⟨rfl, hd⟩
    · rw [if_neg (by simp), if_neg hd] at h; cases h
theorem ckc_yes {n dir : Int} (h : hasb n = true) (hd : dir = 0 ∨ dir = 1) : ckc n dir = 0 := by
  unfold ckc; rw [if_neg (by rw [h]; simp), if_pos hd]
theorem ckc_no {n dir : Int} (h : hasb n = false) : ckc n dir = 4 := by unfold ckc; rw [if_pos h]
theorem ckc_arg {n dir : Int} (h : hasb n = true) (hd : ¬ (dir = 0 ∨ dir = 1)) : ckc n dir = 2 := by
  unfold ckc; rw [if_neg (by rw [h]; simp), if_neg hd]
theorem chirp_baseno (n dir z : Int) (w : World) (h0 : -9223372036854775808 ≤ n) (h1 : n ≤ 9223372036854775807) (hc : ckc n dir = z) (hz : z ≠ 0) :
    Calls Try.prog 65 #[.int .i64 n, .int .i64 dir] w fun e w' => e = .returned (.tuple #[.int .u64 0, .int .i64 z]) ∧ w = w' := by
  have H := fun w => root_has n w h0 h1
  cases hh : hasb n with
  | false =>
    rw [ckc_no hh] at hc
    subst hc
    rw [hh] at H
    have H := Lib.hid H
    clear hh
    go_enter Try.func65, Try.ntmps65
    go_wp2_with fail
    refine (H.out _).mono ?_
    rintro e w1 ⟨rfl, rfl⟩
    go_wp2_with fail
    go_ret2
    exact ⟨rfl, rfl⟩
  | true =>
    have hd : ¬ (dir = 0 ∨ dir = 1) := fun hd => hz (by rw [← hc, ckc_yes hh hd])
    rw [ckc_arg hh hd] at hc
    subst hc
    rw [hh] at H
    have H := Lib.hid H
    have d0 : (dir == 0) = false := by simp; omega
    have d1 : (dir == 1) = false := by simp; omega
    clear hh hd
    go_enter Try.func65, Try.ntmps65
    go_wp2_with fail
    refine (H.out _).mono ?_
    rintro e w1 ⟨rfl, rfl⟩
    go_wp2_with fail
    go_ret2
    exact ⟨rfl, rfl⟩
set_option maxRecDepth 100000 in
theorem chirp_rowat (r : Int) (n many : Nat) (W : World) (r0 : 0 ≤ r) (r1 : r ≤ 18446744069414584320) (h1 : 1 ≤ n) (hn : n ≤ 16777216) (hm : many ≤ 33554432) :
    Calls Try.prog 66 #[.int .i64 n, .int .u64 r, .int .i64 many] W fun e w' => ∃ B, e = .returned (.slice (some ⟨B, 0, none⟩) many many) ∧ W.heap.size ≤ B ∧ RowAt w' B 43 (rowc r n many) ∧ Below W.heap.size W w' := by
  have hmk := make_u64 many (by omega)
  have PW := Lib.hid (fun w => root_powers r n w r0 (by omega) hn)
  have YL := Lib.hid (rowc_len r n many)
  have YA := Lib.hid (fun k hk => rowc_at r n many k hk)
  have YW := Lib.hid (rowc_wf r n many)
  have PA := Lib.hid (fun k (hk : k < n) => powl_at r n k hk)
  have PL := Lib.hid (powl_len r n)
  have TZ := trin_zero n
  have db : ((n : Int) == 0) = false := by simp; omega
  have db2 : ¬ ((n : Int) = 0) := by omega
  have db3 : ¬ (n = 0) := by omega
  generalize powl r n = ps at *
  generalize rowc r n many = ys at *
  go_enter Try.func66, Try.ntmps66
  go_wp2_with fail
  refine (PW.out _).mono ?_
  rintro e w1 ⟨rfl, hq, b1⟩
  have HQ := Lib.hid (hq.alloc (.cells (Array.replicate many (.int .u64 0)) 43))
  have hz := hq.lt
  have hB1 := b1.alloc b1.size (.cells (Array.replicate many (.int .u64 0)) 43)
  have F0 := Lib.hid (Filling.start w1 43 ys many)
  obtain ⟨B, hBz⟩ : ∃ B, w1.heap.size = B := ⟨_, rfl⟩
  have hzB : W.heap.size < B := by omega
  clear hq b1
  go_wp2_with fail

  rw [hBz] at F0
  generalize w1.alloc (.cells (Array.replicate many (.int .u64 0)) 43) = w2 at *
  go_loopw [11, 27] (fun t i wr => ∃ k : Nat, k ≤ many ∧ i = .int .i64 k ∧ t = .int .i64 ((trin n k : Nat) : Int) ∧ Hid (Filling wr B 43 ys k many) ∧ Hid (RowAt wr W.heap.size 43 ps) ∧ Below W.heap.size W wr) (fun _ i _ => many - (intOf i).toNat)
  case atStart => exact ⟨0, Nat.zero_le _, rfl, by rw [TZ]; rfl, F0, HQ, hB1⟩
  case round =>
    clear F0 HQ hB1
    obtain ⟨k, hk, rfl, rfl, HF, HQ, hB⟩ := hrel
    by_cases hlt : k < many
    · have ht := trin_lt k h1
      have hc := HQ.out.cell (k := trin n k) (by rw [PL.out]; exact ht)
      rw [PA.out _ ht] at hc
      obtain ⟨u, hu⟩ := HF.out.cell hlt YL.out
      have hfr := HF.out.free k
      have HS := Lib.hid (YA.out k hlt)
      have HF2 := Lib.hid (HF.out.step hlt YL.out HS.out)
      have HQ2 := Lib.hid (show RowAt (wr.setCell ⟨B, k, none⟩ (.int .u64 (fm (r ^ trin n k)))) W.heap.size 43 ps from (heap_setCell_other wr ⟨B, k, none⟩ W.heap.size _ (by show W.heap.size ≠ B; omega)).trans HQ.out)
      have HT := Lib.hid (trin_succ n k)
      generalize fm (r ^ trin n k) = y at *
      generalize trin n k = t at *
      have hw1 : IntKind.i64.wrap ((t : Int) + (k : Int)) = (t : Int) + (k : Int) := IntWalk.i64_in _ (by omega)
      have hmod : ((t : Int) + (k : Int)).tmod (n : Int) = (((t + k) % n : Nat) : Int) := by
        rw [show ((t : Int) + (k : Int)) = ((t + k : Nat) : Int) from by omega]; rfl
      have hmod' : ((t : Int) + (k : Int)) % (n : Int) = (((t + k) % n : Nat) : Int) := hmod
      rw [HT.out] at hmod hmod'
      have hm0 : (0 : Int) ≤ (t : Int) := by omega
      have hm1 : (t : Int) < (n : Int) := by omega
      go_wp2_with fail
      go_roundw
      case rel => exact ⟨k + 1, by omega, by go_num, by first | rfl | rw [hmod] | rw [hmod'], HF2, HQ2, hB.setCell (Nat.le_of_lt hzB) _⟩
      case measure => (first | (simp [intOf]; done) | (simp [intOf]; omega) | (simp only [intOf]; omega))
    · obtain rfl : k = many := by omega
      go_wp2_with fail
      go_ret
      exact ⟨_, rfl, Nat.le_of_lt hzB, HF.out.done YL.out, hB⟩
theorem chirp_row (r : Int) (n many : Nat) (W : World) (r0 : 0 ≤ r) (r1 : r ≤ 18446744069414584320) (h1 : 1 ≤ n) (hn : n ≤ 16777216) (hm : many ≤ 33554432) :
    Calls Try.prog 66 #[.int .i64 n, .int .u64 r, .int .i64 many] W (Gives W many (rowc r n many)) :=
  (chirp_rowat r n many W r0 r1 h1 hn hm).mono fun e w' ⟨_, he, _, hq, hb⟩ => ⟨_, _, he, Row.of_at hq (rowc_wf _ _ _) (rowc_len _ _ _) (by omega), hb⟩
end Go.Proofs.Ytcfmiflhhjoofaa
