/- Put together by program (merge.py): Chirp2. -/
import Derived.Test.YtcfmiflhhjoofaaM35
/- Reference 12; the least power of two; the page's example of layer 12. -/
namespace Go.Proofs.Ytcfmiflhhjoofaa
open Go.ChangeShapes Go.WideShapes Go.ChangeAt Go.RowKit
set_option linter.unusedVariables false
open rootTells
set_option maxRecDepth 100000 in
theorem r12_tri (n i : Nat) (W : World) (h1 : 1 ≤ n) (hn : n ≤ 16777216) (hi : i ≤ 67108864) :
    Calls Try.prog 27 #[.int .i64 n, .int .i64 i] W fun e w' => e = .returned (.int .i64 ((trin n i : Nat) : Int)) ∧ W = w' := by
  have TZ := trin_zero n
  have db : ((n : Int) == 0) = false := by simp; omega
  have db2 : ¬ ((n : Int) = 0) := by omega
  have db3 : ¬ (n = 0) := by omega
  go_enter Try.func27, Try.ntmps27
  go_wp2_with fail
  go_loopw [5, 6] (fun s k wr => ∃ j : Nat, j ≤ i ∧ k = .int .i64 j ∧ s = .int .i64 ((trin n j : Nat) : Int) ∧ W = wr) (fun _ k _ => i - (intOf k).toNat)
  case atStart => refine ⟨0, Nat.zero_le _, rfl, by rw [TZ]; rfl, ?_⟩; first | rfl | trivial
  case round =>
    obtain ⟨j, hj, rfl, rfl, rfl⟩ := hrel
    by_cases hlt : j < i
    · have ht := trin_lt j h1
      have HT := Lib.hid (trin_succ n j)
      generalize trin n j = t at *
      have hw1 : IntKind.i64.wrap ((t : Int) + (j : Int)) = (t : Int) + (j : Int) := IntWalk.i64_in _ (by omega)
      have hmod : ((t : Int) + (j : Int)).tmod (n : Int) = (((t + j) % n : Nat) : Int) := by
        rw [show ((t : Int) + (j : Int)) = ((t + j : Nat) : Int) from by omega]; rfl
      have hmod' : ((t : Int) + (j : Int)) % (n : Int) = (((t + j) % n : Nat) : Int) := hmod
      rw [HT.out] at hmod hmod'
      have hd : decide ((j : Int) < (i : Int)) = true := decide_eq_true (by omega)
      go_wp2_with fail
      go_roundw
      case rel => refine ⟨j + 1, by omega, by go_num, by first | rfl | rw [hmod] | rw [hmod'], ?_⟩; first | rfl | trivial
      case measure => (first | (simp [intOf]; done) | (simp [intOf]; omega) | (simp only [intOf]; omega))
    · obtain rfl : j = i := by omega
      have hd : decide ((j : Int) < (j : Int)) = false := decide_eq_false (by omega)
      go_wp2_with fail
      go_ret
      exact ⟨rfl, rfl⟩
set_option maxRecDepth 100000 in
theorem r12_row (n many : Nat) (dir : Int) (W : World) (hh : hasb n = true) (hd : dir = 0 ∨ dir = 1) (hm : many ≤ 5000) :
    Calls Try.prog 30 #[.int .i64 n, .int .i64 dir, .int .i64 many] W (Gives W many (rowc (rdir n dir) n many)) := by
  obtain ⟨a, b, c⟩ := hasb_dvd hh
  have D := Lib.hid (fun w => r4_dir n dir w hh hd)
  have T := Lib.hid (fun i w (hi : i ≤ 67108864) => r12_tri n i w (by omega) (by omega) hi)
  have P := Lib.hid (fun k w (hk : k ≤ 18446744073709551615) => r2_pow (rdir n dir) k w (rdir_lo _ _) (rdir_hi _ _) hk)
  have YL := Lib.hid (rowc_len (rdir n dir) n many)
  have YA := Lib.hid (fun k hk => rowc_at (rdir n dir) n many k hk)
  have YW := Lib.hid (rowc_wf (rdir n dir) n many)
  have TB := Lib.hid (fun i => trin_lt i (show 0 < n by omega))
  have hn : n ≤ 16777216 := by omega
  clear hh hd c
  generalize rdir n dir = r at *
  generalize rowc r n many = ys at *
  go_enter Try.func30, Try.ntmps30
  go_wp2_with fail
  go_loopw [7, 8] (fun v i wr => ∃ k : Nat, k ≤ many ∧ i = .int .i64 k ∧ Hid (Owns wr W.heap.size 43 .u64 v (upto ys k)) ∧ Below W.heap.size W wr) (fun _ i _ => many - (intOf i).toNat)
  case atStart => exact ⟨0, Nat.zero_le _, rfl, Lib.hid (Owns.nil _ _ _ _), Below.refl _ _⟩
  case round =>
    obtain ⟨k, hk, rfl, HO, hB⟩ := hrel
    by_cases hlt : k < many
    · have HS := Lib.hid (upto_snoc ys k _ (by rw [YL.out]; exact hlt) (YA.out k hlt))
      have HK := Lib.hid (upto_len ys k (by rw [YL.out]; exact hk))
      have hd : decide ((k : Int) < (many : Int)) = true := decide_eq_true (by omega)
      have ht := TB.out k
      go_wp2_with fail
      refine (D.out _).mono ?_
      rintro e w1 ⟨rfl, rfl⟩
      go_wp2_with fail
      refine (T.out k _ (by omega)).mono ?_
      rintro e w1 ⟨rfl, rfl⟩
      generalize trin n k = t at *
      have hw0 : IntKind.u64.wrap (t : Int) = (t : Int) := by rw [IntKind.wrap_u64]; omega
      go_wp2_with fail
      refine (P.out t _ (by omega)).mono ?_
      rintro e w1 ⟨rfl, rfl⟩
      go_wp2_with (at_builtin; refine append_one Try.underlying25 info_u64 rfl _ _ rfl rfl HO.out rfl hB.size (by rw [HK.out]; omega) ?_; intro v' w' hO hb')
      have HO2 := Lib.hid hO
      clear hO
      go_wp2_with fail
      go_roundw
      case rel => exact ⟨k + 1, by omega, by go_num, by rw [← HS.out]; exact HO2, hB.trans hb'⟩
      case measure => (first | (simp [intOf]; done) | (simp [intOf]; omega) | (simp only [intOf]; omega))
    · obtain rfl : k = many := by omega
      have hd : decide ((k : Int) < (k : Int)) = false := decide_eq_false (by omega)
      go_wp2_with fail
      go_ret
      exact gives_own rfl (by rw [← upto_full ys k YL.out]; exact HO.out) hB YW.out YL.out (by omega)
/-- The least power of two that is not below n. -/
def IsAbv (n m : Nat) : Prop := ∃ j, m = 2 ^ j ∧ n ≤ 2 ^ j ∧ ∀ i, i < j → 2 ^ i < n
theorem isAbv_uniq {n a b : Nat} (h : IsAbv n a) (k : IsAbv n b) : a = b := by
  obtain ⟨i, rfl, h1, h2⟩ := h
  obtain ⟨j, rfl, k1, k2⟩ := k
  rcases Nat.lt_trichotomy i j with h | h | h
  · have := k2 i h; omega
  · rw [h]
  · have := h2 j h; omega
theorem abv_next {n m : Nat} (h : ∃ j, m = 2 ^ j ∧ ∀ i, i < j → 2 ^ i < n) (hm : m < n) : ∃ j, 2 * m = 2 ^ j ∧ ∀ i, i < j → 2 ^ i < n := by
  obtain ⟨j, rfl, h⟩ := h
  refine ⟨j + 1, by rw [Nat.pow_succ]; omega, fun i hi => ?_⟩
  by_cases e : i = j
  · rw [e]; exact hm
  · exact h i (by omega)
theorem fact_within (n : Int) (w : World) : Calls Try.prog 62 #[.int .i64 n] w fun e w' => e = .returned (.bool (decide (1 ≤ n ∧ n ≤ 16777216))) ∧ w = w' := by
  by_cases h1 : 1 ≤ n
  · have g1 : decide (1 ≤ n) = true := decide_eq_true h1
    by_cases h2 : n ≤ 16777216
    · have g2 : decide (n ≤ 16777216) = true := decide_eq_true h2
      rw [decide_eq_true ⟨h1, h2⟩]
      go_enter Try.func62, Try.ntmps62
      go_wp2_with fail
      go_ret
      exact ⟨rfl, rfl⟩
    · have g2 : decide (n ≤ 16777216) = false := decide_eq_false h2
      rw [decide_eq_false (fun h => h2 h.2)]
      go_enter Try.func62, Try.ntmps62
      go_wp2_with fail
      go_ret
      exact ⟨rfl, rfl⟩
  · have g1 : decide (1 ≤ n) = false := decide_eq_false h1
    rw [decide_eq_false (fun h => h1 h.1)]
    go_enter Try.func62, Try.ntmps62
    go_wp2_with fail
    go_ret
    exact ⟨rfl, rfl⟩
end Go.Proofs.Ytcfmiflhhjoofaa
