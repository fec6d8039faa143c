/- Put together by program (merge.py): Chirp4 Chirp5. -/
import Derived.Test.YtcfmiflhhjoofaaM37
/- Reference 12: Fore, Aft. -/
namespace Go.Proofs.Ytcfmiflhhjoofaa
open Go.ChangeShapes Go.WideShapes Go.ChangeAt Go.RowKit
set_option linter.unusedVariables false
open rootTells
theorem forel_at' (r : Int) (xs : List Int) (n k : Nat) (h : k < n) : (forel r xs n).getD k 0 = fm (xs.getD (n - 1 - k) 0 * r ^ trin n (n - 1 - k)) := by rw [forel_at _ _ _ _ h, fm_mul_r]
theorem aftl_at' (r : Int) (xs : List Int) (n k : Nat) (h : k < n) : (aftl r xs n).getD k 0 = fm (xs.getD (n - 1 + k) 0 * r ^ trin n k) := by rw [aftl_at _ _ _ _ h, fm_mul_r]
/-- Nothing, and an error. -/
theorem ckc_dir (n dir : Int) (h0 : -9223372036854775808 ≤ dir) (h1 : dir ≤ 9223372036854775807) : ckc n (IntKind.i64.wrap (1 - dir)) = ckc n dir := by
  have : (IntKind.i64.wrap (1 - dir) = 0 ∨ IntKind.i64.wrap (1 - dir) = 1) ↔ (dir = 0 ∨ dir = 1) := by
    rw [IntKind.wrap_i64]; omega
  unfold ckc
  simp only [this]
end Go.Proofs.Ytcfmiflhhjoofaa
/- Reference 12: Row, as a row of the call's own. -/
namespace Go.Proofs.Ytcfmiflhhjoofaa
open Go.ChangeShapes Go.WideShapes Go.ChangeAt Go.RowKit
set_option linter.unusedVariables false
open rootTells
set_option maxRecDepth 100000 in
theorem r12_rowo (n many : Nat) (dir : Int) (W : World) (hh : hasb n = true) (hd : dir = 0 ∨ dir = 1) (hm : many ≤ 5000) :
    Calls Try.prog 30 #[.int .i64 n, .int .i64 dir, .int .i64 many] W fun e w' => ∃ v, e = .returned v ∧ Owns w' W.heap.size 43 .u64 v (rowc (rdir n dir) n many) ∧ Below W.heap.size W w' := by
  obtain ⟨a, b, c⟩ := hasb_dvd hh
  have D := Lib.hid (fun w => r4_dir n dir w hh hd)
  have T := Lib.hid (fun i w (hi : i ≤ 67108864) => r12_tri n i w (by omega) (by omega) hi)
  have P := Lib.hid (fun k w (hk : k ≤ 18446744073709551615) => r2_pow (rdir n dir) k w (rdir_lo _ _) (rdir_hi _ _) hk)
  have YL := Lib.hid (rowc_len (rdir n dir) n many)
  have YA := Lib.hid (fun k hk => rowc_at (rdir n dir) n many k hk)
  have YW := Lib.hid (rowc_wf (rdir n dir) n many)
  have TB := Lib.hid (fun i => trin_lt i (show 0 < n by omega))
  have hn : n ≤ 16777216 := by omega
  clear hh hd c
  generalize rdir n dir = r at *
  generalize rowc r n many = ys at *
  go_enter Try.func30, Try.ntmps30
  go_wp2_with fail
  go_loopw [7, 8] (fun v i wr => ∃ k : Nat, k ≤ many ∧ i = .int .i64 k ∧ Hid (Owns wr W.heap.size 43 .u64 v (upto ys k)) ∧ Below W.heap.size W wr) (fun _ i _ => many - (intOf i).toNat)
  case atStart => exact ⟨0, Nat.zero_le _, rfl, Lib.hid (Owns.nil _ _ _ _), Below.refl _ _⟩
  case round =>
    obtain ⟨k, hk, rfl, HO, hB⟩ := hrel
    by_cases hlt : k < many
    · have HS := Lib.hid (upto_snoc ys k _ (by rw [YL.out]; exact hlt) (YA.out k hlt))
      have HK := Lib.hid (upto_len ys k (by rw [YL.out]; exact hk))
      have hd : decide ((k : Int) < (many : Int)) = true := decide_eq_true (by omega)
      have ht := TB.out k
      go_wp2_with fail
      refine (D.out _).mono ?_
      rintro e w1 ⟨rfl, rfl⟩
      go_wp2_with fail
      refine (T.out k _ (by omega)).mono ?_
      rintro e w1 ⟨rfl, rfl⟩
      generalize trin n k = t at *
      have hw0 : IntKind.u64.wrap (t : Int) = (t : Int) := by rw [IntKind.wrap_u64]; omega
      go_wp2_with fail
      refine (P.out t _ (by omega)).mono ?_
      rintro e w1 ⟨rfl, rfl⟩
      go_wp2_with (at_builtin; refine append_one Try.underlying25 info_u64 rfl _ _ rfl rfl HO.out rfl hB.size (by rw [HK.out]; omega) ?_; intro v' w' hO hb')
      have HO2 := Lib.hid hO
      clear hO
      go_wp2_with fail
      go_roundw
      case rel => exact ⟨k + 1, by omega, by go_num, by rw [← HS.out]; exact HO2, hB.trans hb'⟩
      case measure => (first | (simp [intOf]; done) | (simp [intOf]; omega) | (simp only [intOf]; omega))
    · obtain rfl : k = many := by omega
      have hd : decide ((k : Int) < (k : Int)) = false := decide_eq_false (by omega)
      go_wp2_with fail
      go_ret
      exact ⟨_, rfl, by rw [← upto_full ys k YL.out]; exact HO.out, hB⟩
end Go.Proofs.Ytcfmiflhhjoofaa
