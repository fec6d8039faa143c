/- Reference 8's Turns (for PermRounds). -/
import Derived.Test.YtblohakflpedoaaCys
import Derived.Test.YtblohakflpedoaaRowi
import Derived.Deep.Cut
namespace Go.Proofs.Ytblohakflpedoaa
open Go.ChangeShapes Go.WideShapes Go.ChangeAt Go.RowKit
set_option linter.unusedVariables false
set_option linter.unusedSimpArgs false
theorem invr_le (f : Nat → Int) (i : Nat) : ∀ k, invr f i k ≤ k
  | 0 => Nat.le_refl _
  | k + 1 => by have := invr_le f i k; unfold invr; split <;> omega
theorem invs_le (f : Nat → Int) (n : Nat) : ∀ i, i ≤ n → invs f i ≤ i * n
  | 0, _ => by simp [invs]
  | i + 1, h => by
    have h1 := invs_le f n i (by omega)
    have h2 := invr_le f i i
    rw [Nat.succ_mul]; unfold invs; omega
theorem turn_meas (n k : Nat) (h : k < n) : n - ((k + 1 : Nat) : Int).toNat < n - (k : Int).toNat := by omega
theorem turn_meas' (n k : Nat) (h : k < n) : n - ((k : Int) + 1).toNat < n - (k : Int).toNat := by omega
set_option maxRecDepth 100000 in
set_option maxHeartbeats 8000000 in
theorem r8_turns (p : Option Addr) (n c : Nat) (ps : List Int) (W : World) (hr : RowI W p n ps) (hn : n ≤ 1000) :
    Calls Try.prog 8 #[.slice p n c] W fun e w' => e = .returned (.int .i64 (invs (fun i => ps.getD i 0) n : Nat)) ∧ Below W.heap.size W w' := by
  have HR := Lib.hid hr
  have HN := Lib.hid hn
  clear hr hn
  go_enter Try.func8, Try.ntmps8
  go_wp2_with fail
  go_loopw [3, 4, 5] (fun a x _ wr => ∃ i : Nat, a = .int .i64 (invs (fun i => ps.getD i 0) i : Nat) ∧ x = .int .i64 i ∧ Hid (i ≤ n) ∧ Hid (Below W.heap.size W wr)) (fun _ x _ _ => n - (intOf x).toNat)
  case atStart => exact ⟨0, rfl, rfl, Lib.hid (Nat.zero_le _), Lib.hid (Below.refl _ _)⟩
  case round =>
    obtain ⟨i, rfl, rfl, HI, HB⟩ := hrel
    obtain ⟨w0, rfl⟩ : ∃ w, w = wr := ⟨_, rfl⟩
    by_cases hi : i < n
    · have hii : (i : Int) < (n : Int) := by omega
      have HIN := Lib.hid hi
      obtain ⟨S, hS⟩ : ∃ S, invs (fun i => ps.getD i 0) i = S := ⟨_, rfl⟩
      have HSS := Lib.hid hS
      have HSB := Lib.hid (show S ≤ 1000000 by have h1 := invs_le (fun i => ps.getD i 0) n i HI.out; have h2 : i * n ≤ 1000 * 1000 := Nat.mul_le_mul (by have := HN.out; omega) HN.out; omega)
      rw [hS]
      clear hS hi
      go_wp2_with fail
      go_loopw [3, 5] (fun a x wr => ∃ k : Nat, a = .int .i64 ((S + invr (fun i => ps.getD i 0) i k : Nat) : Int) ∧ x = .int .i64 k ∧ Hid (k ≤ i) ∧ Hid (Below W.heap.size W wr)) (fun _ x _ => i - (intOf x).toNat)
      case atStart => exact ⟨0, by simp [invr], rfl, Lib.hid (Nat.zero_le _), HB⟩
      case round =>
        obtain ⟨k, rfl, rfl, HK, HB2⟩ := hrel
        obtain ⟨w1, rfl⟩ : ∃ w, w = wr := ⟨_, rfl⟩
        by_cases hk : k < i
        · have hki : (k : Int) < (i : Int) := by omega
          have hkn : (k : Int) < (n : Int) := by omega
          obtain ⟨b, off, rfl, hb, hc0, -, -⟩ := HR.out.cell (k := k) (by have := HIN.out; omega)
          obtain ⟨b', off', he, hb', hc1, -, -⟩ := HR.out.cell (k := i) HIN.out
          cases he
          obtain ⟨x, hx⟩ : ∃ x, ps.getD k 0 = x := ⟨_, rfl⟩
          obtain ⟨y, hy⟩ : ∃ y, ps.getD i 0 = y := ⟨_, rfl⟩
          rw [hx] at hc0
          rw [hy] at hc1
          have hk0 : w1.cell? ⟨b, off + k, none⟩ = some (.int .i64 x) := (HB2.out.cell (p := ⟨b, off + k, none⟩) hb).trans hc0
          have hk1 : w1.cell? ⟨b, off + i, none⟩ = some (.int .i64 y) := (HB2.out.cell (p := ⟨b, off + i, none⟩) hb).trans hc1
          obtain ⟨R, hR⟩ : ∃ R, S + invr (fun i => ps.getD i 0) i k = R := ⟨_, rfl⟩
          have HRB := Lib.hid (show R ≤ 2000000 by have h1 := invr_le (fun i => ps.getD i 0) i k; have := HSB.out; have := HN.out; have := HIN.out; omega)
          have HR2 := Lib.hid (show S + invr (fun i => ps.getD i 0) i (k + 1) = R + (if x > y then 1 else 0) by rw [← hR, ← hx, ← hy]; simp only [invr]; omega)
          have WR := Lib.hid (show wrap64 ((k : Int) + 1) = ((k + 1 : Nat) : Int) by have := HN.out; have := HIN.out; simp only [wrap64]; omega)
          have WS := Lib.hid (show wrap64 ((R : Int) + 1) = ((R + 1 : Nat) : Int) by have := HRB.out; simp only [wrap64]; omega)
          have HKI := Lib.hid hk
          rw [hR]
          clear hR hx hy hc0 hc1 hk hb'
          by_cases hxy : x > y
          · have hd : decide (x > y) = true := by simp; exact hxy
            have HE := Lib.hid (show S + invr (fun i => ps.getD i 0) i (k + 1) = R + 1 by rw [HR2.out, if_pos hxy])
            go_wp2_with fail
            go_quiet (fail)
            go_wp2_with fail
            go_roundw
            case rel => exact ⟨k + 1, by rw [HE.out]; first | rw [WS.out] | simp, by first | rw [WR.out] | simp, Lib.hid HKI.out, Lib.hid (below_drewN HB2.out _)⟩
            case measure => first | exact turn_meas' i k HKI.out | (rw [WR.out]; exact turn_meas i k HKI.out) | (simp; omega)
          · have hd : decide (x > y) = false := by simp; omega
            have HE := Lib.hid (show S + invr (fun i => ps.getD i 0) i (k + 1) = R by rw [HR2.out, if_neg hxy]; omega)
            go_wp2_with fail
            go_quiet (fail)
            go_wp2_with fail
            go_roundw
            case rel => exact ⟨k + 1, by rw [HE.out], by first | rw [WR.out] | simp, Lib.hid HKI.out, Lib.hid (below_drewN HB2.out _)⟩
            case measure => first | exact turn_meas' i k HKI.out | (rw [WR.out]; exact turn_meas i k HKI.out) | (simp; omega)
        · have h8 : k = i := by have := HK.out; omega
          subst h8
          have hki : ¬ (k : Int) < (k : Int) := by omega
          have WR := Lib.hid (show wrap64 ((k : Int) + 1) = ((k + 1 : Nat) : Int) by have := HN.out; have := HIN.out; simp only [wrap64]; omega)
          have HE := Lib.hid (show invs (fun i => ps.getD i 0) (k + 1) = S + invr (fun i => ps.getD i 0) k k by rw [← HSS.out]; rfl)
          go_wp2_with fail
          go_roundw
          case rel => exact ⟨k + 1, by rw [HE.out], by first | rw [WR.out] | simp, Lib.hid HIN.out, HB2⟩
          case measure => first | exact turn_meas' n k HIN.out | (rw [WR.out]; exact turn_meas n k HIN.out) | (simp; omega)
    · have h9 : i = n := by have := HI.out; omega
      subst h9
      have hii : ¬ (i : Int) < (i : Int) := by omega
      go_wp2_with fail
      go_ret
      exact ⟨rfl, HB.out⟩
end Go.Proofs.Ytblohakflpedoaa
