/- Package perm: Bits' refusals; reference 8's Bits; Apply of an order and a row of one length. -/
import Derived.Test.YtkfjmmhcbbfhdaaPerm9
import Derived.Test.YtkfjmmhcbbfhdaaPerm7
import Derived.Test.YtkfjmmhcbbfhdaaOwnm
namespace Go.Proofs.Ytkfjmmhcbbfhdaa
open Go.ChangeShapes Go.WideShapes Go.ChangeAt Go.RowKit
set_option linter.unusedVariables false
theorem perm_bitsno (n z : Int) (W : World) (h : ((n < 1 ∨ 16777216 < n) ∧ z = 3) ∨ (1 ≤ n ∧ n ≤ 16777216 ∧ pwb n = false ∧ z = 2)) :
    Calls Try.prog 54 #[.int .i64 n] W fun e w' => e = .returned (.tuple #[.slice none 0 0, .int .i64 z]) ∧ W = w' := by
  rcases h with ⟨h | h, rfl⟩ | ⟨h1, h2, h3, rfl⟩
  · have d1 : decide (n < 1) = true := decide_eq_true h
    go_enter Try.func54, Try.ntmps54
    go_wp2_with fail
    go_ret2
    exact ⟨rfl, rfl⟩
  · have d1 : decide (n < 1) = false := decide_eq_false (by omega)
    have d2 : decide (16777216 < n) = true := decide_eq_true h
    go_enter Try.func54, Try.ntmps54
    go_wp2_with fail
    go_ret2
    exact ⟨rfl, rfl⟩
  · have d1 : decide (n < 1) = false := decide_eq_false (by omega)
    have d2 : decide (16777216 < n) = false := decide_eq_false (by omega)
    obtain ⟨m, rfl⟩ : ∃ m : Nat, n = m := ⟨n.toNat, by omega⟩
    have hb : (bits .and .i64 (m : Int) ((m : Int) - 1) != 0) = true := by
      rw [show (m : Int) - 1 = ((m - 1 : Nat) : Int) by omega, i64_and_nat _ _ (by omega) (by omega)]
      have hp : ¬ isp m := fun hp => by rw [pwb_yes h1 (by simpa using hp)] at h3; cases h3
      have := fun x => hp ((isp_and m (by omega)).1 x)
      rw [bne_iff_ne]
      intro e
      exact this (by exact_mod_cast e)
    clear h3
    go_enter Try.func54, Try.ntmps54
    go_wp2_with fail
    go_ret2
    exact ⟨rfl, rfl⟩
theorem bitl_two (t i : Nat) (hi : i < 2 ^ t) : (bitl (t + 1)).getD i 0 = 2 * (bitl t).getD i 0 ∧ (bitl (t + 1)).getD (2 ^ t + i) 0 = 2 * (bitl t).getD i 0 + 1 ∧ 0 ≤ (bitl t).getD i 0 ∧ (bitl t).getD i 0 < ((2 ^ t : Nat) : Int) := by
  have hp : 2 ^ (t + 1) = 2 ^ t * 2 := Nat.pow_succ ..
  have := rv_lt t i hi
  rw [bitl_at (t + 1) i (by omega), bitl_at (t + 1) (2 ^ t + i) (by omega), bitl_at t i hi, rv_low hi, rv_high]
  omega
theorem bits_round {t M j : Nat} (hM : j ≤ t ∧ M = 2 ^ j) (h : M < 2 ^ t) :
    (j + 1 ≤ t ∧ M + M = 2 ^ (j + 1)) ∧ (bitl (j + 1)).length = M + M ∧ M + M ≤ 2 ^ t ∧ 0 < M ∧ ∀ i, i < M → (bitl (j + 1)).getD i 0 = 2 * (bitl j).getD i 0 ∧ (bitl (j + 1)).getD (M + i) 0 = 2 * (bitl j).getD i 0 + 1 ∧ 0 ≤ (bitl j).getD i 0 ∧ (bitl j).getD i 0 < (M : Int) := by
  obtain ⟨hj, rfl⟩ := hM
  have hjt : j < t := by
    by_cases e : j = t
    · rw [e] at h; omega
    · omega
  have hp : 2 ^ (j + 1) = 2 ^ j * 2 := Nat.pow_succ ..
  have hle : 2 ^ (j + 1) ≤ 2 ^ t := Nat.pow_le_pow_right (by omega) (by omega)
  exact ⟨⟨by omega, by omega⟩, by rw [bitl_len]; omega, by omega, Nat.pow_pos (by omega), fun i hi => bitl_two j i hi⟩
set_option maxRecDepth 100000 in
theorem r8_bits (t : Nat) (W : World) (h : 2 ^ t ≤ 16777216) :
    Calls Try.prog 56 #[.int .i64 ((2 ^ t : Nat) : Int)] W (GivesI W (2 ^ t) (bitl t)) := by
  have h1 : 1 ≤ 2 ^ t := Nat.pow_pos (by omega)
  have ST := Lib.hid (fun M j hM hl => bits_round (t := t) (M := M) (j := j) hM hl)
  have SW := Lib.hid (fun j (hj : j ≤ t) => bitl_wf j (Nat.le_trans (Nat.pow_le_pow_right (by omega) hj) h))
  have P1 := Lib.hid (fun M j (hM : j ≤ t ∧ M = 2 ^ j) => (show M ≤ 2 ^ t by obtain ⟨hj, rfl⟩ := hM; exact Nat.pow_le_pow_right (by omega) hj))
  have PE := Lib.hid (fun M j (hM : j ≤ t ∧ M = 2 ^ j) (e : M = 2 ^ t) => (show j = t by
    obtain ⟨hj, rfl⟩ := hM
    by_cases hlt : j < t
    · have := Nat.pow_lt_pow_right (a := 2) (by omega) hlt
      omega
    · omega))
  have R0 : RowI (W.alloc (.cells #[.int .i64 0] 3)) (some ⟨W.heap.size, 0, none⟩) 1 (bitl 0) :=
    RowI.of_at (T := 3) (by unfold RowAtI; rw [heap_alloc_new]; rfl) (bitl_wf 0 (by decide)) rfl (by omega)
  have R0 := Lib.hid R0
  have hB0 := (Below.refl W.heap.size W).alloc (Nat.le_refl _) (.cells #[.int .i64 0] 3)
  have BT := Lib.hid (show bitl t = bitl t from rfl)
  generalize hN : 2 ^ t = N at *
  have HN := Lib.hid hN
  clear hN
  go_enter Try.func56, Try.ntmps56
  go_wp2_with fail
  generalize W.alloc (.cells #[.int .i64 0] 3) = w1 at *
  go_loopw [3] (fun v wr => ∃ M j p c, Hid (j ≤ t ∧ M = 2 ^ j) ∧ v = .slice p M c ∧ Hid (RowI wr p M (bitl j)) ∧ Below W.heap.size W wr) (fun v _ => N - (slen v))
  case atStart => exact ⟨1, 0, _, _, Lib.hid ⟨Nat.zero_le _, rfl⟩, rfl, R0, hB0⟩
  case round =>
    clear R0 hB0
    obtain ⟨M, j, p, c, PM, rfl, HR, hB⟩ := hrel
    have hMN := P1.out M j PM.out
    by_cases hlt : M < N
    · obtain ⟨PM2, YL, YN, M0, HS⟩ := ST.out M j PM.out hlt
      have YW := Lib.hid (SW.out (j + 1) PM2.1)
      have PM2 := Lib.hid PM2
      have HS := Lib.hid HS
      have YL := Lib.hid YL
      have hd : decide ((M : Int) < (N : Int)) = true := decide_eq_true (by omega)
      obtain ⟨ys, hys⟩ : ∃ ys, bitl (j + 1) = ys := ⟨_, rfl⟩
      rw [hys] at YW YL HS
      have YE := Lib.hid hys
      clear hys
      generalize bitl j = xs at *
      go_wp2_with fail
      obtain ⟨wo, rfl⟩ : ∃ wo : World, wo = wr := ⟨_, rfl⟩
      go_loopw [4, 5] (fun v x wr => ∃ i : Nat, i ≤ M ∧ x = .int .i64 i ∧ Hid (Owns wr wo.heap.size 3 .i64 v (upto ys i)) ∧ Below wo.heap.size wo wr) (fun _ x _ => M - (intOf x).toNat)
      case atStart => exact ⟨0, Nat.zero_le _, rfl, Lib.hid (Owns.nil _ _ _ _), Below.refl _ _⟩
      case round =>
        obtain ⟨i, hi, rfl, HO, hB2⟩ := hrel
        by_cases hlt2 : i < M
        · obtain ⟨e1, _, e3, e4⟩ := HS.out i hlt2
          obtain ⟨b, off, rfl, hb, hc0, x0, x1⟩ := HR.out.cell hlt2
          have hc : wr.cell? ⟨b, off + i, none⟩ = some (.int .i64 (xs.getD i 0)) := (hB2.cell (p := ⟨b, off + i, none⟩) hb).trans hc0
          clear hc0
          obtain ⟨z, hzz⟩ : ∃ z, xs.getD i 0 = z := ⟨_, rfl⟩
          rw [hzz] at e1 e3 e4 hc x0 x1
          have HP := Lib.hid (upto_snoc ys i _ (by rw [YL.out]; omega) e1)
          have HK := Lib.hid (upto_len ys i (by rw [YL.out]; omega))
          have hd2 : decide ((i : Int) < (M : Int)) = true := decide_eq_true (by omega)
          have hw : IntKind.i64.wrap (2 * z) = 2 * z := IntWalk.i64_in _ (by omega)
          clear hzz e1
          go_wp2_with (at_builtin; refine append_one Try.underlying28 info_i64 rfl _ _ rfl rfl HO.out rfl hB2.size (by rw [HK.out]; omega) ?_; intro v' w' hO hb')
          have HO2 := Lib.hid hO
          clear hO
          go_wp2_with fail
          go_roundw
          case rel => exact ⟨i + 1, by omega, by go_num, by rw [← HP.out]; exact HO2, hB2.trans hb'⟩
          case measure => (first | (simp [intOf]; done) | (simp [intOf]; omega) | (simp only [intOf]; omega))
        · obtain rfl : i = M := by omega
          have hd2 : decide ((i : Int) < (i : Int)) = false := decide_eq_false (by omega)
          go_wp2_with fail
          go_loopw [4, 6] (fun v x wr => ∃ k : Nat, k ≤ i ∧ x = .int .i64 k ∧ Hid (Owns wr wo.heap.size 3 .i64 v (upto ys (i + k))) ∧ Below wo.heap.size wo wr) (fun _ x _ => i - (intOf x).toNat)
          case atStart => exact ⟨0, Nat.zero_le _, rfl, HO, hB2⟩
          case round =>
            clear HO hB2
            obtain ⟨k, hk, rfl, HO, hB2⟩ := hrel
            by_cases hlt3 : k < i
            · obtain ⟨_, e1, e3, e4⟩ := HS.out k hlt3
              obtain ⟨b, off, rfl, hb, hc0, x0, x1⟩ := HR.out.cell hlt3
              have hc : wr.cell? ⟨b, off + k, none⟩ = some (.int .i64 (xs.getD k 0)) := (hB2.cell (p := ⟨b, off + k, none⟩) hb).trans hc0
              clear hc0
              obtain ⟨z, hzz⟩ : ∃ z, xs.getD k 0 = z := ⟨_, rfl⟩
              rw [hzz] at e1 e3 e4 hc x0 x1
              have HP := Lib.hid (upto_snoc ys (i + k) _ (by rw [YL.out]; omega) e1)
              have HK := Lib.hid (upto_len ys (i + k) (by rw [YL.out]; omega))
              have hd3 : decide ((k : Int) < (i : Int)) = true := decide_eq_true (by omega)
              have hw : IntKind.i64.wrap (2 * z) = 2 * z := IntWalk.i64_in _ (by omega)
              have hw2 : IntKind.i64.wrap (2 * z + 1) = 2 * z + 1 := IntWalk.i64_in _ (by omega)
              clear hzz e1
              go_wp2_with (at_builtin; refine append_one Try.underlying28 info_i64 rfl _ _ rfl rfl HO.out rfl hB2.size (by rw [HK.out]; omega) ?_; intro v' w' hO hb')
              have HO2 := Lib.hid hO
              clear hO
              go_wp2_with fail
              go_roundw
              case rel => exact ⟨k + 1, by omega, by go_num, Lib.hid (by have := HO2.out; rw [HP.out] at this; exact this), hB2.trans hb'⟩
              case measure => (first | (simp [intOf]; done) | (simp [intOf]; omega) | (simp only [intOf]; omega))
            · obtain rfl : k = i := by omega
              have hd3 : decide ((k : Int) < (k : Int)) = false := decide_eq_false (by omega)
              have HO3 := HO.out
              rw [upto_full ys (k + k) YL.out] at HO3
              obtain ⟨a, c', rfl, hr, _, _⟩ := HO3.shape
              rw [YL.out]
              have HR2 := Lib.hid (show RowI wr a (k + k) ys from ⟨YL.out, hr, YW.out, by omega⟩)
              clear HO3 hr HO
              go_wp2_with fail
              go_roundw
              case rel => exact ⟨k + k, j + 1, _, _, PM2, rfl, by rw [YE.out]; exact HR2, hB.trans (hB2.mono hB.size)⟩
              case measure => simp only [slen]; omega
    · obtain rfl : M = N := by omega
      have hd : decide ((M : Int) < (M : Int)) = false := decide_eq_false (by omega)
      have E := PE.out M j PM.out rfl
      subst E
      go_wp2_with fail
      go_ret
      exact ⟨_, _, rfl, HR.out, hB⟩
theorem c_apply (p q : Option Addr) (n c d : Nat) (ps xs : List Int) (W : World) (hp : RowI W p n ps) (hq : Row W q n xs) (hg : rgt ps n n = true) :
    Calls Try.prog 41 #[.slice p n c, .slice q n d] W (GivesOk W n (movel ps xs n)) := by
  refine (perm_apply p q n n c d ps xs W hp hq hg).mono ?_
  rintro e w' ⟨a, l, c, z, rfl, h, hb⟩
  rcases h with ⟨h, _⟩ | ⟨_, rfl, rfl, h⟩
  · exact absurd rfl h
  · exact ⟨_, _, rfl, h, hb⟩
theorem movel_back (t : Nat) (xs : List Int) (hl : xs.length = 2 ^ t) : movel (bitl t) (movel (bitl t) xs (2 ^ t)) (2 ^ t) = xs := by
  apply getD_ext
  · rw [movel_len, hl]
  · intro i hi
    rw [movel_len] at hi
    rw [movel_at _ _ _ _ hi, bitl_at t i hi, Int.toNat_natCast, movel_at _ _ _ _ (rv_lt t i hi), bitl_at t _ (rv_lt t i hi), rv_back t i hi, Int.toNat_natCast]
end Go.Proofs.Ytkfjmmhcbbfhdaa
