/- Reference 8: Crt: each number is looked for. -/
import Derived.Test.YtkfjmmhcbbfhdaaPerm5
namespace Go.Proofs.Ytkfjmmhcbbfhdaa
open Go.ChangeShapes Go.WideShapes Go.ChangeAt Go.RowKit
set_option linter.unusedVariables false
set_option maxRecDepth 100000 in
set_option maxHeartbeats 1000000 in
theorem r8_crt (a b u v : Nat) (W : World) (ha : 1 ≤ a) (hb : 1 ≤ b) (h : a * b ≤ 16777216) (hg : Nat.gcd a b = 1) (hu : b * u % a = 1 % a) (hv : a * v % b = 1 % b) :
    Calls Try.prog 53 #[.int .i64 a, .int .i64 b] W (GivesI W (a * b) (gridl a b (b * u) (a * v))) := by
  have SA := Lib.hid (fun k hk => gridl_at a b (b * u) (a * v) k hk)
  have SW := Lib.hid (gridl_wf a b (b * u) (a * v) h)
  have SL := Lib.hid (gridl_len a b (b * u) (a * v))
  have CS := Lib.hid (fun k N hk hN => crt_search (a := a) (b := b) (u := u) (v := v) (k := k) (N := N) hg hu hv hk hN)
  have a2 : a ≤ a * b := Nat.le_mul_of_pos_right a (by omega)
  have b2 : b ≤ a * b := Nat.le_mul_of_pos_left b (by omega)
  have hz : ((b : Int) == 0) = false := by simp; omega
  have hz2 : ¬ ((b : Int) = 0) := by omega
  have hz3 : ¬ (b = 0) := by omega
  have az : ((a : Int) == 0) = false := by simp; omega
  have az2 : ¬ ((a : Int) = 0) := by omega
  have az3 : ¬ (a = 0) := by omega
  generalize gridl a b (b * u) (a * v) = ys at *
  generalize gridn a b (b * u) (a * v) = gn at *
  obtain ⟨N, hN⟩ : ∃ N, a * b = N := ⟨_, rfl⟩
  rw [hN] at h SA SL CS a2 b2 ⊢
  have hw0 : IntKind.i64.wrap ((a : Int) * (b : Int)) = (N : Int) := by rw [mul_cast, hN]; exact IntWalk.i64_in _ (by omega)
  clear hN hu hv hg
  go_enter Try.func53, Try.ntmps53
  go_wp2_with fail
  go_loopw [5, 6, 7] (fun v i _ wr => ∃ k : Nat, k ≤ N ∧ i = .int .i64 k ∧ Hid (Owns wr W.heap.size 3 .i64 v (upto ys k)) ∧ Below W.heap.size W wr) (fun _ i _ _ => N - (intOf i).toNat)
  case atStart => exact ⟨0, Nat.zero_le _, rfl, Lib.hid (Owns.nil _ _ _ _), Below.refl _ _⟩
  case round =>
    obtain ⟨k, hk, rfl, HO, hB⟩ := hrel
    by_cases hlt : k < N
    · have HS := Lib.hid (upto_snoc ys k _ (by rw [SL.out]; exact hlt) (SA.out k hlt))
      have HK := Lib.hid (upto_len ys k (by rw [SL.out]; exact hk))
      have hd : decide ((k : Int) < (N : Int)) = true := decide_eq_true (by omega)
      obtain ⟨e0, e1, e2⟩ := CS.out k (gn k) hlt rfl
      obtain ⟨y, hy⟩ : ∃ y, gn k = y := ⟨_, rfl⟩
      rw [hy] at e0 e1 e2 HS
      obtain ⟨t, ht⟩ : ∃ t, y / b = t := ⟨_, rfl⟩
      rw [ht] at e0 e2
      obtain ⟨q, hq0⟩ : ∃ q, k / b = q := ⟨_, rfl⟩
      obtain ⟨m, hm0⟩ : ∃ m, k % b = m := ⟨_, rfl⟩
      have hm : ((k : Int)).tmod (b : Int) = ((m : Nat) : Int) := by rw [← hm0]; rfl
      have hq : ((k : Int)).tdiv (b : Int) = ((q : Nat) : Int) := by rw [← hq0]; rfl
      have hm' : ((k : Int)) % (b : Int) = ((m : Nat) : Int) := hm
      have hq' : ((k : Int)) / (b : Int) = ((q : Nat) : Int) := hq
      have hqk : q ≤ k := by rw [← hq0]; exact Nat.div_le_self k b
      have hw1 : IntKind.i64.wrap ((q : Nat) : Int) = ((q : Nat) : Int) := IntWalk.i64_in _ (by omega)
      rw [hq0, hm0] at e2
      rw [hm0] at e0
      have E2 := Lib.hid e2
      have E0 := Lib.hid e0
      have EM := Lib.hid (fun i (hi : i ≤ t) => (show m + i * b ≤ y by have := Nat.mul_le_mul_right b hi; omega))
      have ES := Lib.hid (fun i => (show m + i * b + b = m + (i + 1) * b by rw [Nat.succ_mul]; omega))
      have EZ := Lib.hid (show (m : Int) = ((m + 0 * b : Nat) : Int) by rw [Nat.zero_mul, Nat.add_zero])
      clear e0 e2 ht hq0 hm0 hy
      go_wp2_with fail
      obtain ⟨wo, rfl⟩ : ∃ wo : World, wo = wr := ⟨_, rfl⟩
      go_loopw [7] (fun nn wr => ∃ i : Nat, i ≤ t ∧ nn = .int .i64 ((m + i * b : Nat) : Int) ∧ Below wo.heap.size wo wr) (fun nn _ => y + 1 - (intOf nn).toNat)
      case atStart => exact ⟨0, Nat.zero_le _, by rw [← EZ.out], Below.refl _ _⟩
      case round =>
        obtain ⟨i, hi, rfl, hB2⟩ := hrel
        have x1 := EM.out i hi
        have xs := ES.out i
        have xe := E2.out i hi
        obtain ⟨x, hx⟩ : ∃ x, m + i * b = x := ⟨_, rfl⟩
        rw [hx] at x1 xs xe
        rw [hx]
        obtain ⟨xa, hxa⟩ : ∃ xa, x % a = xa := ⟨_, rfl⟩
        rw [hxa] at xe
        have hma : ((x : Int)).tmod (a : Int) = ((xa : Nat) : Int) := by rw [← hxa]; rfl
        have hma' : ((x : Int)) % (a : Int) = ((xa : Nat) : Int) := hma
        clear hxa
        by_cases hit : i = t
        · have hc : ((xa : Int) != (q : Int)) = false := by simp [xe.2 hit]
          have E := Lib.hid (show x = y by rw [← hx, hit]; exact E0.out)
          have hxq := xe.2 hit
          subst hxq
          have HO2 := Lib.hid (HO.out.below hB2)
          have hB3 := hB.trans (hB2.mono hB.size)
          have HSx := HS.out
          rw [← E.out] at HSx
          have HSx := Lib.hid HSx
          clear HS E hx hit xe x1 xs HO
          have hc1 : ((xa : Int) != (xa : Int)) = false := by simp
          go_wp2_with fail
          go_quiet (fail)
          have HO3 := Lib.hid (HO2.out.below (below_drewN (Below.refl _ _) 1))
          go_wp2_with (at_builtin; refine append_one Try.underlying28 info_i64 rfl _ _ rfl rfl (Owns.below HO2.out (below_drewN (Below.refl _ _) _)) rfl (below_drewN hB3 _).size (by rw [HK.out]; omega) ?_; intro v' w' hO hb')
          have HO4 := Lib.hid hO
          clear hO
          go_wp2_with fail
          go_roundw
          case rel => exact ⟨k + 1, by omega, by go_num, by rw [← HSx.out]; exact HO4, (below_drewN hB3 _).trans hb'⟩
          case measure => (first | (simp [intOf]; done) | (simp [intOf]; omega) | (simp only [intOf]; omega))
        · have hxq : ¬ xa = q := fun e => hit (xe.1 e)
          have hc : ((xa : Int) != (q : Int)) = true := by simp; omega
          have hw5 : IntKind.i64.wrap ((x : Int) + (b : Int)) = ((x + b : Nat) : Int) := by rw [IntWalk.i64_in _ (by omega)]; omega
          have x2 := EM.out (i + 1) (by omega)
          rw [← xs] at x2
          have XS := Lib.hid xs
          clear xe hx xs
          have xlt : x < x + b := by omega
          generalize x + b = x' at *
          go_wp2_with fail
          go_quiet (fail)
          go_wp2_with fail
          go_roundw
          case rel => exact ⟨i + 1, by omega, by rw [← XS.out], below_drewN hB2 _⟩
          case measure => (first | (simp [intOf]; done) | (simp [intOf]; omega) | (simp only [intOf]; omega))
    · obtain rfl : k = N := by omega
      have hd : decide ((k : Int) < (k : Int)) = false := decide_eq_false (by omega)
      go_wp2_with fail
      go_ret
      exact givesI_own rfl (by rw [← upto_full ys k SL.out]; exact HO.out) hB SW.out SL.out (by omega)
end Go.Proofs.Ytkfjmmhcbbfhdaa
