/- Put together by program (merge.py): Genq Samei. -/
import Derived.Test.YtcfmiflhhjoofaaM8
import Derived.Test.YtcfmiflhhjoofaaM34
import Derived.Test.YtcfmiflhhjoofaaM42
/- Package gen: order, Order. -/
namespace Go.Proofs.Ytcfmiflhhjoofaa
open Go.ChangeShapes Go.WideShapes Go.ChangeAt Go.RowKit
set_option linter.unusedVariables false
set_option maxRecDepth 100000 in
set_option maxHeartbeats 4000000 in
theorem gen_order (q a : Nat) (W : World) (hq : isP q) (hq2 : q ≤ 131072) (h1 : 1 ≤ a) (ha : a < q) :
    Calls Try.prog 76 #[.int .i64 (q : Int), .int .i64 (a : Int)] W fun e w' => ∃ k : Nat, e = .returned (.int .i64 (k : Int)) ∧ IsOrd q a k ∧ k ∣ q - 1 ∧ Below W.heap.size W w' := by
  have q0 := hq.1
  obtain ⟨N, hN⟩ : ∃ N, q - 1 = N := ⟨_, rfl⟩
  have hN1 : 1 ≤ N := by omega
  have hN2 : N ≤ 131072 := by omega
  have hNi : (q : Int) - 1 = (N : Int) := by omega
  have FF := Lib.hid (fun w => fact_factors N w hN1 (by omega))
  have PW := Lib.hid (fun n w (h : n ≤ N) => gen_power q a n w q0 hq2 ha (by omega))
  have S0 := Lib.hid (OkO.start (q := q) (a := a) hN1 (by rw [← hN]; exact pow_fer hq h1 ha))
  have SE := Lib.hid (fun i n (h : OkO q a N i n) (hi : i < (fa N).length) => h.enter hN1 hi)
  have SM := Lib.hid (fun i p j e n (h : OkI q a N i p j e n) (hj : j < e) => h.more hN1 q0 hj)
  have SL := Lib.hid (fun i p j e n (h : OkI q a N i p j e n) (hi : i < (fa N).length) hp hx => h.leave hi hp hx)
  have SD := Lib.hid (fun n (h : OkO q a N (fa N).length n) => (show IsOrd q a n ∧ n ∣ N from ⟨h.done q0 hN1, h.dvd⟩))
  have FL := fa_len hN1 (by omega)
  rw [hN]
  clear hN
  have hB : Below W.heap.size W W := Below.refl _ _
  obtain ⟨L, hL⟩ : ∃ L, fa N = L := ⟨_, rfl⟩
  rw [hL] at FF SE SL SD FL
  obtain ⟨l, hn⟩ : ∃ l, L.length = l := ⟨_, rfl⟩
  rw [hn] at SE SL SD FL
  have GP := Lib.hid (fun w e w' (h : GivesP w L e w') => (show ∃ a c, e = .returned (.tuple #[.slice a l c, .int .i64 0]) ∧ RowP w' a l L ∧ Below w.heap.size w w' by unfold GivesP at h; rw [hn] at h; exact h))
  clear hn hL
  go_enter Try.func76, Try.ntmps76
  go_wp2_with fail
  go_step3
  go_wp2_with fail
  refine (FF.out _).mono ?_
  intro e w1 h
  obtain ⟨p1, k1, rfl, hr, b1⟩ := GP.out _ _ _ h
  have R1 := Lib.hid hr; clear hr h
  have hB := hB.trans (b1.mono hB.size); clear b1
  clear FF GP
  go_wp2_with fail
  go_step3
  go_wp2_with fail
  go_loopw [5, 19] (fun x y wr => ∃ i n : Nat, i ≤ l ∧ y = .int .i64 i ∧ x = .int .i64 n ∧ n ≤ N ∧ 1 ≤ n ∧ Hid (OkO q a N i n) ∧ Hid (RowP wr p1 l L) ∧ Below W.heap.size W wr) (fun _ y _ => l - (intOf y).toNat)
  case atStart => exact ⟨0, N, Nat.zero_le _, rfl, rfl, Nat.le_refl _, hN1, S0, R1, hB⟩
  case round =>
    clear R1 hB S0
    obtain ⟨i, n, hi, rfl, rfl, hn, hn1, HO, R1, hB⟩ := hrel
    by_cases hlt : i < l
    · have HI := Lib.hid (SE.out i n HO.out hlt)
      obtain ⟨b1, o1, rfl, hb1, hc1, hd1⟩ := R1.out.cell i hlt
      have GP1 := Lib.hid (show (L.getD i (0, 0)).1 = (L.getD i (0, 0)).1 from rfl)
      obtain ⟨p, hp⟩ : ∃ p, (L.getD i (0, 0)).1 = p := ⟨_, rfl⟩
      obtain ⟨ex, hex⟩ : ∃ ex, (L.getD i (0, 0)).2 = ex := ⟨_, rfl⟩
      rw [hp, hex] at HI
      rw [hp] at hc1
      rw [hex] at hd1
      have GP := Lib.hid hp
      have hp2 := HI.out.prime.1
      have hexn : ex ≤ n := by
        have h1 := HI.out.here
        obtain ⟨m, e1, _⟩ := mu_split hp2 n hn1
        have h2 : p ^ mu p n ≤ n := by
          rcases Nat.eq_zero_or_pos m with z | z
          · rw [z] at e1; omega
          · have := Nat.le_mul_of_pos_right (p ^ mu p n) z; omega
        have h3 : mu p n < p ^ mu p n := Nat.lt_pow_self (by omega)
        omega
      clear hp hex GP1
      have c0 : (wr.alloc (.cells #[.int .i64 (p : Int), .int .i64 (ex : Int)] 70)).cell? ⟨wr.heap.size, 0, none⟩ = some (.int .i64 (p : Int)) := by
        rw [cell_of_row _ _ 0 _ _ _ (heap_alloc_new wr (.cells #[.int .i64 (p : Int), .int .i64 (ex : Int)] 70))]; rfl
      have c1 : (wr.alloc (.cells #[.int .i64 (p : Int), .int .i64 (ex : Int)] 70)).cell? ⟨wr.heap.size, 1, none⟩ = some (.int .i64 (ex : Int)) := by
        rw [cell_of_row _ _ 1 _ _ _ (heap_alloc_new wr (.cells #[.int .i64 (p : Int), .int .i64 (ex : Int)] 70))]; rfl
      have hB2 := hB.alloc hB.size (.cells #[.int .i64 (p : Int), .int .i64 (ex : Int)] 70)
      have R2 := Lib.hid (R1.out.below ((Below.refl _ _).alloc (Nat.le_refl _) (.cells #[.int .i64 (p : Int), .int .i64 (ex : Int)] 70)))
      clear R1 hB
      go_wp2_with fail
      obtain ⟨BX, hBX⟩ : ∃ BX, wr.heap.size = BX := ⟨_, rfl⟩
      rw [hBX] at c0 c1 ⊢
      generalize wr.alloc (.cells #[.int .i64 (p : Int), .int .i64 (ex : Int)] 70) = w3 at *
      obtain ⟨wo, rfl⟩ : ∃ wo : World, wo = w3 := ⟨_, rfl⟩
      go_loopw [5, 25] (fun x y wr => ∃ j m : Nat, j ≤ ex ∧ y = .int .i64 j ∧ x = .int .i64 m ∧ m ≤ N ∧ 1 ≤ m ∧ Hid (OkI q a N i p j ex m) ∧ wr = wo) (fun _ y _ => ex - (intOf y).toNat)
      case atStart => exact ⟨0, n, Nat.zero_le _, rfl, rfl, hn, hn1, HI, rfl⟩
      case round =>
        have hexN : ex ≤ N := by omega
        clear HI hexn hn hn1 HO
        obtain ⟨j, m, hj, rfl, rfl, hm, hm1, HI, rfl⟩ := hrel
        have hz1 : ((p : Int) == 0) = false := by simp; omega
        have hz2 : ¬ ((p : Int) = 0) := by omega
        have hz3 : ¬ (p = 0) := by omega
        by_cases hlt2 : j < ex
        · obtain ⟨c, g1, g2, g3, g4, g5⟩ := SM.out i p j ex m HI.out hlt2
          have G5 := Lib.hid g5
          have d1 : ((m : Int)).tdiv (p : Int) = ((c : Nat) : Int) := by rw [← g1]; rfl
          have d1' : ((m : Int)) / (p : Int) = ((c : Nat) : Int) := d1
          have wd1 : IntKind.i64.wrap ((c : Nat) : Int) = ((c : Nat) : Int) := IntWalk.i64_in _ (by omega)
          have dd2 : decide ((j : Int) < (ex : Int)) = true := decide_eq_true (by omega)
          have P1 := Lib.hid (fun w => PW.out c w (by omega))
          have HLV := Lib.hid (fun (h : a ^ c % q ≠ 1) => SL.out i p j ex m HI.out hlt GP.out (fun _ => by rw [g1]; exact h))
          clear g5
          generalize a ^ c % q = v at *
          go_wp2_with fail
          refine (P1.out _).mono ?_
          rintro e w1 ⟨rfl, rfl⟩
          by_cases hv : v = 1
          · subst hv
            have HI2 := Lib.hid (G5.out rfl)
            go_wp2_with fail
            go_roundw
            case rel => exact ⟨j + 1, c, by omega, by go_num, by go_num, by omega, g3, HI2, by first | trivial | rfl⟩
            case measure => (first | (simp [intOf]; done) | (simp [intOf]; omega) | (simp only [intOf]; omega))
          · have e1 : ((v : Int) != 1) = true := by simp; omega
            have HO2 := Lib.hid (HLV.out hv)
            go_wp2_with fail
            go_roundw
            case rel => exact ⟨i + 1, m, by omega, by go_num, rfl, hm, hm1, HO2, R2, hB2⟩
            case measure => (first | (simp [intOf]; done) | (simp [intOf]; omega) | (simp only [intOf]; omega))
        · obtain rfl : j = ex := by omega
          have dd2 : decide ((j : Int) < (j : Int)) = false := decide_eq_false (by omega)
          have HO2 := Lib.hid (SL.out i p j j m HI.out hlt GP.out (fun hd => absurd hd HI.out.end))
          go_wp2_with fail
          go_roundw
          case rel => exact ⟨i + 1, m, by omega, by go_num, rfl, hm, hm1, HO2, R2, hB2⟩
          case measure => (first | (simp [intOf]; done) | (simp [intOf]; omega) | (simp only [intOf]; omega))
    · obtain rfl : i = l := by omega
      have dd : decide ((i : Int) < (i : Int)) = false := decide_eq_false (by omega)
      have HE := Lib.hid (SD.out n HO.out)
      go_wp2_with fail
      try rw [Exit.noGoto_ret]
      go_ret
      exact ⟨n, rfl, HE.out.1, HE.out.2, hB⟩
end Go.Proofs.Ytcfmiflhhjoofaa
/- The reference's Same of ints: are two rows one? -/
namespace Go.Proofs.Ytcfmiflhhjoofaa
open Go.ChangeShapes Go.WideShapes Go.ChangeAt Go.RowKit
set_option linter.unusedVariables false
end Go.Proofs.Ytcfmiflhhjoofaa
