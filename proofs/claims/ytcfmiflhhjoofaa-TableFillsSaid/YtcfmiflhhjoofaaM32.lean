/- Put together by program (merge.py): Dft3. -/
import Derived.Test.YtcfmiflhhjoofaaM10
import Derived.Test.YtcfmiflhhjoofaaM14
import Derived.Test.YtcfmiflhhjoofaaM31
/- The document's own transform (reference 6), and one sum of any. -/
namespace Go.Proofs.Ytcfmiflhhjoofaa
open Go.ChangeShapes Go.WideShapes Go.ChangeAt Go.RowKit
set_option linter.unusedVariables false
open rootTells
theorem bk_eq {n : Int} (hh : hasb n = true) : fm (rt n ^ (n - 1).toNat) = finv (rt n) := by
  obtain ⟨a, b, c⟩ := hasb_dvd hh
  have h1 := rt_one_pow hh
  have h2 := rt_inv hh
  have e : n.toNat = (n - 1).toNat + 1 := by omega
  rw [e, Int.pow_succ] at h1
  have := inv_uniq h1 (b := finv (rt n)) (by rw [Int.mul_comm]; exact h2)
  rw [this]
  exact fm_fm _
theorem r4_back (n : Int) (w : World) (hh : hasb n = true) :
    Calls Try.prog 44 #[.int .i64 n] w fun e w' => e = .returned (.int .u64 (finv (rt n))) ∧ w = w' := by
  obtain ⟨a, b, c⟩ := hasb_dvd hh
  have R := Lib.hid (fun w => r4_root n w hh)
  have HE := Lib.hid (show fm (rt n ^ (n.toNat - 1)) = finv (rt n) by rw [← bk_eq hh]; congr 2; omega)
  have P := Lib.hid (fun w => r2_pow (rt n) (n - 1).toNat w (rt_lo n) (rt_hi n) (by omega))
  have e1 : (((n - 1).toNat : Nat) : Int) = n - 1 := by omega
  rw [e1] at P
  clear hh c e1
  go_enter Try.func44, Try.ntmps44
  go_wp2_with fail
  refine (R.out _).mono ?_
  rintro e w1 ⟨rfl, rfl⟩
  go_wp2_with fail
  refine (P.out _).mono ?_
  rintro e w1 ⟨rfl, rfl⟩
  go_wp2_with fail
  go_ret
  exact ⟨ret_u64 HE.out, rfl⟩
theorem r4_dir (n dir : Int) (w : World) (hh : hasb n = true) (hd : dir = 0 ∨ dir = 1) :
    Calls Try.prog 24 #[.int .i64 n, .int .i64 dir] w fun e w' => e = .returned (.int .u64 (rdir n dir)) ∧ w = w' := by
  have R := Lib.hid (fun w => r4_root n w hh)
  have B := Lib.hid (fun w => r4_back n w hh)
  have E0 := Lib.hid (show rdir n 0 = rt n from rfl)
  have E1 := Lib.hid (show rdir n 1 = finv (rt n) from rfl)
  clear hh
  rcases hd with rfl | rfl
  · go_enter Try.func24, Try.ntmps24
    go_wp2_with fail
    refine (R.out _).mono ?_
    rintro e w1 ⟨rfl, rfl⟩
    go_wp2_with fail
    go_ret
    exact ⟨ret_u64 E0.out.symm, rfl⟩
  · go_enter Try.func24, Try.ntmps24
    go_wp2_with fail
    refine (B.out _).mono ?_
    rintro e w1 ⟨rfl, rfl⟩
    go_wp2_with fail
    go_ret
    exact ⟨ret_u64 E1.out.symm, rfl⟩
/-- A place that is asked at: 0, if below 0. -/
theorem psum_mul (st x : Int) (j : Nat) : fm (x * fm (st ^ j)) = fm (x * st ^ j) := fm_mul_r _ _
theorem c_rpows (a : Int) (n : Nat) (w : World) (a0 : 0 ≤ a) (a1 : a ≤ 18446744069414584320) (hn : n ≤ 16777216) : Calls Try.prog 25 #[.int .u64 a, .int .i64 n] w (Gives w n (powl a n)) :=
  (r4_powers a n w a0 a1 hn).mono fun e w' ⟨v, he, hq, hb⟩ => gives_own he hq hb (powl_wf a n) (powl_len a n) (by omega)
/-- A root's power at j times k, looked up around. -/
theorem powl_mod {r : Int} {n : Nat} (h : fm (r ^ n) = 1) (j k : Nat) (hn : 0 < n) : (powl r n).getD (j * k % n) 0 = fm (fm (r ^ k) ^ j) := by
  rw [powl_at r n _ (Nat.mod_lt _ hn), pow_mod h, Fld.fm_pow1, ← Int.pow_mul, Nat.mul_comm]
theorem rdir_one {n : Nat} {dir : Int} (hc : chk n dir = 0) : fm (rdir n dir ^ n) = 1 := by
  obtain ⟨hd, hh, _⟩ := chk_ok hc
  have h1 := rt_one_pow hh
  rw [Int.toNat_natCast] at h1
  rcases hd with rfl | rfl
  · exact h1
  · have := pow_one_of (rt_inv hh) n
    rw [Int.mul_pow, ← fm_mul_l, h1, Int.one_mul] at this
    exact this
set_option maxRecDepth 100000 in
theorem r6_dft (p : Option Addr) (n c : Nat) (dir : Int) (xs : List Int) (w : World) (hr : Row w p n xs) (hc : chk n dir = 0) :
    Calls Try.prog 29 #[.slice p n c, .int .i64 dir] w (Gives w n (horl (rdir n dir) xs n)) := by
  have hs := hr.small
  obtain ⟨hd, hh, hn⟩ := chk_ok hc
  have hn1 : 1 ≤ n := by have := (hasb_dvd hh).1; omega
  have D := Lib.hid (fun w => r4_dir n dir w hh hd)
  have r0 := rdir_lo n dir
  have r1 := rdir_hi n dir
  have RM := Lib.hid (fun j k => powl_mod (rdir_one hc) j k hn1)
  have PW := Lib.hid (fun w => c_rpows (rdir n dir) n w r0 r1 (by omega))
  have HX := Lib.hid hr
  have HL := Lib.hid hr.len
  have hB := Below.refl w.heap.size w
  clear hr hc hh hd
  generalize rdir n dir = r at *
  have YL := Lib.hid (horl_len r xs n)
  have YA := Lib.hid (horl_at r xs n)
  have YW := Lib.hid (horl_wf r xs n)
  go_enter Try.func29, Try.ntmps29
  go_wp2_with fail
  refine (D.out _).mono ?_
  rintro e w1 ⟨rfl, rfl⟩
  go_wp2_with fail
  refine (PW.out _).mono ?_
  rintro e w1 ⟨q, d, rfl, hq, b1⟩
  have HQ := Lib.hid hq
  have HX1 := Lib.hid (HX.out.below b1)
  clear hq HX
  go_wp2_with fail
  go_loopw [7, 8, 9, 10] (fun v i _ _ wr => ∃ k : Nat, k ≤ n ∧ i = .int .i64 k ∧ Hid (Owns wr w1.heap.size 43 .u64 v (upto (horl r xs n) k)) ∧ Below w1.heap.size w1 wr) (fun _ i _ _ _ => n - (intOf i).toNat)
  case atStart => exact ⟨0, Nat.zero_le _, rfl, Lib.hid (Owns.nil _ _ _ _), Below.refl _ _⟩
  case round =>
    obtain ⟨k, hk, rfl, HOW, hB⟩ := hrel
    have HX := Lib.hid (HX1.out.below hB)
    have HQ2 := Lib.hid (HQ.out.below hB)
    by_cases hlt : k < n
    · have HS := Lib.hid (upto_snoc (horl r xs n) k _ (by rw [YL.out]; exact hlt) (YA.out k hlt))
      have HK := Lib.hid (upto_len (horl r xs n) k (by rw [YL.out]; exact hk))
      have RK := Lib.hid (fun j => RM.out j k)
      have HA := Lib.hid (psum_all (fm (r ^ k)) xs)
      have HSt := Lib.hid (psum_step (fm (r ^ k)) xs)
      generalize fm (r ^ k) = st at *
      have hd : decide ((k : Int) < (n : Int)) = true := decide_eq_true (by omega)
      go_wp2_with fail
      obtain ⟨wo, rfl⟩ : ∃ wo : World, wo = wr := ⟨_, rfl⟩
      go_loopw [9, 10] (fun s i wr => ∃ j : Nat, j ≤ n ∧ i = .int .i64 j ∧ s = .int .u64 (psum st xs j) ∧ Below wo.heap.size wo wr) (fun _ i _ => n - (intOf i).toNat)
      case atStart => exact ⟨0, Nat.zero_le _, rfl, rfl, Below.refl _ _⟩
      case round =>
        obtain ⟨j, hj, rfl, rfl, hB2⟩ := hrel
        by_cases hlt2 : j < n
        · obtain ⟨b, off, rfl, hb, hc0, x0, x1⟩ := HX.out.cell hlt2
          have hm : j * k % n < n := Nat.mod_lt _ (by omega)
          obtain ⟨b', off', rfl, hb', hd0, y0, y1⟩ := HQ2.out.cell hm
          rw [RK.out j] at hd0 y0 y1
          have hjk : j * k ≤ 4096 * 4096 := Nat.mul_le_mul (by omega) (by omega)
          have hw1 : IntKind.i64.wrap ((j : Int) * (k : Int)) = (j : Int) * (k : Int) := IntWalk.i64_in _ (by rw [← Int.natCast_mul]; omega)
          have hw2 : ((j : Int) * (k : Int)).tmod (n : Int) = ((j * k % n : Nat) : Int) := by
            rw [show ((j : Int) * (k : Int)) = ((j * k : Nat) : Int) from by push_cast; rfl]; rfl
          have hnz : ((n : Int) == 0) = false := by simp; omega
          have hnz2 : ¬ ((n : Int) = 0) := by omega
          have hnz3 : ¬ (n = 0) := by omega
          have HS1 := Lib.hid (HSt.out j (by rw [HL.out]; exact hlt2))
          have HT1 := Lib.hid (psum_mul st (xs.getD j 0) j)
          have s0 := psum_lo st xs j
          have s1 := psum_hi st xs j
          generalize xs.getD j 0 = x at *
          have hc : wr.cell? ⟨b, off + j, none⟩ = some (.int .u64 x) := (hB2.cell (p := ⟨b, off + j, none⟩) hb).trans hc0
          have hc' : wr.cell? ⟨b', off' + j * k % n, none⟩ = some (.int .u64 (fm (st ^ j))) := (hB2.cell (p := ⟨b', off' + j * k % n, none⟩) hb').trans hd0
          clear hc0 hd0
          generalize j * k % n = m at *
          have hm0 : (0 : Int) ≤ (m : Int) := by omega
          have hm1 : (m : Int) < (n : Int) := by omega
          go_wp2_with fail
          go_region_held3 (fun w' => w'.cell? ⟨b, off + j, none⟩ = some (.int .u64 x) ∧ w'.cell? ⟨b', off' + m, none⟩ = some (.int .u64 (fm (st ^ j))) ∧ Below wo.heap.size wo w') (first | exact ⟨hc, hc', hB2.drew⟩ | assumption) (first | (go_at_call 49; (with_reducible refine (r2_red _ _ (by assumption) (by assumption)).mono ?_); rintro e w' ⟨rfl, rfl⟩) | (go_at_call 46; (with_reducible refine (r2_mulf _ _ _).mono ?_); rintro e w' ⟨rfl, rfl⟩) | (go_at_call 48; (with_reducible refine (r2_add _ _ _ s0 s1 (fm_lo _) (fm_hi _)).mono ?_); rintro e w' ⟨rfl, rfl⟩))
          have hS2 := Lib.hid (by assumption : _ ∧ _ ∧ Below wo.heap.size wo _)
          rw [HS1.out]
          go_wp2_with fail
          go_roundw
          case rel => exact ⟨j + 1, by omega, by go_num, rfl, hS2.out.2.2⟩
          case measure => (first | (simp [intOf]; done) | (simp [intOf]; omega) | (simp only [intOf]; omega))
        · obtain rfl : j = n := by omega
          have HE := Lib.hid (show psum st xs j = hor st xs by rw [← HA.out, HL.out])
          rw [HE.out]
          have HOW2 := Lib.hid (HOW.out.below hB2)
          have hB3 := hB.trans (hB2.mono hB.size)
          go_wp2_with (at_builtin; refine append_one Try.underlying25 info_u64 rfl _ _ rfl rfl HOW2.out rfl hB3.size (by rw [HK.out]; omega) ?_; intro v' w' hO hb')
          have HO2 := Lib.hid hO
          clear hO
          go_wp2_with fail
          go_roundw
          case rel => exact ⟨k + 1, by omega, by go_num, by rw [← HS.out]; exact HO2, hB3.trans hb'⟩
          case measure => (first | (simp [intOf]; done) | (simp [intOf]; omega) | (simp only [intOf]; omega))
    · obtain rfl : k = n := by omega
      have hd : decide ((k : Int) < (k : Int)) = false := decide_eq_false (by omega)
      go_wp2_with fail
      go_ret
      exact gives_own rfl (by rw [← upto_full (horl r xs k) k YL.out]; exact HOW.out) (b1.trans (hB.mono b1.size)) YW.out YL.out hs
end Go.Proofs.Ytcfmiflhhjoofaa
