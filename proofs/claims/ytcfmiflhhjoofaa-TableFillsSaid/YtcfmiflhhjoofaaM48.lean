/- Put together by program (merge.py): Tab8. -/
import Derived.Test.YtcfmiflhhjoofaaM47
/- Reference 16: Make of kinds 3 and 4. -/
namespace Go.Proofs.Ytcfmiflhhjoofaa
open Go.ChangeShapes Go.WideShapes Go.ChangeAt Go.RowKit
set_option linter.unusedVariables false
open rootTells
set_option maxRecDepth 100000 in
theorem r16_blue (d : Int) (N M a : Nat) (W : World) (hh : hasb N = true) (hd : d = 0 ∨ d = 1) (hM : M = 2 ^ a) (hM2 : M ≤ 130) (h : 2 * N - 1 ≤ M) (h2 : 2 ≤ N) :
    Calls Try.prog 11 #[.agg #[.int .i64 4, .int .i64 N, .int .i64 M, .int .i64 d]] W (Gives W M (horl (rdir M 0) (rowc (rdir N d) N (2 * N - 1) ++ List.replicate (M - (2 * N - 1)) 0) M)) := by
  obtain ⟨n1, n2, _⟩ := hasb_dvd hh
  have DR := Lib.hid (fun w => r4_dir N d w hh hd)
  have RO := Lib.hid (fun w => r12_rowo N (2 * N - 1) d w hh hd (by omega))
  have DF := Lib.hid (fun p c xs w (hr : Row w p M xs) => r6_dft p M c 0 xs w hr (chk_pow hM hM2 (.inl rfl)))
  have YL := Lib.hid (rowc_len (rdir N d) N (2 * N - 1))
  have YW := Lib.hid (rowc_wf (rdir N d) N (2 * N - 1))
  generalize rowc (rdir N d) N (2 * N - 1) = xs at *
  generalize rdir N d = r0 at *
  have ZL := Lib.hid (show xs.length + (M - (2 * N - 1)) ≤ 17592186044415 by rw [YL.out]; omega)
  have PL := Lib.hid (show (xs ++ List.replicate (M - (2 * N - 1)) 0).length = M by rw [List.length_append, List.length_replicate, YL.out]; omega)
  have PW := Lib.hid (show ∀ z ∈ xs ++ List.replicate (M - (2 * N - 1)) 0, (Lit.int .u64 z).wf = true by
    intro z hz
    rcases List.mem_append.1 hz with h | h
    · exact YW.out z h
    · rw [(List.mem_replicate.1 h).2]; rfl)
  have w2 : IntKind.i64.wrap (2 * (N : Int)) = 2 * (N : Int) := IntWalk.i64_in _ (by omega)
  have w3 : IntKind.i64.wrap (2 * (N : Int) - 1) = ((2 * N - 1 : Nat) : Int) := by
    rw [show 2 * (N : Int) - 1 = ((2 * N - 1 : Nat) : Int) by omega]; exact IntWalk.i64_in _ (by omega)
  have w4 : IntKind.i64.wrap ((M : Int) - ((2 * N - 1 : Nat) : Int)) = ((M - (2 * N - 1) : Nat) : Int) := by
    rw [show (M : Int) - ((2 * N - 1 : Nat) : Int) = ((M - (2 * N - 1) : Nat) : Int) by omega]; exact IntWalk.i64_in _ (by omega)
  have s3 : 2 * (N : Int) - 1 = ((2 * N - 1 : Nat) : Int) := by omega
  have s4 : (M : Int) - ((2 * N - 1 : Nat) : Int) = ((M - (2 * N - 1) : Nat) : Int) := by omega
  clear hM h h2
  generalize M - (2 * N - 1) = z at *
  generalize 2 * N - 1 = L at *
  obtain ⟨w0, hw0, c0, c1, c2, c3, hB, hlt⟩ := box4 W 4 N M d 23
  go_enter Try.func11, Try.ntmps11
  go_wp2_with fail
  rw [← hw0]
  clear hw0
  refine (DR.out _).mono ?_
  rintro e w1 ⟨rfl, rfl⟩
  go_wp2_with fail
  refine (RO.out _).mono ?_
  rintro e w2 ⟨v, rfl, hO, b2⟩
  have e2 : w2.cell? ⟨W.heap.size, 2, none⟩ = some (.int .i64 (M : Int)) := (b2.cell (p := ⟨W.heap.size, 2, none⟩) hlt).trans c2
  obtain ⟨v', w3, hrun, hO2, b3⟩ := append_zeros_run (m := z) 25 hO b2.size ZL.out
  have hB2 := hB.trans ((b2.trans b3).mono hB.size)
  have HO := Lib.hid hO2
  obtain ⟨pa, pc, rfl, hrd, hc1, _⟩ := HO.out.shape
  obtain ⟨pb, pd, rfl, _, _, _⟩ := hO.shape
  have R4 := Lib.hid (show Row w3 pa M (xs ++ List.replicate z 0) from ⟨PL.out, hrd, PW.out, by omega⟩)
  rw [PL.out, YL.out] at hrun
  clear HO hrd hO hO2 b2 b3 hB
  rw [YL.out]
  go_wp2_with (at_builtin; refine Lib.wpList_append_run _ rfl _ _ 25 3 rfl _ _ rfl rfl _ _ hrun ?_)
  refine (DF.out _ _ _ _ R4.out).mono ?_
  rintro e w4 ⟨p4, c4, rfl, hr, b4⟩
  have HR := Lib.hid hr
  have hB3 := hB2.trans (b4.mono hB2.size)
  clear b4 hr
  go_wp2_with fail
  go_ret
  exact ⟨_, _, rfl, HR.out, hB3⟩
theorem rd_exp {q g : Nat} (hq : isP q) (h : IsMk q g) {i n : Nat} (hn : q - 1 = n) (h1 : 1 ≤ n) (hi : i < n) : g ^ ((n - 1) * i) % q = g ^ ((n - i) % n) % q := by
  have q2 := hq.1
  have hf : g ^ n % q = 1 := by rw [← hn]; exact pow_fer hq h.one h.lt
  have key : ∀ x, g ^ x % q = g ^ (x % n) % q := fun x => by
    conv => lhs; rw [← Nat.div_add_mod x n, Nat.pow_add, Nat.mul_mod, pow_mul_one q2 hf, Nat.one_mul, Nat.mod_mod]
  rw [key]
  congr 2
  rcases Nat.eq_zero_or_pos i with rfl | hp
  · rw [Nat.mul_zero, Nat.zero_mod, Nat.sub_zero, Nat.mod_self]
  · have e : (n - 1) * i = (n - i) + n * (i - 1) := by
      obtain ⟨j, rfl⟩ : ∃ j, i = j + 1 := ⟨i - 1, by omega⟩
      obtain ⟨m, rfl⟩ : ∃ m, n = m + 1 := ⟨n - 1, by omega⟩
      have : (m + 1 - 1) * (j + 1) = m * j + m := by rw [Nat.add_sub_cancel, Nat.mul_add, Nat.mul_one]
      have : (m + 1) * (j + 1 - 1) = m * j + j := by rw [Nat.add_sub_cancel, Nat.add_mul, Nat.one_mul]
      omega
    rw [e, Nat.add_mul_mod_self_left]
set_option maxRecDepth 100000 in
set_option maxHeartbeats 4000000 in
theorem r16_rader (m d : Int) (q a : Nat) (W : World) (hq : isP q) (hh : hasb q = true) (hd : d = 0 ∨ d = 1) (hM : q - 1 = 2 ^ a) (hM2 : q - 1 ≤ 130) :
    Calls Try.prog 11 #[.agg #[.int .i64 3, .int .i64 q, .int .i64 m, .int .i64 d]] W fun e w' => ∃ g, IsMk q g ∧ Gives W (q - 1) (horl (rdir (q - 1 : Nat) 0) (rdl q d g) (q - 1)) e w' := by
  have q0 := hq.1
  have DR := Lib.hid (fun w => r4_dir q d w hh hd)
  have GG := Lib.hid (fun w => r9_gen q w hq (by omega))
  have PWR := Lib.hid (fun k w (hk : k ≤ 140) => r2_pow (rdir q d) k w (rdir_lo _ _) (rdir_hi _ _) (by omega))
  obtain ⟨n, hn⟩ : ∃ n, q - 1 = n := ⟨_, rfl⟩
  have DF := Lib.hid (fun p c g w hr => (show Calls Try.prog 29 #[.slice p n c, .int .i64 0] w (Gives w n (horl (rdir n 0) (rdl q d g) n)) from r6_dft p n c 0 (rdl q d g) w hr (chk_pow (hn ▸ hM) (hn ▸ hM2) (.inl rfl))))
  have HN := Lib.hid hn
  have RX := Lib.hid (fun g (hg : IsMk q g) i (hi : i < n) => (show (rdl q d g).getD i 0 = fm (rdir q d ^ (g ^ ((n - 1) * i) % q)) by
    rw [rdl_at q d g i (by omega), hn, rd_exp hq hg hn (by omega) hi]))
  have RL := Lib.hid (fun g => (show (rdl q d g).length = n by rw [rdl_len, hn]))
  have RW := Lib.hid (fun g => rdl_wf q d g)
  have QF := Lib.hid (fun g e w' (hg : IsMk q g) (h : Gives W n (horl (rdir n 0) (rdl q d g) n) e w') => (show ∃ g, IsMk q g ∧ Gives W (q - 1) (horl (rdir (q - 1 : Nat) 0) (rdl q d g) (q - 1)) e w' from ⟨g, hg, by rw [hn]; exact h⟩))
  have hq1 : (q : Int) - 1 = (n : Int) := by omega
  have hq2 : (q : Int) - 2 = ((n - 1 : Nat) : Int) := by omega
  have n1 : 1 ≤ n := by omega
  have nq : n < q := by omega
  have q131 : q ≤ 131 := by omega
  rw [hn] at hM2
  obtain ⟨w0, hw0, c0, c1, c2, c3, hB, hlt⟩ := box4 W 3 q m d 23
  clear hM hn
  have wn : IntKind.i64.wrap (n : Int) = (n : Int) := IntWalk.i64_in _ (by omega)
  have wn1 : IntKind.i64.wrap ((n - 1 : Nat) : Int) = ((n - 1 : Nat) : Int) := IntWalk.i64_in _ (by omega)
  generalize rdir q d = r at *
  go_enter Try.func11, Try.ntmps11
  go_wp2_with fail
  rw [← hw0]
  clear hw0
  refine (DR.out _).mono ?_
  rintro e w1 ⟨rfl, rfl⟩
  go_wp2_with fail
  refine (GG.out _).mono ?_
  rintro e w1 ⟨g, rfl, hg, rfl⟩
  have HG := Lib.hid hg
  have gq := hg.lt
  have RX := Lib.hid (fun i hi => RX.out g hg i hi)
  have RL := Lib.hid (RL.out g)
  have RW := Lib.hid (RW.out g)
  have DF := Lib.hid (fun p c w hr => DF.out p c g w hr)
  have QF := Lib.hid (fun e w' h => QF.out g e w' HG.out h)
  clear hg GG DR
  generalize rdl q d g = ys at *
  go_wp2_with fail
  obtain ⟨X, hX⟩ : ∃ X, W.heap.size = X := ⟨_, rfl⟩
  rw [hX] at c0 c1 c2 c3 hlt ⊢
  go_loopw [4, 7, 8] (fun v p x wr => ∃ i : Nat, i ≤ n ∧ x = .int .i64 i ∧ p = .int .i64 ((g ^ ((n - 1) * i) % q : Nat) : Int) ∧ Hid (Owns wr w0.heap.size 43 .u64 v (upto ys i)) ∧ Below w0.heap.size w0 wr) (fun _ _ x _ => n - (intOf x).toNat)
  case atStart => exact ⟨0, Nat.zero_le _, rfl, by rw [Nat.mul_zero, Nat.pow_zero, Nat.mod_eq_of_lt (by omega)]; rfl, Lib.hid (Owns.nil _ _ _ _), Below.refl _ _⟩
  case round =>
    obtain ⟨i, hi, rfl, rfl, HO, hB2⟩ := hrel
    have k1 : wr.cell? ⟨X, 1, none⟩ = some (.int .i64 (q : Int)) := (hB2.cell (p := ⟨X, 1, none⟩) hlt).trans c1
    by_cases hli : i < n
    · have RX1 := Lib.hid (RX.out i hli)
      have PL := Lib.hid (fun j => (show g ^ j % q < q from Nat.mod_lt _ (by omega)))
      have PS := Lib.hid (fun j => (show g ^ j % q * g % q = g ^ (j + 1) % q by rw [Nat.pow_succ, Nat.mod_mul_mod]))
      have PN := Lib.hid (show (n - 1) * i + (n - 1) = (n - 1) * (i + 1) by rw [Nat.mul_add, Nat.mul_one])
      obtain ⟨c', hc'⟩ : ∃ c', (n - 1) * (i + 1) = c' := ⟨_, rfl⟩
      rw [hc'] at PN
      have HC' := Lib.hid hc'
      clear hc'
      generalize (n - 1) * i = c0' at *
      have HP := Lib.hid (upto_snoc ys i _ (by rw [RL.out]; exact hli) RX1.out)
      have HK := Lib.hid (upto_len ys i (by rw [RL.out]; omega))
      have dd : decide ((i : Int) < (n : Int)) = true := decide_eq_true (by omega)
      obtain ⟨P0, hP0⟩ : ∃ P0, P0 = g ^ c0' % q := ⟨_, rfl⟩
      have PL0 : P0 < q := hP0 ▸ PL.out c0'
      rw [← hP0] at HP ⊢
      have HP0 := Lib.hid hP0
      clear hP0 RX1
      have wP0 : IntKind.u64.wrap (P0 : Int) = (P0 : Int) := by rw [IntKind.wrap_u64]; omega
      go_wp2_with fail
      refine (PWR.out P0 _ (by omega)).mono ?_
      rintro e w1 ⟨rfl, rfl⟩
      go_wp2_with (at_builtin; refine append_one Try.underlying25 info_u64 rfl _ _ rfl rfl HO.out rfl hB2.size (by rw [HK.out]; omega) ?_; intro v' w' hO hb')
      have HO2 := Lib.hid (by have := hO; rw [HP.out] at this; exact this)
      clear hO
      have hB3 := hB2.trans hb'
      have k2 : w'.cell? ⟨X, 1, none⟩ = some (.int .i64 (q : Int)) := (hB3.cell (p := ⟨X, 1, none⟩) hlt).trans c1
      clear HO hb' hB2 HP HK k1
      go_wp2_with fail
      obtain ⟨wi, rfl⟩ : ∃ wi : World, wi = w' := ⟨_, rfl⟩
      go_loopw [7, 9] (fun p x wr2 => ∃ j : Nat, j ≤ n - 1 ∧ x = .int .i64 j ∧ p = .int .i64 ((g ^ (c0' + j) % q : Nat) : Int) ∧ wi = wr2) (fun _ x _ => n - (intOf x).toNat)
      case atStart => exact ⟨0, Nat.zero_le _, rfl, by rw [HP0.out]; rfl, rfl⟩
      case round =>
        obtain ⟨j, hj, rfl, rfl, rfl⟩ := hrel
        by_cases hlj : j < n - 1
        · have dj : decide ((j : Int) < ((n - 1 : Nat) : Int)) = true := decide_eq_true (by omega)
          have P1 := PL.out (c0' + j)
          have P2 := Lib.hid (PS.out (c0' + j))
          generalize g ^ (c0' + j) % q = p at *
          have tb : p * g < 131 * 131 := Nat.mul_lt_mul'' (by omega) (by omega)
          obtain ⟨t, ht⟩ : ∃ t, p * g = t := ⟨_, rfl⟩
          have tw : IntKind.i64.wrap ((p : Int) * (g : Int)) = (t : Int) := by
            rw [(Int.natCast_mul p g).symm, ht]; exact IntWalk.i64_in _ (by omega)
          rw [ht] at P2
          have m1 := natmod t q
          have m1' := natmod' t q
          have hx : t % q < q := Nat.mod_lt _ (by omega)
          have P3 := Lib.hid P2.out
          generalize t % q = x at *
          clear ht P2
          go_wp2_with fail
          go_roundw
          case rel => exact ⟨j + 1, by omega, by go_num, by rw [← Nat.add_assoc, ← P3.out], trivial⟩
          case measure => (first | (simp [intOf]; done) | (simp [intOf]; omega) | (simp only [intOf]; omega))
        · obtain rfl : j = n - 1 := by omega
          have dj : decide (((n - 1 : Nat) : Int) < ((n - 1 : Nat) : Int)) = false := decide_eq_false (by omega)
          rw [PN.out]
          go_wp2_with fail
          go_roundw
          case rel => exact ⟨i + 1, by omega, by go_num, by rw [HC'.out], HO2, hB3⟩
          case measure => (first | (simp [intOf]; done) | (simp [intOf]; omega) | (simp only [intOf]; omega))
    · obtain rfl : i = n := by omega
      have dd : decide ((i : Int) < (i : Int)) = false := decide_eq_false (by omega)
      have HO3 := HO.out
      rw [upto_full ys i RL.out] at HO3
      obtain ⟨pa, pc, rfl, hrd, hc1, _⟩ := HO3.shape
      have R4 := Lib.hid (show Row wr pa i ys from ⟨RL.out, hrd, RW.out, by omega⟩)
      rw [RL.out]
      clear HO HO3 hrd
      have hB3 := hB.trans (hB2.mono (by omega))
      go_wp2_with fail
      refine (DF.out _ _ _ R4.out).mono ?_
      rintro e w4 ⟨p4, c4, rfl, hr, b4⟩
      have HR := Lib.hid hr
      have hB4 := hB3.trans (b4.mono hB3.size)
      clear b4 hr
      go_wp2_with fail
      go_ret
      exact QF.out _ _ ⟨_, _, rfl, HR.out, hB4⟩
end Go.Proofs.Ytcfmiflhhjoofaa
