/- math/bits' Div64. -/
import Derived.Test.YtlmaacbjbmhogaaWidez
namespace Go.Proofs.Ytlmaacbjbmhogaa
open Go.ChangeShapes Go.WideShapes Go.ChangeAt Go.RowKit
set_option linter.unusedVariables false
set_option maxRecDepth 100000 in
set_option maxHeartbeats 8000000 in
theorem div_b (hi lo y s Y a c U L v x q1 q0 R1 R0 : Nat) (w : World) (hs : s < 64) (hhi : 0 < hi) (hlt : hi < y) (hy : y < 18446744073709551616) (hY : Y < 18446744073709551616) (hU : U < 18446744073709551616) (hv4 : v < 4294967296) (hx4 : x < 4294967296) (hc4 : c < 4294967296) (a0 : 0 < a)
    (e0 : 64 - (Lib.bitLen y : Int) = (s : Int)) (e1 : IntKind.u64.wrap ((y : Int) * 2 ^ s) = (Y : Int)) (e2 : (Y : Int) / 4294967296 = (a : Int)) (e3 : bits .and .u64 (Y : Int) 4294967295 = (c : Int))
    (e4 : bits .or .u64 (IntKind.u64.wrap ((hi : Int) * 2 ^ s)) ((lo : Int) / 2 ^ (64 - s)) = (U : Int)) (e5 : IntKind.u64.wrap ((lo : Int) * 2 ^ s) = (L : Int)) (e6 : (L : Int) / 4294967296 = (v : Int)) (e7 : bits .and .u64 (L : Int) 4294967295 = (x : Int))
    (hD1 : Dg 4294967296 Y a c U v) (hD0 : Dg 4294967296 Y a c R1 x) (hq1 : (U * 4294967296 + v) / Y = q1) (hr1 : (U * 4294967296 + v) % Y = R1) (hq0 : (R1 * 4294967296 + x) / Y = q0) (hr0 : (R1 * 4294967296 + x) % Y = R0) :
    Calls Try.prog 28 #[.int .u64 hi, .int .u64 lo, .int .u64 y] w fun e w' => e = .returned (.tuple #[.int .u64 ((q1 * 4294967296 + q0 : Nat) : Int), .int .u64 ((R0 / 2 ^ s : Nat) : Int)]) ∧ w = w' := by
  have D1 := Lib.hid hD1
  have D0 := Lib.hid hD0
  have Hq1 := Lib.hid hq1
  have Hq0 := Lib.hid hq0
  have ha4 := hD1.ha
  have q1b : q1 < 4294967296 := by rw [← hq1]; exact hD1.lt
  have q0b : q0 < 4294967296 := by rw [← hq0]; exact hD0.lt
  have R1b : R1 < Y := by rw [← hr1]; exact Nat.mod_lt _ hD1.pos
  have R0b : R0 < Y := by rw [← hr0]; exact Nat.mod_lt _ hD1.pos
  have p1 := Nat.div_add_mod (U * 4294967296 + v) Y
  have p0 := Nat.div_add_mod (R1 * 4294967296 + x) Y
  rw [hq1, hr1] at p1
  rw [hq0, hr0] at p0
  have f1 : IntKind.u64.wrap (IntKind.u64.wrap (IntKind.u64.wrap ((U : Int) * 4294967296) + (v : Int)) - IntKind.u64.wrap ((q1 : Int) * (Y : Int))) = (R1 : Int) := by
    rw [← Int.natCast_mul, Nat.mul_comm q1]
    generalize Y * q1 = P at *
    simp only [IntKind.wrap_u64]
    rw [Int.emod_add_emod, ← Int.sub_emod, show (U : Int) * 4294967296 + (v : Int) - (P : Int) = (R1 : Int) by omega]
    exact Int.emod_eq_of_lt (by omega) (by omega)
  have f0 : IntKind.u64.wrap (IntKind.u64.wrap (IntKind.u64.wrap ((R1 : Int) * 4294967296) + (x : Int)) - IntKind.u64.wrap ((q0 : Int) * (Y : Int))) = (R0 : Int) := by
    rw [← Int.natCast_mul, Nat.mul_comm q0]
    generalize Y * q0 = P at *
    simp only [IntKind.wrap_u64]
    rw [Int.emod_add_emod, ← Int.sub_emod, show (R1 : Int) * 4294967296 + (x : Int) - (P : Int) = (R0 : Int) by omega]
    exact Int.emod_eq_of_lt (by omega) (by omega)
  have f2 : IntKind.u64.wrap (IntKind.u64.wrap ((q1 : Int) * 4294967296) + (q0 : Int)) = ((q1 * 4294967296 + q0 : Nat) : Int) := by simp only [IntKind.wrap_u64]; omega
  obtain ⟨qa, hqa⟩ : ∃ n, U / a = n := ⟨_, rfl⟩
  obtain ⟨ra, hra⟩ : ∃ n, U % a = n := ⟨_, rfl⟩
  have hlqa : qa ≤ U := by rw [← hqa]; exact Nat.div_le_self _ _
  have g1 : IntKind.u64.wrap ((U : Int) / (a : Int)) = (qa : Int) := by
    rw [← Int.natCast_ediv, hqa]
    exact IntWalk.u64_in _ (by omega)
  have u1 : a * qa + ra = U := by rw [← hqa, ← hra]; exact Nat.div_add_mod U a
  have j1 : IntKind.u64.wrap ((U : Int) - IntKind.u64.wrap ((qa : Int) * (a : Int))) = (ra : Int) := by
    have hr : ra < a := by rw [← hra]; exact Nat.mod_lt _ a0
    rw [← Int.natCast_mul, Nat.mul_comm qa]
    generalize a * qa = P at *
    simp only [IntKind.wrap_u64]
    rw [Int.emod_eq_of_lt (a := (P : Int)) (by omega) (by omega), show (U : Int) - (P : Int) = (ra : Int) by omega]
    exact Int.emod_eq_of_lt (by omega) (by omega)
  have F1 := Lib.hid (show qa * a + ra = U ∧ ra < 4294967296 ∧ qa ≤ 4294967297 ∧ q1 ≤ qa by
    have f := hD1.first
    rw [hqa, hra, hq1] at f
    exact f)
  obtain ⟨qb, hqb⟩ : ∃ n, R1 / a = n := ⟨_, rfl⟩
  obtain ⟨rb, hrb⟩ : ∃ n, R1 % a = n := ⟨_, rfl⟩
  have hlqb : qb ≤ R1 := by rw [← hqb]; exact Nat.div_le_self _ _
  have g2 : IntKind.u64.wrap ((R1 : Int) / (a : Int)) = (qb : Int) := by
    rw [← Int.natCast_ediv, hqb]
    exact IntWalk.u64_in _ (by omega)
  have u2 : a * qb + rb = R1 := by rw [← hqb, ← hrb]; exact Nat.div_add_mod R1 a
  have j2 : IntKind.u64.wrap ((R1 : Int) - IntKind.u64.wrap ((qb : Int) * (a : Int))) = (rb : Int) := by
    have hr : rb < a := by rw [← hrb]; exact Nat.mod_lt _ a0
    rw [← Int.natCast_mul, Nat.mul_comm qb]
    generalize a * qb = P at *
    simp only [IntKind.wrap_u64]
    rw [Int.emod_eq_of_lt (a := (P : Int)) (by omega) (by omega), show (R1 : Int) - (P : Int) = (rb : Int) by omega]
    exact Int.emod_eq_of_lt (by omega) (by omega)
  have F2 := Lib.hid (show qb * a + rb = R1 ∧ rb < 4294967296 ∧ qb ≤ 4294967297 ∧ q0 ≤ qb by
    have f := hD0.first
    rw [hqb, hrb, hq0] at f
    exact f)
  obtain ⟨qq, hqq⟩ : ∃ n, q1 * 4294967296 + q0 = n := ⟨_, rfl⟩
  obtain ⟨rr, hrr⟩ : ∃ n, R0 / 2 ^ s = n := ⟨_, rfl⟩
  have hqz : qq < 18446744073709551616 := by omega
  have SH := Lib.hid (show ((R0 : Nat) : Int) / 2 ^ s = (rr : Int) by rw [← hrr]; exact (shr_cast R0 s).symm ▸ rfl)
  rw [hqq, hrr]
  clear f2
  have SQ := Lib.hid (show (q1 : Int) * 4294967296 + (q0 : Int) = (qq : Int) by omega)
  clear hqq hrr
  have c1 : ((y : Int) == 0) = false := by simp; omega
  have c2 : decide ((y : Int) ≤ (hi : Int)) = false := decide_eq_false (by omega)
  have c3 : ((hi : Int) == 0) = false := by simp; omega
  have LZ := Lib.hid (fun w => lead_zeros (y : Int) w (by omega) (by omega))
  rw [Int.toNat_natCast, e0] at LZ
  have k0 : (0 : Int) ≤ (s : Int) := by omega
  have k1 : (s : Int) ≤ 64 := by omega
  have w1 : IntKind.u64.wrap (s : Int) = (s : Int) := IntWalk.u64_in _ (by omega)
  have w2 : IntKind.u64.wrap (64 - (s : Int)) = ((64 - s : Nat) : Int) := by rw [show 64 - (s : Int) = ((64 - s : Nat) : Int) by omega]; exact IntWalk.u64_in _ (by omega)
  have a1 : ¬ ((a : Int) = 0) := by omega
  have a2 : ((a : Int) == 0) = false := by simp; omega
  clear hq1 hr1 hq0 hr0 hD1 hD0 p1 p0 e0 hU
  clear hqa hra hqb hrb hlqa hlqb u1 u2
  go_enter Try.func28, Try.ntmps28
  go_wp2_with fail
  refine (LZ.out _).mono ?_
  rintro e w' ⟨rfl, rfl⟩
  go_upto_block 0 with fail
  go_cut [15, 16] (fun xq xr wx => xq = .int .u64 ((q1 : Nat) : Int) ∧ (∃ z : Int, xr = .int .u64 z) ∧ w = wx)
  case first =>
    go_wp2_with fail
    go_loopw [15, 16] (fun xq xr wr => ∃ q r : Nat, xq = .int .u64 (q : Int) ∧ xr = .int .u64 (r : Int) ∧ r < 4294967296 ∧ q ≤ 4294967297 ∧ Hid (q * a + r = U) ∧ Hid (q1 ≤ q) ∧ w = wr) (fun xq _ _ => (intOf xq).toNat)
    case atStart => exact ⟨_, _, rfl, rfl, F1.out.2.1, F1.out.2.2.1, Lib.hid F1.out.1, Lib.hid F1.out.2.2.2, rfl⟩
    case round =>
      obtain ⟨q, r, rfl, rfl, hr, hq, HE, HQ2, rfl⟩ := hrel
      have MO := Lib.hid (fun h => D1.out.more HE.out (by rw [Hq1.out]; exact HQ2.out) h)
      by_cases hge : 4294967296 ≤ q
      · obtain ⟨m1, m2, m3⟩ := MO.out (.inl hge)
        have d1 : decide ((4294967296 : Int) ≤ (q : Int)) = true := decide_eq_true (by omega)
        clear hge
        have ha4 : a < 4294967296 := D1.out.ha
        obtain ⟨q', hq1⟩ : ∃ n, q - 1 = n := ⟨_, rfl⟩
        obtain ⟨r', hr1⟩ : ∃ n, r + a = n := ⟨_, rfl⟩
        rw [hq1] at m1 m2
        rw [hr1] at m1
        have s1 : IntKind.u64.wrap ((q : Int) - 1) = (q' : Int) := by rw [show (q : Int) - 1 = (q' : Int) by omega]; exact IntWalk.u64_in _ (by omega)
        have s2 : IntKind.u64.wrap ((r : Int) + (a : Int)) = (r' : Int) := by rw [← Int.natCast_add, hr1]; exact IntWalk.u64_in _ (by omega)
        have hq' : q' ≤ 4294967296 := by omega
        have hq'' : q' < q := by omega
        clear hq1 hr1
        by_cases hb : 4294967296 ≤ r'
        · have E := Lib.hid (show q1 = q' by rw [← Hq1.out]; exact D1.out.done m1 m2 (D1.out.brk hq' hb))
          have d3 : decide ((4294967296 : Int) ≤ (r' : Int)) = true := decide_eq_true (by omega)
          clear MO m1 m2 hb
          go_wp2_with fail
          go_meet
          case rel => exact ⟨by rw [E.out], ⟨_, rfl⟩, rfl⟩
        · have d3 : decide ((4294967296 : Int) ≤ (r' : Int)) = false := decide_eq_false (by omega)
          have M1 := Lib.hid m1
          have M2 := Lib.hid (show q1 ≤ q' by rw [← Hq1.out]; exact m2)
          have hq3 : q' ≤ 4294967297 := by omega
          have hr3 : r' < 4294967296 := by omega
          clear MO m1 m2 hb
          go_wp2_with fail
          go_roundw
          case rel => exact ⟨q', r', rfl, rfl, hr3, hq3, M1, M2, trivial⟩
          case measure => (first | (simp [intOf]; done) | (simp [intOf]; omega) | (simp only [intOf]; omega))
      · have d1 : decide ((4294967296 : Int) ≤ (q : Int)) = false := decide_eq_false (by omega)
        have hqc : q * c < 18446744073709551616 := by
          have := Nat.mul_le_mul (show q ≤ 4294967295 by omega) (show c ≤ 4294967295 by omega)
          omega
        obtain ⟨k6, hk6⟩ : ∃ n, q * c = n := ⟨_, rfl⟩
        obtain ⟨k5, hk5⟩ : ∃ n, r * 4294967296 = n := ⟨_, rfl⟩
        obtain ⟨k4, hk4⟩ : ∃ n, k5 + v = n := ⟨_, rfl⟩
        rw [hk6] at hqc
        have k1 : IntKind.u64.wrap ((q : Int) * (c : Int)) = (k6 : Int) := by rw [← Int.natCast_mul, hk6]; exact IntWalk.u64_in _ (by omega)
        have k2 : IntKind.u64.wrap (4294967296 * (r : Int)) = (k5 : Int) := by rw [show (4294967296 : Int) * (r : Int) = (k5 : Int) by omega]; exact IntWalk.u64_in _ (by omega)
        have k3 : IntKind.u64.wrap ((k5 : Int) + (v : Int)) = (k4 : Int) := by rw [← Int.natCast_add, hk4]; exact IntWalk.u64_in _ (by omega)
        by_cases hgt : k4 < k6
        · obtain ⟨m1, m2, m3⟩ := MO.out (.inr (by rw [hk5, hk6]; omega))
          have d2 : decide ((k4 : Int) < (k6 : Int)) = true := decide_eq_true (by omega)
          have d2' : decide (k4 < k6) = true := decide_eq_true hgt
          clear hk4 hk5 hk6 hge
          have ha4 : a < 4294967296 := D1.out.ha
          obtain ⟨q', hq1⟩ : ∃ n, q - 1 = n := ⟨_, rfl⟩
          obtain ⟨r', hr1⟩ : ∃ n, r + a = n := ⟨_, rfl⟩
          rw [hq1] at m1 m2
          rw [hr1] at m1
          have s1 : IntKind.u64.wrap ((q : Int) - 1) = (q' : Int) := by rw [show (q : Int) - 1 = (q' : Int) by omega]; exact IntWalk.u64_in _ (by omega)
          have s2 : IntKind.u64.wrap ((r : Int) + (a : Int)) = (r' : Int) := by rw [← Int.natCast_add, hr1]; exact IntWalk.u64_in _ (by omega)
          have hq' : q' ≤ 4294967296 := by omega
          have hq'' : q' < q := by omega
          clear hq1 hr1
          by_cases hb : 4294967296 ≤ r'
          · have E := Lib.hid (show q1 = q' by rw [← Hq1.out]; exact D1.out.done m1 m2 (D1.out.brk hq' hb))
            have d3 : decide ((4294967296 : Int) ≤ (r' : Int)) = true := decide_eq_true (by omega)
            clear MO m1 m2 hb
            go_wp2_with fail
            go_meet
            case rel => exact ⟨by rw [E.out], ⟨_, rfl⟩, rfl⟩
          · have d3 : decide ((4294967296 : Int) ≤ (r' : Int)) = false := decide_eq_false (by omega)
            have M1 := Lib.hid m1
            have M2 := Lib.hid (show q1 ≤ q' by rw [← Hq1.out]; exact m2)
            have hq3 : q' ≤ 4294967297 := by omega
            have hr3 : r' < 4294967296 := by omega
            clear MO m1 m2 hb
            go_wp2_with fail
            go_roundw
            case rel => exact ⟨q', r', rfl, rfl, hr3, hq3, M1, M2, trivial⟩
            case measure => (first | (simp [intOf]; done) | (simp [intOf]; omega) | (simp only [intOf]; omega))
        · have E := Lib.hid (show q1 = q by rw [← Hq1.out]; exact D1.out.done HE.out (by rw [Hq1.out]; exact HQ2.out) (by rw [hk5, hk6]; omega))
          have d2 : decide ((k4 : Int) < (k6 : Int)) = false := decide_eq_false (by omega)
          have d2' : decide (k4 < k6) = false := decide_eq_false hgt
          clear hk4 hk5 hk6 MO hge
          go_wp2_with fail
          go_meet
          case rel => exact ⟨by rw [E.out], ⟨_, rfl⟩, rfl⟩
  case rest =>
    obtain ⟨rfl, ⟨z0, rfl⟩, rfl⟩ := hcut
    go_upto_block 2 with fail
    go_cut [18, 16] (fun xq xr wx => xq = .int .u64 ((q0 : Nat) : Int) ∧ (∃ z : Int, xr = .int .u64 z) ∧ w = wx)
    case first =>
      go_wp2_with fail
      go_loopw [18, 16] (fun xq xr wr => ∃ q r : Nat, xq = .int .u64 (q : Int) ∧ xr = .int .u64 (r : Int) ∧ r < 4294967296 ∧ q ≤ 4294967297 ∧ Hid (q * a + r = R1) ∧ Hid (q0 ≤ q) ∧ w = wr) (fun xq _ _ => (intOf xq).toNat)
      case atStart => exact ⟨_, _, rfl, rfl, F2.out.2.1, F2.out.2.2.1, Lib.hid F2.out.1, Lib.hid F2.out.2.2.2, rfl⟩
      case round =>
        obtain ⟨q, r, rfl, rfl, hr, hq, HE, HQ2, rfl⟩ := hrel
        have MO := Lib.hid (fun h => D0.out.more HE.out (by rw [Hq0.out]; exact HQ2.out) h)
        by_cases hge : 4294967296 ≤ q
        · obtain ⟨m1, m2, m3⟩ := MO.out (.inl hge)
          have d1 : decide ((4294967296 : Int) ≤ (q : Int)) = true := decide_eq_true (by omega)
          clear hge
          have ha4 : a < 4294967296 := D0.out.ha
          obtain ⟨q', hq1⟩ : ∃ n, q - 1 = n := ⟨_, rfl⟩
          obtain ⟨r', hr1⟩ : ∃ n, r + a = n := ⟨_, rfl⟩
          rw [hq1] at m1 m2
          rw [hr1] at m1
          have s1 : IntKind.u64.wrap ((q : Int) - 1) = (q' : Int) := by rw [show (q : Int) - 1 = (q' : Int) by omega]; exact IntWalk.u64_in _ (by omega)
          have s2 : IntKind.u64.wrap ((r : Int) + (a : Int)) = (r' : Int) := by rw [← Int.natCast_add, hr1]; exact IntWalk.u64_in _ (by omega)
          have hq' : q' ≤ 4294967296 := by omega
          have hq'' : q' < q := by omega
          clear hq1 hr1
          by_cases hb : 4294967296 ≤ r'
          · have E := Lib.hid (show q0 = q' by rw [← Hq0.out]; exact D0.out.done m1 m2 (D0.out.brk hq' hb))
            have d3 : decide ((4294967296 : Int) ≤ (r' : Int)) = true := decide_eq_true (by omega)
            clear MO m1 m2 hb
            go_wp2_with fail
            go_meet
            case rel => exact ⟨by rw [E.out], ⟨_, rfl⟩, rfl⟩
          · have d3 : decide ((4294967296 : Int) ≤ (r' : Int)) = false := decide_eq_false (by omega)
            have M1 := Lib.hid m1
            have M2 := Lib.hid (show q0 ≤ q' by rw [← Hq0.out]; exact m2)
            have hq3 : q' ≤ 4294967297 := by omega
            have hr3 : r' < 4294967296 := by omega
            clear MO m1 m2 hb
            go_wp2_with fail
            go_roundw
            case rel => exact ⟨q', r', rfl, rfl, hr3, hq3, M1, M2, trivial⟩
            case measure => (first | (simp [intOf]; done) | (simp [intOf]; omega) | (simp only [intOf]; omega))
        · have d1 : decide ((4294967296 : Int) ≤ (q : Int)) = false := decide_eq_false (by omega)
          have hqc : q * c < 18446744073709551616 := by
            have := Nat.mul_le_mul (show q ≤ 4294967295 by omega) (show c ≤ 4294967295 by omega)
            omega
          obtain ⟨k6, hk6⟩ : ∃ n, q * c = n := ⟨_, rfl⟩
          obtain ⟨k5, hk5⟩ : ∃ n, r * 4294967296 = n := ⟨_, rfl⟩
          obtain ⟨k4, hk4⟩ : ∃ n, k5 + x = n := ⟨_, rfl⟩
          rw [hk6] at hqc
          have k1 : IntKind.u64.wrap ((q : Int) * (c : Int)) = (k6 : Int) := by rw [← Int.natCast_mul, hk6]; exact IntWalk.u64_in _ (by omega)
          have k2 : IntKind.u64.wrap (4294967296 * (r : Int)) = (k5 : Int) := by rw [show (4294967296 : Int) * (r : Int) = (k5 : Int) by omega]; exact IntWalk.u64_in _ (by omega)
          have k3 : IntKind.u64.wrap ((k5 : Int) + (x : Int)) = (k4 : Int) := by rw [← Int.natCast_add, hk4]; exact IntWalk.u64_in _ (by omega)
          by_cases hgt : k4 < k6
          · obtain ⟨m1, m2, m3⟩ := MO.out (.inr (by rw [hk5, hk6]; omega))
            have d2 : decide ((k4 : Int) < (k6 : Int)) = true := decide_eq_true (by omega)
            have d2' : decide (k4 < k6) = true := decide_eq_true hgt
            clear hk4 hk5 hk6 hge
            have ha4 : a < 4294967296 := D0.out.ha
            obtain ⟨q', hq1⟩ : ∃ n, q - 1 = n := ⟨_, rfl⟩
            obtain ⟨r', hr1⟩ : ∃ n, r + a = n := ⟨_, rfl⟩
            rw [hq1] at m1 m2
            rw [hr1] at m1
            have s1 : IntKind.u64.wrap ((q : Int) - 1) = (q' : Int) := by rw [show (q : Int) - 1 = (q' : Int) by omega]; exact IntWalk.u64_in _ (by omega)
            have s2 : IntKind.u64.wrap ((r : Int) + (a : Int)) = (r' : Int) := by rw [← Int.natCast_add, hr1]; exact IntWalk.u64_in _ (by omega)
            have hq' : q' ≤ 4294967296 := by omega
            have hq'' : q' < q := by omega
            clear hq1 hr1
            by_cases hb : 4294967296 ≤ r'
            · have E := Lib.hid (show q0 = q' by rw [← Hq0.out]; exact D0.out.done m1 m2 (D0.out.brk hq' hb))
              have d3 : decide ((4294967296 : Int) ≤ (r' : Int)) = true := decide_eq_true (by omega)
              clear MO m1 m2 hb
              go_wp2_with fail
              go_meet
              case rel => exact ⟨by rw [E.out], ⟨_, rfl⟩, rfl⟩
            · have d3 : decide ((4294967296 : Int) ≤ (r' : Int)) = false := decide_eq_false (by omega)
              have M1 := Lib.hid m1
              have M2 := Lib.hid (show q0 ≤ q' by rw [← Hq0.out]; exact m2)
              have hq3 : q' ≤ 4294967297 := by omega
              have hr3 : r' < 4294967296 := by omega
              clear MO m1 m2 hb
              go_wp2_with fail
              go_roundw
              case rel => exact ⟨q', r', rfl, rfl, hr3, hq3, M1, M2, trivial⟩
              case measure => (first | (simp [intOf]; done) | (simp [intOf]; omega) | (simp only [intOf]; omega))
          · have E := Lib.hid (show q0 = q by rw [← Hq0.out]; exact D0.out.done HE.out (by rw [Hq0.out]; exact HQ2.out) (by rw [hk5, hk6]; omega))
            have d2 : decide ((k4 : Int) < (k6 : Int)) = false := decide_eq_false (by omega)
            have d2' : decide (k4 < k6) = false := decide_eq_false hgt
            clear hk4 hk5 hk6 MO hge
            go_wp2_with fail
            go_meet
            case rel => exact ⟨by rw [E.out], ⟨_, rfl⟩, rfl⟩
    case rest =>
      obtain ⟨rfl, ⟨z2, rfl⟩, rfl⟩ := hcut
      go_wp2_with fail
      go_ret2
      refine ⟨?_, rfl⟩
      show Ending.returned (.tuple #[.int .u64 ((q1 : Int) * 4294967296 + (q0 : Int)), .int .u64 ((R0 : Int) / 2 ^ s)]) = _
      rw [SQ.out, SH.out]
end Go.Proofs.Ytlmaacbjbmhogaa
