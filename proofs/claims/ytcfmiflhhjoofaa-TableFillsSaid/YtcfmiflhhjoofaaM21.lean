/- Put together by program (merge.py): Facr. -/
import Derived.Test.YtcfmiflhhjoofaaM20
/- Package fact: Prime; reference 3's Is, Prime, Times. -/
namespace Go.Proofs.Ytcfmiflhhjoofaa
open Go.ChangeShapes Go.WideShapes Go.ChangeAt Go.RowKit
set_option linter.unusedVariables false
/-- Is it a prime from 2 to 2^24? -/
def prb (n : Int) : Bool := decide (n ≤ 16777216) && isPb n.toNat
theorem prb_yes {n : Int} (h : prb n = true) : ∃ N : Nat, n = N ∧ isP N ∧ N ≤ 16777216 := by
  unfold prb at h
  rw [Bool.and_eq_true, decide_eq_true_iff, isPb_iff] at h
  have := h.2.1
  exact ⟨n.toNat, by omega, h.2, by omega⟩
theorem prb_nat {N : Nat} (h : N ≤ 16777216) : prb (N : Int) = isPb N := by
  unfold prb
  rw [decide_eq_true (by omega), Bool.true_and, Int.toNat_natCast]
theorem prb_out {n : Int} (h : ¬ (1 ≤ n ∧ n ≤ 16777216)) : prb n = false := by
  cases hp : prb n with
  | false => rfl
  | true => obtain ⟨N, rfl, h1, h2⟩ := prb_yes hp; have := h1.1; exact absurd ⟨by omega, by omega⟩ h
theorem fa_len_one {N : Nat} (hN : 1 ≤ N) : isPb N = (decide ((fa N).length = 1) && decide (((fa N).getD 0 (0, 0)).2 = 1)) := by
  cases h : isPb N with
  | true => rw [fa_prime ((isPb_iff N).1 h)]; rfl
  | false =>
    symm
    rw [Bool.and_eq_false_iff, decide_eq_false_iff_not, decide_eq_false_iff_not]
    by_cases h1 : (fa N).length = 1
    · refine .inr fun h2 => ?_
      obtain ⟨⟨p, e⟩, hx⟩ := List.length_eq_one_iff.1 h1
      rw [hx] at h2
      have h2 : e = 1 := h2
      subst h2
      rw [(isPb_iff N).2 (fa_one hN hx)] at h
      cases h
    · exact .inl h1
theorem fact_prime (n : Int) (W : World) : Calls Try.prog 34 #[.int .i64 n] W fun e w' => e = .returned (.bool (prb n)) ∧ Below W.heap.size W w' := by
  by_cases h : 1 ≤ n ∧ n ≤ 16777216
  · obtain ⟨N, rfl⟩ : ∃ N : Nat, n = N := ⟨n.toNat, by omega⟩
    have hN : 1 ≤ N := by omega
    have FF := Lib.hid (fun w => fact_factors N w hN (by omega))
    rw [prb_nat (by omega), fa_len_one hN]
    generalize fa N = L at *
    obtain ⟨z, hz⟩ : ∃ z, (decide (L.length = 1) && decide ((L.getD 0 (0, 0)).2 = 1)) = z := ⟨_, rfl⟩
    rw [hz]
    have HZ := Lib.hid hz
    clear hz
    go_enter Try.func34, Try.ntmps34
    go_wp2_with fail
    refine (FF.out _).mono ?_
    rintro e w1 ⟨a, c, rfl, hr, b1⟩
    by_cases h1 : L.length = 1
    · obtain ⟨b, off, rfl, hb, _, c1⟩ := hr.cell 0 (by omega)
      rw [Nat.zero_mul, Nat.add_zero] at c1
      by_cases h2 : (L.getD 0 (0, 0)).2 = 1
      · have E : Hid (z = true) := Lib.hid (by rw [← HZ.out, decide_eq_true h1, decide_eq_true h2]; rfl)
        rw [h2] at c1
        rw [h1]
        clear hr FF HZ
        go_wp2_with fail
        go_ret
        exact ⟨by rw [E.out]; rfl, b1⟩
      · have E : Hid (z = false) := Lib.hid (by rw [← HZ.out, decide_eq_false h2, Bool.and_false])
        generalize (L.getD 0 (0, 0)).2 = k at *
        have e1 : ((k : Int) == 1) = false := by simp; omega
        rw [h1]
        clear hr FF HZ
        go_wp2_with fail
        go_ret
        exact ⟨by rw [E.out]; rfl, b1⟩
    · have e1 : ((L.length : Int) == 1) = false := by simp; omega
      have e1' : (L.length == 1) = false := by simp; omega
      have E : Hid (z = false) := Lib.hid (by rw [← HZ.out, decide_eq_false h1, Bool.false_and])
      clear hr FF HZ
      generalize L.length = m at *
      go_wp2_with fail
      go_ret
      exact ⟨by rw [E.out]; rfl, b1⟩
  · have FF := Lib.hid (fun w => fact_factorsno n w h)
    rw [prb_out h]
    go_enter Try.func34, Try.ntmps34
    go_wp2_with fail
    refine (FF.out _).mono ?_
    rintro e w1 ⟨rfl, rfl⟩
    go_wp2_with fail
    go_ret
    exact ⟨rfl, Below.refl _ _⟩
theorem small_prime {N d : Nat} (h2 : 2 ≤ N) (hd : ∀ c, 2 ≤ c → c < d → ¬ c ∣ N) (hlt : N < d * d) : isP N := by
  refine ⟨h2, fun q h1 hq hdv => ?_⟩
  obtain ⟨c, rfl⟩ := hdv
  have hc : 2 ≤ c := by
    by_cases h : 2 ≤ c
    · exact h
    · have : c = 0 ∨ c = 1 := by omega
      rcases this with rfl | rfl <;> omega
  have a1 : d ≤ q := by
    by_cases h : d ≤ q
    · exact h
    · exact absurd (Nat.dvd_mul_right q c) (hd q h1 (by omega))
  have a2 : d ≤ c := by
    by_cases h : d ≤ c
    · exact h
    · exact absurd (Nat.dvd_mul_left c q) (hd c hc (by omega))
  have := Nat.mul_le_mul a1 a2
  omega
theorem r3_prime (n : Int) (W : World) (hn : n ≤ 9223372036854775807) : Calls Try.prog 21 #[.int .i64 n] W fun e w' => e = .returned (.bool (prb n)) ∧ W = w' := by
  by_cases hbig : 16777216 < n
  · have d1 : decide (n ≤ 16777216) = false := decide_eq_false (by omega)
    have d2 : decide (4 ≤ n) = true := decide_eq_true (by omega)
    have d3 : decide (2 ≤ n) = true := decide_eq_true (by omega)
    rw [prb_out (by omega)]
    go_enter Try.func21, Try.ntmps21
    go_wp2_with fail
    go_loopw [3] (fun v wr => v = .int .i64 2 ∧ wr = W) (fun _ _ => 0)
    case atStart => exact ⟨rfl, rfl⟩
    case round =>
      obtain ⟨rfl, rfl⟩ := hrel
      go_wp2_with fail
      go_ret
      exact ⟨rfl, rfl⟩
  by_cases hlow : n < 2
  · have d2 : decide (4 ≤ n) = false := decide_eq_false (by omega)
    have d3 : decide (2 ≤ n) = false := decide_eq_false (by omega)
    rw [show prb n = false by
      cases hp : prb n with
      | false => rfl
      | true => obtain ⟨N, rfl, h1, h2⟩ := prb_yes hp; have := h1.1; omega]
    go_enter Try.func21, Try.ntmps21
    go_wp2_with fail
    go_loopw [3] (fun v wr => v = .int .i64 2 ∧ wr = W) (fun _ _ => 0)
    case atStart => exact ⟨rfl, rfl⟩
    case round =>
      obtain ⟨rfl, rfl⟩ := hrel
      go_wp2_with fail
      go_ret
      exact ⟨rfl, rfl⟩
  obtain ⟨N, rfl⟩ : ∃ N : Nat, n = N := ⟨n.toNat, by omega⟩
  rw [prb_nat (by omega)]
  have d1 : decide ((N : Int) ≤ 16777216) = true := decide_eq_true (by omega)
  have d1' : decide (N ≤ 16777216) = true := decide_eq_true (by omega)
  have d3 : decide (2 ≤ (N : Int)) = true := decide_eq_true (by omega)
  have d3' : decide (2 ≤ N) = true := decide_eq_true (by omega)
  go_enter Try.func21, Try.ntmps21
  go_wp2_with fail
  go_loopw [3] (fun v wr => ∃ d : Nat, v = .int .i64 d ∧ 2 ≤ d ∧ d ≤ N ∧ Hid (∀ c, 2 ≤ c → c < d → ¬ c ∣ N) ∧ wr = W) (fun v _ => N - (intOf v).toNat)
  case atStart => exact ⟨2, rfl, by omega, by omega, Lib.hid (fun c h1 h2 => by omega), rfl⟩
  case round =>
    obtain ⟨d, rfl, hd2, hdN, HC, rfl⟩ := hrel
    obtain ⟨Z, hZ⟩ : ∃ Z, d * d = Z := ⟨_, rfl⟩
    have hZb : Z ≤ 16777216 * 16777216 := by rw [← hZ]; exact Nat.mul_le_mul (by omega) (by omega)
    have hw : IntKind.i64.wrap ((d : Int) * (d : Int)) = (Z : Int) := by
      rw [show (d : Int) * (d : Int) = ((d * d : Nat) : Int) from (Int.natCast_mul d d).symm, hZ]
      exact IntWalk.i64_in _ (by omega)
    by_cases hle : Z ≤ N
    · have d4 : decide ((Z : Int) ≤ (N : Int)) = true := decide_eq_true (by omega)
      have d4' : decide (Z ≤ N) = true := decide_eq_true hle
      have hz1 : ((d : Int) == 0) = false := by simp; omega
      have hz2 : ¬ ((d : Int) = 0) := by omega
      have hz3 : ¬ (d = 0) := by omega
      have hmod : ((N : Int)).tmod (d : Int) = ((N % d : Nat) : Int) := by
        rw [Int.tmod_eq_emod_of_nonneg (by omega)]; omega
      have hmod' : ((N : Int)) % (d : Int) = ((N % d : Nat) : Int) := by omega
      obtain ⟨r, hr⟩ : ∃ r, N % d = r := ⟨_, rfl⟩
      rw [hr] at hmod hmod'
      have hdlt : d < N := by
        have : d * 2 ≤ d * d := Nat.mul_le_mul_left d hd2
        omega
      by_cases hr0 : r = 0
      · subst hr0
        have E : Hid (isPb N = false) := Lib.hid (by
          cases hp : isPb N with
          | false => rfl
          | true => exact absurd (Nat.dvd_of_mod_eq_zero hr) (((isPb_iff N).1 hp).2 d hd2 hdlt))
        clear hr hZ
        go_wp2_with fail
        go_ret
        exact ⟨by rw [E.out]; rfl, rfl⟩
      · have hz4 : ((r : Int) == 0) = false := by simp; omega
        have HC2 := Lib.hid (show ∀ c, 2 ≤ c → c < d + 1 → ¬ c ∣ N from fun c h1 h2 hdv => by
          by_cases e : c = d
          · rw [e] at hdv; exact hr0 (by rw [← hr]; exact Nat.mod_eq_zero_of_dvd hdv)
          · exact HC.out c h1 (by omega) hdv)
        clear hr hZ
        go_wp2_with fail
        go_roundw
        case rel => exact ⟨d + 1, by go_num, by omega, hdlt, HC2, by first | trivial | rfl⟩
        case measure => (first | (simp [intOf]; done) | (simp [intOf]; omega) | (simp only [intOf]; omega))
    · have d4 : decide ((Z : Int) ≤ (N : Int)) = false := decide_eq_false (by omega)
      have d4' : decide (Z ≤ N) = false := decide_eq_false hle
      have E : Hid (isPb N = true) := Lib.hid ((isPb_iff N).2 (small_prime (by omega) HC.out (by omega)))
      clear hZ
      go_wp2_with fail
      go_ret
      exact ⟨by rw [E.out]; rfl, rfl⟩
end Go.Proofs.Ytcfmiflhhjoofaa
