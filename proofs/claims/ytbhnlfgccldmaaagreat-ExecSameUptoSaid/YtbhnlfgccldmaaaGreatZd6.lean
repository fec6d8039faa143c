/- Put together by program (merge.py): Facr Pw2 Few. -/
import Derived.Test.YtbhnlfgccldmaaaGreatZd1
import Derived.Test.YtbhnlfgccldmaaaGreatZd3
import Derived.Test.YtbhnlfgccldmaaaGreatZd5
/- Package fact: Prime; reference 3's Is, Prime, Times. -/
namespace Go.Proofs.YtbhnlfgccldmaaaGreat
open Go.ChangeShapes Go.WideShapes Go.ChangeAt Go.RowKit
set_option linter.unusedVariables false
/-- Is it a prime from 2 to 2^24? -/
def prb (n : Int) : Bool := decide (n ≤ 16777216) && isPb n.toNat
theorem prb_yes {n : Int} (h : prb n = true) : ∃ N : Nat, n = N ∧ isP N ∧ N ≤ 16777216 := by
  unfold prb at h
  rw [Bool.and_eq_true, decide_eq_true_iff, isPb_iff] at h
  have := h.2.1
  exact ⟨n.toNat, by omega, h.2, by omega⟩
theorem prb_nat {N : Nat} (h : N ≤ 16777216) : prb (N : Int) = isPb N := by
  unfold prb
  rw [decide_eq_true (by omega), Bool.true_and, Int.toNat_natCast]
theorem prb_out {n : Int} (h : ¬ (1 ≤ n ∧ n ≤ 16777216)) : prb n = false := by
  cases hp : prb n with
  | false => rfl
  | true => obtain ⟨N, rfl, h1, h2⟩ := prb_yes hp; have := h1.1; exact absurd ⟨by omega, by omega⟩ h
theorem fa_len_one {N : Nat} (hN : 1 ≤ N) : isPb N = (decide ((fa N).length = 1) && decide (((fa N).getD 0 (0, 0)).2 = 1)) := by
  cases h : isPb N with
  | true => rw [fa_prime ((isPb_iff N).1 h)]; rfl
  | false =>
    symm
    rw [Bool.and_eq_false_iff, decide_eq_false_iff_not, decide_eq_false_iff_not]
    by_cases h1 : (fa N).length = 1
    · refine .inr fun h2 => ?_
      obtain ⟨⟨p, e⟩, hx⟩ := List.length_eq_one_iff.1 h1
      rw [hx] at h2
      have h2 : e = 1 := h2
      subst h2
      rw [(isPb_iff N).2 (fa_one hN hx)] at h
      cases h
    · exact .inl h1
theorem fact_prime (n : Int) (W : World) : Calls Tryz.prog 113 #[.int .i64 n] W fun e w' => e = .returned (.bool (prb n)) ∧ Below W.heap.size W w' := by
  by_cases h : 1 ≤ n ∧ n ≤ 16777216
  · obtain ⟨N, rfl⟩ : ∃ N : Nat, n = N := ⟨n.toNat, by omega⟩
    have hN : 1 ≤ N := by omega
    have FF := Lib.hid (fun w => fact_factors N w hN (by omega))
    rw [prb_nat (by omega), fa_len_one hN]
    generalize fa N = L at *
    obtain ⟨z, hz⟩ : ∃ z, (decide (L.length = 1) && decide ((L.getD 0 (0, 0)).2 = 1)) = z := ⟨_, rfl⟩
    rw [hz]
    have HZ := Lib.hid hz
    clear hz
    go_enter Tryz.func113, Tryz.ntmps113
    go_wp2_with fail
    refine (FF.out _).mono ?_
    rintro e w1 ⟨a, c, rfl, hr, b1⟩
    by_cases h1 : L.length = 1
    · obtain ⟨b, off, rfl, hb, _, c1⟩ := hr.cell 0 (by omega)
      rw [Nat.zero_mul, Nat.add_zero] at c1
      by_cases h2 : (L.getD 0 (0, 0)).2 = 1
      · have E : Hid (z = true) := Lib.hid (by rw [← HZ.out, decide_eq_true h1, decide_eq_true h2]; rfl)
        rw [h2] at c1
        rw [h1]
        clear hr FF HZ
        go_wp2_with fail
        go_ret
        exact ⟨by rw [E.out]; rfl, b1⟩
      · have E : Hid (z = false) := Lib.hid (by rw [← HZ.out, decide_eq_false h2, Bool.and_false])
        generalize (L.getD 0 (0, 0)).2 = k at *
        have e1 : ((k : Int) == 1) = false := by simp; omega
        rw [h1]
        clear hr FF HZ
        go_wp2_with fail
        go_ret
        exact ⟨by rw [E.out]; rfl, b1⟩
    · have e1 : ((L.length : Int) == 1) = false := by simp; omega
      have e1' : (L.length == 1) = false := by simp; omega
      have E : Hid (z = false) := Lib.hid (by rw [← HZ.out, decide_eq_false h1, Bool.false_and])
      clear hr FF HZ
      generalize L.length = m at *
      go_wp2_with fail
      go_ret
      exact ⟨by rw [E.out]; rfl, b1⟩
  · have FF := Lib.hid (fun w => fact_factorsno n w h)
    rw [prb_out h]
    go_enter Tryz.func113, Tryz.ntmps113
    go_wp2_with fail
    refine (FF.out _).mono ?_
    rintro e w1 ⟨rfl, rfl⟩
    go_wp2_with fail
    go_ret
    exact ⟨rfl, Below.refl _ _⟩
theorem small_prime {N d : Nat} (h2 : 2 ≤ N) (hd : ∀ c, 2 ≤ c → c < d → ¬ c ∣ N) (hlt : N < d * d) : isP N := by
  refine ⟨h2, fun q h1 hq hdv => ?_⟩
  obtain ⟨c, rfl⟩ := hdv
  have hc : 2 ≤ c := by
    by_cases h : 2 ≤ c
    · exact h
    · have : c = 0 ∨ c = 1 := by omega
      rcases this with rfl | rfl <;> omega
  have a1 : d ≤ q := by
    by_cases h : d ≤ q
    · exact h
    · exact absurd (Nat.dvd_mul_right q c) (hd q h1 (by omega))
  have a2 : d ≤ c := by
    by_cases h : d ≤ c
    · exact h
    · exact absurd (Nat.dvd_mul_left c q) (hd c hc (by omega))
  have := Nat.mul_le_mul a1 a2
  omega
theorem r3_prime (n : Int) (W : World) (hn : n ≤ 9223372036854775807) : Calls Tryz.prog 75 #[.int .i64 n] W fun e w' => e = .returned (.bool (prb n)) ∧ W = w' := by
  by_cases hbig : 16777216 < n
  · have d1 : decide (n ≤ 16777216) = false := decide_eq_false (by omega)
    have d2 : decide (4 ≤ n) = true := decide_eq_true (by omega)
    have d3 : decide (2 ≤ n) = true := decide_eq_true (by omega)
    rw [prb_out (by omega)]
    go_enter Tryz.func75, Tryz.ntmps75
    go_wp2_with fail
    go_loopw [3] (fun v wr => v = .int .i64 2 ∧ wr = W) (fun _ _ => 0)
    case atStart => exact ⟨rfl, rfl⟩
    case round =>
      obtain ⟨rfl, rfl⟩ := hrel
      go_wp2_with fail
      go_ret
      exact ⟨rfl, rfl⟩
  by_cases hlow : n < 2
  · have d2 : decide (4 ≤ n) = false := decide_eq_false (by omega)
    have d3 : decide (2 ≤ n) = false := decide_eq_false (by omega)
    rw [show prb n = false by
      cases hp : prb n with
      | false => rfl
      | true => obtain ⟨N, rfl, h1, h2⟩ := prb_yes hp; have := h1.1; omega]
    go_enter Tryz.func75, Tryz.ntmps75
    go_wp2_with fail
    go_loopw [3] (fun v wr => v = .int .i64 2 ∧ wr = W) (fun _ _ => 0)
    case atStart => exact ⟨rfl, rfl⟩
    case round =>
      obtain ⟨rfl, rfl⟩ := hrel
      go_wp2_with fail
      go_ret
      exact ⟨rfl, rfl⟩
  obtain ⟨N, rfl⟩ : ∃ N : Nat, n = N := ⟨n.toNat, by omega⟩
  rw [prb_nat (by omega)]
  have d1 : decide ((N : Int) ≤ 16777216) = true := decide_eq_true (by omega)
  have d1' : decide (N ≤ 16777216) = true := decide_eq_true (by omega)
  have d3 : decide (2 ≤ (N : Int)) = true := decide_eq_true (by omega)
  have d3' : decide (2 ≤ N) = true := decide_eq_true (by omega)
  go_enter Tryz.func75, Tryz.ntmps75
  go_wp2_with fail
  go_loopw [3] (fun v wr => ∃ d : Nat, v = .int .i64 d ∧ 2 ≤ d ∧ d ≤ N ∧ Hid (∀ c, 2 ≤ c → c < d → ¬ c ∣ N) ∧ wr = W) (fun v _ => N - (intOf v).toNat)
  case atStart => exact ⟨2, rfl, by omega, by omega, Lib.hid (fun c h1 h2 => by omega), rfl⟩
  case round =>
    obtain ⟨d, rfl, hd2, hdN, HC, rfl⟩ := hrel
    obtain ⟨Z, hZ⟩ : ∃ Z, d * d = Z := ⟨_, rfl⟩
    have hZb : Z ≤ 16777216 * 16777216 := by rw [← hZ]; exact Nat.mul_le_mul (by omega) (by omega)
    have hw : IntKind.i64.wrap ((d : Int) * (d : Int)) = (Z : Int) := by
      rw [show (d : Int) * (d : Int) = ((d * d : Nat) : Int) from (Int.natCast_mul d d).symm, hZ]
      exact IntWalk.i64_in _ (by omega)
    by_cases hle : Z ≤ N
    · have d4 : decide ((Z : Int) ≤ (N : Int)) = true := decide_eq_true (by omega)
      have d4' : decide (Z ≤ N) = true := decide_eq_true hle
      have hz1 : ((d : Int) == 0) = false := by simp; omega
      have hz2 : ¬ ((d : Int) = 0) := by omega
      have hz3 : ¬ (d = 0) := by omega
      have hmod : ((N : Int)).tmod (d : Int) = ((N % d : Nat) : Int) := by
        rw [Int.tmod_eq_emod_of_nonneg (by omega)]; omega
      have hmod' : ((N : Int)) % (d : Int) = ((N % d : Nat) : Int) := by omega
      obtain ⟨r, hr⟩ : ∃ r, N % d = r := ⟨_, rfl⟩
      rw [hr] at hmod hmod'
      have hdlt : d < N := by
        have : d * 2 ≤ d * d := Nat.mul_le_mul_left d hd2
        omega
      by_cases hr0 : r = 0
      · subst hr0
        have E : Hid (isPb N = false) := Lib.hid (by
          cases hp : isPb N with
          | false => rfl
          | true => exact absurd (Nat.dvd_of_mod_eq_zero hr) (((isPb_iff N).1 hp).2 d hd2 hdlt))
        clear hr hZ
        go_wp2_with fail
        go_ret
        exact ⟨by rw [E.out]; rfl, rfl⟩
      · have hz4 : ((r : Int) == 0) = false := by simp; omega
        have HC2 := Lib.hid (show ∀ c, 2 ≤ c → c < d + 1 → ¬ c ∣ N from fun c h1 h2 hdv => by
          by_cases e : c = d
          · rw [e] at hdv; exact hr0 (by rw [← hr]; exact Nat.mod_eq_zero_of_dvd hdv)
          · exact HC.out c h1 (by omega) hdv)
        clear hr hZ
        go_wp2_with fail
        go_roundw
        case rel => exact ⟨d + 1, by go_num, by omega, hdlt, HC2, by first | trivial | rfl⟩
        case measure => (first | (simp [intOf]; done) | (simp [intOf]; omega) | (simp only [intOf]; omega))
    · have d4 : decide ((Z : Int) ≤ (N : Int)) = false := decide_eq_false (by omega)
      have d4' : decide (Z ≤ N) = false := decide_eq_false hle
      have E : Hid (isPb N = true) := Lib.hid ((isPb_iff N).2 (small_prime (by omega) HC.out (by omega)))
      clear hZ
      go_wp2_with fail
      go_ret
      exact ⟨by rw [E.out]; rfl, rfl⟩
end Go.Proofs.YtbhnlfgccldmaaaGreat
/- Powers of two: stock.Has, and the document's. -/
namespace Go.Proofs.YtbhnlfgccldmaaaGreat
open Go.ChangeShapes Go.WideShapes Go.ChangeAt Go.RowKit
set_option linter.unusedVariables false
theorem ofInt_i64 (a : Nat) (ha : a < 18446744073709551616) : (BitVec.ofInt 64 (a : Int)).toNat = a := by
  rw [BitVec.ofInt_natCast, BitVec.toNat_ofNat]; exact Nat.mod_eq_of_lt (by omega)
theorem i64_and_nat (a b : Nat) (ha : a < 9223372036854775808) (hb : b < 9223372036854775808) : bits .and .i64 (a : Int) (b : Int) = ((a &&& b : Nat) : Int) := by
  have hx : a &&& b < 2 ^ 63 := Nat.and_lt_two_pow _ (by omega)
  show IntKind.i64.wrap ((BitVec.ofInt 64 (a : Int) &&& BitVec.ofInt 64 (b : Int)).toNat : Int) = _
  rw [BitVec.toNat_and, ofInt_i64 a (by omega), ofInt_i64 b (by omega), IntKind.wrap_i64]
  omega
/-- A power of two. -/
def isp (n : Nat) : Prop := Nat.isPowerOfTwo n
instance (n : Nat) : Decidable (isp n) := inferInstanceAs (Decidable (Nat.isPowerOfTwo n))
theorem isp_and (n : Nat) (h : n ≠ 0) : (n &&& (n - 1)) = 0 ↔ isp n := Nat.and_sub_one_eq_zero_iff_isPowerOfTwo h
theorem isp_half (n : Nat) (h : n % 2 = 0) (h2 : 2 ≤ n) : isp (n / 2) ↔ isp n := by
  constructor
  · rintro ⟨k, hk⟩
    exact ⟨k + 1, by rw [Nat.pow_succ]; omega⟩
  · rintro ⟨k, hk⟩
    cases k with
    | zero => simp at hk; omega
    | succ k => exact ⟨k, by rw [Nat.pow_succ] at hk; omega⟩
theorem isp_odd (n : Nat) (h : n % 2 = 1) (h2 : 2 ≤ n) : ¬ isp n := by
  rintro ⟨k, hk⟩
  cases k with
  | zero => simp at hk; omega
  | succ k => rw [Nat.pow_succ] at hk; omega
theorem isp_one : isp 1 := ⟨0, rfl⟩
/-- Is it a power of two? -/
def pwb (n : Int) : Bool := decide (1 ≤ n ∧ isp n.toNat)
theorem pwb_yes {n : Int} (h : 1 ≤ n) (h1 : isp n.toNat) : pwb n = true := by unfold pwb; exact decide_eq_true ⟨h, h1⟩
theorem pwb_no {n : Int} (h : ¬ (1 ≤ n ∧ isp n.toNat)) : pwb n = false := by unfold pwb; exact decide_eq_false h
theorem pwb_isp {n : Int} (h : pwb n = true) : 1 ≤ n ∧ isp n.toNat := by unfold pwb at h; exact of_decide_eq_true h
/-- .. of a size. -/
def hasp (n : Int) : Bool := decide (n ≤ 16777216) && pwb n
theorem stock_has (n : Int) (w : World) : Calls Tryz.prog 109 #[.int .i64 n] w fun e w' => e = .returned (.bool (hasp n)) ∧ w = w' := by
  by_cases h : 1 ≤ n ∧ n ≤ 16777216
  · obtain ⟨h1, h2⟩ := h
    obtain ⟨m, rfl⟩ : ∃ m : Nat, n = m := ⟨n.toNat, by omega⟩
    have ha : bits .and .i64 (m : Int) ((m : Int) - 1) = ((m &&& (m - 1) : Nat) : Int) := by
      rw [show (m : Int) - 1 = ((m - 1 : Nat) : Int) by omega]
      exact i64_and_nat m (m - 1) (by omega) (by omega)
    have hh : hasp m = (bits .and .i64 (m : Int) ((m : Int) - 1) == 0) := by
      rw [ha]
      unfold hasp
      rw [decide_eq_true h2, Bool.true_and]
      by_cases hp : isp m
      · rw [pwb_yes h1 (by simpa using hp), (isp_and m (by omega)).2 hp]; rfl
      · rw [pwb_no (fun x => hp (by simpa using x.2))]
        have := fun x => hp ((isp_and m (by omega)).1 x)
        symm
        rw [beq_eq_false_iff_ne]
        intro e
        exact this (by exact_mod_cast e)
    have HH := Lib.hid hh
    clear hh ha
    go_enter Tryz.func109, Tryz.ntmps109
    go_wp2_with fail
    go_ret
    exact ⟨ret_bool HH.out.symm, rfl⟩
  · have HH := Lib.hid (show hasp n = false by
      unfold hasp
      by_cases h2 : n ≤ 16777216
      · rw [pwb_no (fun x => h ⟨x.1, h2⟩), Bool.and_false]
      · rw [decide_eq_false h2, Bool.false_and])
    have c1 : n < 1 ∨ (1 ≤ n ∧ 16777216 < n) := by omega
    clear h
    rcases c1 with c | ⟨c, d⟩
    · go_enter Tryz.func109, Tryz.ntmps109
      go_wp2_with fail
      go_ret
      exact ⟨ret_bool HH.out.symm, rfl⟩
    · have hd : decide (n ≤ 16777216) = false := decide_eq_false (by omega)
      go_enter Tryz.func109, Tryz.ntmps109
      go_wp2_with fail
      go_ret
      exact ⟨ret_bool HH.out.symm, rfl⟩
theorem r8_power (n : Int) (w : World) (hn : n ≤ 9223372036854775807) : Calls Tryz.prog 71 #[.int .i64 n] w fun e w' => e = .returned (.bool (pwb n)) ∧ w = w' := by
  by_cases h : n ≤ 1
  · by_cases h1 : n = 1
    · subst h1
      have HH := Lib.hid (show pwb 1 = true from pwb_yes (by omega) isp_one)
      go_enter Tryz.func71, Tryz.ntmps71
      go_wp2_with fail
      go_loop [0] (fun i => i = .int .i64 1) (fun _ => 0)
      case atStart => exact rfl
      case round =>
        obtain rfl := hrel
        go_wp2_with fail
        go_ret
        exact ⟨ret_bool HH.out.symm, rfl⟩
    · have HH := Lib.hid (show pwb n = false from pwb_no (fun x => h1 (by omega)))
      have hd : decide (1 < n) = false := decide_eq_false (by omega)
      have hz : (n == 1) = false := by simpa using h1
      clear h1
      go_enter Tryz.func71, Tryz.ntmps71
      go_wp2_with fail
      go_loop [0] (fun i => i = .int .i64 n) (fun _ => 0)
      case atStart => exact rfl
      case round =>
        obtain rfl := hrel
        go_wp2_with fail
        go_ret
        exact ⟨ret_bool HH.out.symm, rfl⟩
  · obtain ⟨m, rfl⟩ : ∃ m : Nat, n = m := ⟨n.toNat, by omega⟩
    go_enter Tryz.func71, Tryz.ntmps71
    go_wp2_with fail
    go_loop [0] (fun i => ∃ k : Nat, 1 ≤ k ∧ k ≤ m ∧ i = .int .i64 k ∧ Hid (pwb k = pwb m)) (fun i => (intOf i).toNat)
    case atStart => exact ⟨m, by omega, Nat.le_refl _, rfl, Lib.hid rfl⟩
    case round =>
      obtain ⟨k, hk0, hk, rfl, HP⟩ := hrel
      by_cases h1 : k = 1
      · subst h1
        have HH := Lib.hid (show pwb m = true by rw [← HP.out]; exact pwb_yes (by omega) isp_one)
        go_wp2_with fail
        go_ret
        exact ⟨ret_bool HH.out.symm, rfl⟩
      · have hd : decide ((1 : Int) < (k : Int)) = true := decide_eq_true (by omega)
        have hd2 : decide (1 < k) = true := decide_eq_true (by omega)
        have hz : ((k : Int) == 1) = false := by simp; omega
        by_cases hp : k % 2 = 0
        · have hm : ((k : Int)).tmod 2 = 0 := by
            rw [show ((k : Int)).tmod 2 = ((k % 2 : Nat) : Int) from rfl, hp]; rfl
          have hm' : (k : Int) % 2 = 0 := by omega
          have HP2 := Lib.hid (show pwb ((k / 2 : Nat) : Int) = pwb m by
            rw [← HP.out]
            have hi := isp_half k hp (by omega)
            by_cases hs : isp k
            · rw [pwb_yes (n := (k : Int)) (by omega) (by rw [Int.toNat_natCast]; exact hs), pwb_yes (n := ((k / 2 : Nat) : Int)) (by omega) (by rw [Int.toNat_natCast]; exact hi.2 hs)]
            · rw [pwb_no (n := (k : Int)) (fun x => hs (by have := x.2; rwa [Int.toNat_natCast] at this)), pwb_no (n := ((k / 2 : Nat) : Int)) (fun x => hs (hi.1 (by have := x.2; rwa [Int.toNat_natCast] at this)))])
          clear h1
          go_wp2_with fail
          go_round
          case rel => exact ⟨k / 2, by omega, by omega, by first | rfl | go_num | (congr 1; omega), HP2⟩
          case measure => (first | (simp [intOf]; done) | (simp [intOf]; omega) | (simp only [intOf]; omega))
        · have hm : ((k : Int)).tmod 2 = 1 := by
            rw [show ((k : Int)).tmod 2 = ((k % 2 : Nat) : Int) from rfl]; omega
          have hm' : (k : Int) % 2 = 1 := by omega
          have HH := Lib.hid (show pwb m = false by
            rw [← HP.out]; exact pwb_no (fun x => isp_odd k (by omega) (by omega) (by simpa using x.2)))
          go_wp2_with fail
          go_ret
          exact ⟨ret_bool HH.out.symm, rfl⟩
end Go.Proofs.YtbhnlfgccldmaaaGreat
/- Package small: Has. -/
namespace Go.Proofs.YtbhnlfgccldmaaaGreat
open Go.ChangeShapes Go.WideShapes Go.ChangeAt Go.RowKit
set_option linter.unusedVariables false
/-- Is it so few? -/
def few (n : Int) : Bool := decide (1 ≤ n ∧ n ≤ 5)
theorem small_has (n : Int) (w : World) : Calls Tryz.prog 108 #[.int .i64 n] w fun e w' => e = .returned (.bool (few n)) ∧ w = w' := by
  by_cases h1 : 1 ≤ n
  · by_cases h2 : n ≤ 5
    · have HD := Lib.hid (show few n = true from decide_eq_true ⟨h1, h2⟩)
      have d1 : decide (1 ≤ n) = true := decide_eq_true h1
      have d2 : decide (n ≤ 5) = true := decide_eq_true h2
      go_enter Tryz.func108, Tryz.ntmps108
      go_wp2_with fail
      go_ret
      exact ⟨ret_bool HD.out.symm, rfl⟩
    · have HD := Lib.hid (show few n = false from decide_eq_false (by omega))
      have d1 : decide (1 ≤ n) = true := decide_eq_true h1
      have d2 : decide (n ≤ 5) = false := decide_eq_false h2
      go_enter Tryz.func108, Tryz.ntmps108
      go_wp2_with fail
      go_ret
      exact ⟨ret_bool HD.out.symm, rfl⟩
  · have HD := Lib.hid (show few n = false from decide_eq_false (by omega))
    have d1 : decide (1 ≤ n) = false := decide_eq_false h1
    go_enter Tryz.func108, Tryz.ntmps108
    go_wp2_with fail
    go_ret
    exact ⟨ret_bool HD.out.symm, rfl⟩
end Go.Proofs.YtbhnlfgccldmaaaGreat
