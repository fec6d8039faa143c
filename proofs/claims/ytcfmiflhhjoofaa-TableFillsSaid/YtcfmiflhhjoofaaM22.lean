/- Put together by program (merge.py): Pw2 Tab. -/
import Derived.Test.YtcfmiflhhjoofaaM11
import Derived.Test.YtcfmiflhhjoofaaM16
import Derived.Test.YtcfmiflhhjoofaaM21
/- Powers of two: stock.Has, and the document's. -/
namespace Go.Proofs.Ytcfmiflhhjoofaa
open Go.ChangeShapes Go.WideShapes Go.ChangeAt Go.RowKit
set_option linter.unusedVariables false
theorem ofInt_i64 (a : Nat) (ha : a < 18446744073709551616) : (BitVec.ofInt 64 (a : Int)).toNat = a := by
  rw [BitVec.ofInt_natCast, BitVec.toNat_ofNat]; exact Nat.mod_eq_of_lt (by omega)
theorem i64_and_nat (a b : Nat) (ha : a < 9223372036854775808) (hb : b < 9223372036854775808) : bits .and .i64 (a : Int) (b : Int) = ((a &&& b : Nat) : Int) := by
  have hx : a &&& b < 2 ^ 63 := Nat.and_lt_two_pow _ (by omega)
  show IntKind.i64.wrap ((BitVec.ofInt 64 (a : Int) &&& BitVec.ofInt 64 (b : Int)).toNat : Int) = _
  rw [BitVec.toNat_and, ofInt_i64 a (by omega), ofInt_i64 b (by omega), IntKind.wrap_i64]
  omega
/-- A power of two. -/
def isp (n : Nat) : Prop := Nat.isPowerOfTwo n
instance (n : Nat) : Decidable (isp n) := inferInstanceAs (Decidable (Nat.isPowerOfTwo n))
theorem isp_and (n : Nat) (h : n ≠ 0) : (n &&& (n - 1)) = 0 ↔ isp n := Nat.and_sub_one_eq_zero_iff_isPowerOfTwo h
theorem isp_half (n : Nat) (h : n % 2 = 0) (h2 : 2 ≤ n) : isp (n / 2) ↔ isp n := by
  constructor
  · rintro ⟨k, hk⟩
    exact ⟨k + 1, by rw [Nat.pow_succ]; omega⟩
  · rintro ⟨k, hk⟩
    cases k with
    | zero => simp at hk; omega
    | succ k => exact ⟨k, by rw [Nat.pow_succ] at hk; omega⟩
theorem isp_odd (n : Nat) (h : n % 2 = 1) (h2 : 2 ≤ n) : ¬ isp n := by
  rintro ⟨k, hk⟩
  cases k with
  | zero => simp at hk; omega
  | succ k => rw [Nat.pow_succ] at hk; omega
theorem isp_one : isp 1 := ⟨0, rfl⟩
theorem isp_zero : ¬ isp 0 := by
  rintro ⟨k, hk⟩
  have := Nat.pow_pos (n := k) (show 0 < 2 by omega)
  omega
/-- Is it a power of two? -/
def pwb (n : Int) : Bool := decide (1 ≤ n ∧ isp n.toNat)
theorem pwb_yes {n : Int} (h : 1 ≤ n) (h1 : isp n.toNat) : pwb n = true := by unfold pwb; exact decide_eq_true ⟨h, h1⟩
theorem pwb_no {n : Int} (h : ¬ (1 ≤ n ∧ isp n.toNat)) : pwb n = false := by unfold pwb; exact decide_eq_false h
theorem pwb_isp {n : Int} (h : pwb n = true) : 1 ≤ n ∧ isp n.toNat := by unfold pwb at h; exact of_decide_eq_true h
/-- .. of a size. -/
def hasp (n : Int) : Bool := decide (n ≤ 16777216) && pwb n
theorem stock_has (n : Int) (w : World) : Calls Try.prog 35 #[.int .i64 n] w fun e w' => e = .returned (.bool (hasp n)) ∧ w = w' := by
  by_cases h : 1 ≤ n ∧ n ≤ 16777216
  · obtain ⟨h1, h2⟩ := h
    obtain ⟨m, rfl⟩ : ∃ m : Nat, n = m := ⟨n.toNat, by omega⟩
    have ha : bits .and .i64 (m : Int) ((m : Int) - 1) = ((m &&& (m - 1) : Nat) : Int) := by
      rw [show (m : Int) - 1 = ((m - 1 : Nat) : Int) by omega]
      exact i64_and_nat m (m - 1) (by omega) (by omega)
    have hh : hasp m = (bits .and .i64 (m : Int) ((m : Int) - 1) == 0) := by
      rw [ha]
      unfold hasp
      rw [decide_eq_true h2, Bool.true_and]
      by_cases hp : isp m
      · rw [pwb_yes h1 (by simpa using hp), (isp_and m (by omega)).2 hp]; rfl
      · rw [pwb_no (fun x => hp (by simpa using x.2))]
        have := fun x => hp ((isp_and m (by omega)).1 x)
        symm
        rw [beq_eq_false_iff_ne]
        intro e
        exact this (by exact_mod_cast e)
    have HH := Lib.hid hh
    clear hh ha
    go_enter Try.func35, Try.ntmps35
    go_wp2_with fail
    go_ret
    exact ⟨ret_bool HH.out.symm, rfl⟩
  · have HH := Lib.hid (show hasp n = false by
      unfold hasp
      by_cases h2 : n ≤ 16777216
      · rw [pwb_no (fun x => h ⟨x.1, h2⟩), Bool.and_false]
      · rw [decide_eq_false h2, Bool.false_and])
    have c1 : n < 1 ∨ (1 ≤ n ∧ 16777216 < n) := by omega
    clear h
    rcases c1 with c | ⟨c, d⟩
    · go_enter Try.func35, Try.ntmps35
      go_wp2_with fail
      go_ret
      exact ⟨ret_bool HH.out.symm, rfl⟩
    · have hd : decide (n ≤ 16777216) = false := decide_eq_false (by omega)
      go_enter Try.func35, Try.ntmps35
      go_wp2_with fail
      go_ret
      exact ⟨ret_bool HH.out.symm, rfl⟩
theorem r8_power (n : Int) (w : World) (hn : n ≤ 9223372036854775807) : Calls Try.prog 22 #[.int .i64 n] w fun e w' => e = .returned (.bool (pwb n)) ∧ w = w' := by
  by_cases h : n ≤ 1
  · by_cases h1 : n = 1
    · subst h1
      have HH := Lib.hid (show pwb 1 = true from pwb_yes (by omega) isp_one)
      go_enter Try.func22, Try.ntmps22
      go_wp2_with fail
      go_loop [0] (fun i => i = .int .i64 1) (fun _ => 0)
      case atStart => exact rfl
      case round =>
        obtain rfl := hrel
        go_wp2_with fail
        go_ret
        exact ⟨ret_bool HH.out.symm, rfl⟩
    · have HH := Lib.hid (show pwb n = false from pwb_no (fun x => h1 (by omega)))
      have hd : decide (1 < n) = false := decide_eq_false (by omega)
      have hz : (n == 1) = false := by simpa using h1
      clear h1
      go_enter Try.func22, Try.ntmps22
      go_wp2_with fail
      go_loop [0] (fun i => i = .int .i64 n) (fun _ => 0)
      case atStart => exact rfl
      case round =>
        obtain rfl := hrel
        go_wp2_with fail
        go_ret
        exact ⟨ret_bool HH.out.symm, rfl⟩
  · obtain ⟨m, rfl⟩ : ∃ m : Nat, n = m := ⟨n.toNat, by omega⟩
    go_enter Try.func22, Try.ntmps22
    go_wp2_with fail
    go_loop [0] (fun i => ∃ k : Nat, 1 ≤ k ∧ k ≤ m ∧ i = .int .i64 k ∧ Hid (pwb k = pwb m)) (fun i => (intOf i).toNat)
    case atStart => exact ⟨m, by omega, Nat.le_refl _, rfl, Lib.hid rfl⟩
    case round =>
      obtain ⟨k, hk0, hk, rfl, HP⟩ := hrel
      by_cases h1 : k = 1
      · subst h1
        have HH := Lib.hid (show pwb m = true by rw [← HP.out]; exact pwb_yes (by omega) isp_one)
        go_wp2_with fail
        go_ret
        exact ⟨ret_bool HH.out.symm, rfl⟩
      · have hd : decide ((1 : Int) < (k : Int)) = true := decide_eq_true (by omega)
        have hd2 : decide (1 < k) = true := decide_eq_true (by omega)
        have hz : ((k : Int) == 1) = false := by simp; omega
        by_cases hp : k % 2 = 0
        · have hm : ((k : Int)).tmod 2 = 0 := by
            rw [show ((k : Int)).tmod 2 = ((k % 2 : Nat) : Int) from rfl, hp]; rfl
          have hm' : (k : Int) % 2 = 0 := by omega
          have HP2 := Lib.hid (show pwb ((k / 2 : Nat) : Int) = pwb m by
            rw [← HP.out]
            have hi := isp_half k hp (by omega)
            by_cases hs : isp k
            · rw [pwb_yes (n := (k : Int)) (by omega) (by rw [Int.toNat_natCast]; exact hs), pwb_yes (n := ((k / 2 : Nat) : Int)) (by omega) (by rw [Int.toNat_natCast]; exact hi.2 hs)]
            · rw [pwb_no (n := (k : Int)) (fun x => hs (by have := x.2; rwa [Int.toNat_natCast] at this)), pwb_no (n := ((k / 2 : Nat) : Int)) (fun x => hs (hi.1 (by have := x.2; rwa [Int.toNat_natCast] at this)))])
          clear h1
          go_wp2_with fail
          go_round
          case rel => exact ⟨k / 2, by omega, by omega, by first | rfl | go_num | (congr 1; omega), HP2⟩
          case measure => (first | (simp [intOf]; done) | (simp [intOf]; omega) | (simp only [intOf]; omega))
        · have hm : ((k : Int)).tmod 2 = 1 := by
            rw [show ((k : Int)).tmod 2 = ((k % 2 : Nat) : Int) from rfl]; omega
          have hm' : (k : Int) % 2 = 1 := by omega
          have HH := Lib.hid (show pwb m = false by
            rw [← HP.out]; exact pwb_no (fun x => isp_odd k (by omega) (by omega) (by simpa using x.2)))
          go_wp2_with fail
          go_ret
          exact ⟨ret_bool HH.out.symm, rfl⟩
end Go.Proofs.Ytcfmiflhhjoofaa
/- Names of tables: package need's and reference 15's Right and Room. -/
namespace Go.Proofs.Ytcfmiflhhjoofaa
open Go.ChangeShapes Go.WideShapes Go.ChangeAt Go.RowKit
set_option linter.unusedVariables false
/-- Is it a table's name? -/
def rightb (k n m d : Int) : Bool :=
  hasb n && decide (d = 0 ∨ d = 1) && (if k = 1 ∨ k = 2 then decide (m = 0) else if k = 3 then decide (m = 0 ∧ 3 ≤ n) && prb n else if k = 4 then decide (2 ≤ n) && hasp m && decide (2 * n - 1 ≤ m) else false)
def roomi (k n m : Int) : Int := if k = 3 then n - 1 else if k = 4 then m else n
theorem rightb_dir {k n m d : Int} (h : ¬ (d = 0 ∨ d = 1)) : rightb k n m d = false := by unfold rightb; rw [decide_eq_false h, Bool.and_false, Bool.false_and]
theorem rightb_has {k n m d : Int} (h : hasb n = false) : rightb k n m d = false := by unfold rightb; rw [h, Bool.false_and, Bool.false_and]
theorem rightb_12 {k n m d : Int} (h1 : hasb n = true) (h2 : d = 0 ∨ d = 1) (h3 : k = 1 ∨ k = 2) : rightb k n m d = decide (m = 0) := by
  unfold rightb; rw [h1, decide_eq_true h2, if_pos h3]; rfl
theorem rightb_3 {n m d : Int} (h1 : hasb n = true) (h2 : d = 0 ∨ d = 1) : rightb 3 n m d = (decide (m = 0 ∧ 3 ≤ n) && prb n) := by
  unfold rightb; rw [h1, decide_eq_true h2, if_neg (by omega), if_pos rfl]; rfl
theorem rightb_4 {n m d : Int} (h1 : hasb n = true) (h2 : d = 0 ∨ d = 1) : rightb 4 n m d = (decide (2 ≤ n) && hasp m && decide (2 * n - 1 ≤ m)) := by
  unfold rightb; rw [h1, decide_eq_true h2, if_neg (by omega), if_neg (by omega), if_pos rfl]; rfl
theorem rightb_no {k n m d : Int} (h : ¬ (k = 1 ∨ k = 2) ∧ k ≠ 3 ∧ k ≠ 4) : rightb k n m d = false := by
  unfold rightb; rw [if_neg h.1, if_neg h.2.1, if_neg h.2.2, Bool.and_false]
set_option maxRecDepth 100000 in
set_option maxHeartbeats 4000000 in
theorem need_right (k n m d : Int) (W : World) (wn : -9223372036854775808 ≤ n ∧ n ≤ 9223372036854775807) :
    Calls Try.prog 15 #[.agg #[.int .i64 k, .int .i64 n, .int .i64 m, .int .i64 d]] W fun e w' => e = .returned (.bool (rightb k n m d)) ∧ Below W.heap.size W w' := by
  have H := Lib.hid (fun w => root_has n w wn.1 wn.2)
  have FP := Lib.hid (fun w => fact_prime n w)
  have SH := Lib.hid (fun w => stock_has m w)
  have hB := (Below.refl W.heap.size W).alloc (Nat.le_refl _) (.cells #[.int .i64 k, .int .i64 n, .int .i64 m, .int .i64 d] 23)
  cases hh : hasb n with
  | false =>
    rw [hh] at H
    have E := Lib.hid (rightb_has (k := k) (m := m) (d := d) hh)
    go_enter Try.func15, Try.ntmps15
    go_wp2_with fail
    refine (H.out _).mono ?_
    rintro e w1 ⟨rfl, rfl⟩
    go_wp2_with fail
    go_ret
    exact ⟨by rw [E.out]; rfl, hB⟩
  | true =>
  rw [hh] at H
  obtain ⟨n1, n2, _⟩ := hasb_dvd hh
  have w2 : IntKind.i64.wrap (2 * n - 1) = 2 * n - 1 := IntWalk.i64_in _ (by omega)
  have w3 : IntKind.i64.wrap (2 * n) = 2 * n := IntWalk.i64_in _ (by omega)
  by_cases hd : d = 0 ∨ d = 1
  case neg =>
    have E := Lib.hid (rightb_dir (k := k) (n := n) (m := m) hd)
    have e0 : (d != 0) = true := by simp; omega
    have e1 : (d != 1) = true := by simp; omega
    go_enter Try.func15, Try.ntmps15
    go_wp2_with fail
    refine (H.out _).mono ?_
    rintro e w1 ⟨rfl, rfl⟩
    go_wp2_with fail
    go_ret
    exact ⟨by rw [E.out]; rfl, hB⟩
  by_cases hk : k = 1 ∨ k = 2
  · have E := Lib.hid (rightb_12 (m := m) hh hd hk)
    have hm : (m == 0) = decide (m = 0) := rfl
    generalize decide (m = 0) = z at *
    rcases hd with rfl | rfl <;> rcases hk with rfl | rfl
    all_goals
      go_enter Try.func15, Try.ntmps15
      go_wp2_with fail
      refine (H.out _).mono ?_
      rintro e w1 ⟨rfl, rfl⟩
      go_wp2_with fail
      go_ret
      exact ⟨by rw [E.out]; rfl, hB⟩
  by_cases hk3 : k = 3
  · subst hk3
    by_cases hm : m = 0
    · by_cases h3 : 3 ≤ n
      · have E := Lib.hid (show rightb 3 n m d = prb n by rw [rightb_3 hh hd, decide_eq_true ⟨hm, h3⟩, Bool.true_and])
        subst hm
        have d3 : decide (3 ≤ n) = true := decide_eq_true h3
        generalize prb n = z at *
        rcases hd with rfl | rfl
        all_goals
          go_enter Try.func15, Try.ntmps15
          go_wp2_with fail
          refine (H.out _).mono ?_
          rintro e w1 ⟨rfl, rfl⟩
          go_wp2_with fail
          refine (FP.out _).mono ?_
          rintro e w2 ⟨rfl, b1⟩
          go_wp2_with fail
          go_ret
          exact ⟨by rw [E.out]; rfl, hB.trans (b1.mono hB.size)⟩
      · have E := Lib.hid (show rightb 3 n m d = false by rw [rightb_3 hh hd, decide_eq_false (fun h => h3 h.2), Bool.false_and])
        subst hm
        have d3 : decide (3 ≤ n) = false := decide_eq_false h3
        rcases hd with rfl | rfl
        all_goals
          go_enter Try.func15, Try.ntmps15
          go_wp2_with fail
          refine (H.out _).mono ?_
          rintro e w1 ⟨rfl, rfl⟩
          go_wp2_with fail
          go_ret
          exact ⟨by rw [E.out]; rfl, hB⟩
    · have E := Lib.hid (show rightb 3 n m d = false by rw [rightb_3 hh hd, decide_eq_false (fun h => hm h.1), Bool.false_and])
      have e0 : (m == 0) = false := by simp; omega
      rcases hd with rfl | rfl
      all_goals
        go_enter Try.func15, Try.ntmps15
        go_wp2_with fail
        refine (H.out _).mono ?_
        rintro e w1 ⟨rfl, rfl⟩
        go_wp2_with fail
        go_ret
        exact ⟨by rw [E.out]; rfl, hB⟩
  by_cases hk4 : k = 4
  · subst hk4
    by_cases h2 : 2 ≤ n
    · have d2 : decide (2 ≤ n) = true := decide_eq_true h2
      have E := Lib.hid (show rightb 4 n m d = (hasp m && decide (2 * n - 1 ≤ m)) by rw [rightb_4 hh hd, d2, Bool.true_and])
      generalize hasp m = y at *
      generalize hz : decide (2 * n - 1 ≤ m) = z at *
      rcases hd with rfl | rfl
      all_goals
        cases y
        all_goals
          cases z
          all_goals
            go_enter Try.func15, Try.ntmps15
            go_wp2_with fail
            refine (H.out _).mono ?_
            rintro e w1 ⟨rfl, rfl⟩
            go_wp2_with fail
            refine (SH.out _).mono ?_
            rintro e w1 ⟨rfl, rfl⟩
            go_wp2_with fail
            go_ret
            exact ⟨by rw [E.out]; rfl, hB⟩
    · have d2 : decide (2 ≤ n) = false := decide_eq_false h2
      have E := Lib.hid (show rightb 4 n m d = false by rw [rightb_4 hh hd, d2, Bool.false_and, Bool.false_and])
      rcases hd with rfl | rfl
      all_goals
        go_enter Try.func15, Try.ntmps15
        go_wp2_with fail
        refine (H.out _).mono ?_
        rintro e w1 ⟨rfl, rfl⟩
        go_wp2_with fail
        go_ret
        exact ⟨by rw [E.out]; rfl, hB⟩
  have E := Lib.hid (rightb_no (n := n) (m := m) (d := d) ⟨hk, hk3, hk4⟩)
  have e1 : (k == 1) = false := by simp; omega
  have e2 : (k == 2) = false := by simp; omega
  have e3 : (k == 3) = false := by simp; omega
  have e4 : (k == 4) = false := by simp; omega
  rcases hd with rfl | rfl
  all_goals
    go_enter Try.func15, Try.ntmps15
    go_wp2_with fail
    refine (H.out _).mono ?_
    rintro e w1 ⟨rfl, rfl⟩
    go_wp2_with fail
    go_ret
    exact ⟨by rw [E.out]; rfl, hB⟩
end Go.Proofs.Ytcfmiflhhjoofaa
