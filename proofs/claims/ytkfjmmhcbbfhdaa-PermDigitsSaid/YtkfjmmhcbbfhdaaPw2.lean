/- Powers of two: stock.Has, and the document's. -/
import Derived.Test.YtkfjmmhcbbfhdaaVecc
namespace Go.Proofs.Ytkfjmmhcbbfhdaa
open Go.ChangeShapes Go.WideShapes Go.ChangeAt Go.RowKit
set_option linter.unusedVariables false
theorem ofInt_i64 (a : Nat) (ha : a < 18446744073709551616) : (BitVec.ofInt 64 (a : Int)).toNat = a := by
  rw [BitVec.ofInt_natCast, BitVec.toNat_ofNat]; exact Nat.mod_eq_of_lt (by omega)
theorem i64_and_nat (a b : Nat) (ha : a < 9223372036854775808) (hb : b < 9223372036854775808) : bits .and .i64 (a : Int) (b : Int) = ((a &&& b : Nat) : Int) := by
  have hx : a &&& b < 2 ^ 63 := Nat.and_lt_two_pow _ (by omega)
  show IntKind.i64.wrap ((BitVec.ofInt 64 (a : Int) &&& BitVec.ofInt 64 (b : Int)).toNat : Int) = _
  rw [BitVec.toNat_and, ofInt_i64 a (by omega), ofInt_i64 b (by omega), IntKind.wrap_i64]
  omega
/-- A power of two. -/
def isp (n : Nat) : Prop := Nat.isPowerOfTwo n
instance (n : Nat) : Decidable (isp n) := inferInstanceAs (Decidable (Nat.isPowerOfTwo n))
theorem isp_and (n : Nat) (h : n ≠ 0) : (n &&& (n - 1)) = 0 ↔ isp n := Nat.and_sub_one_eq_zero_iff_isPowerOfTwo h
theorem isp_half (n : Nat) (h : n % 2 = 0) (h2 : 2 ≤ n) : isp (n / 2) ↔ isp n := by
  constructor
  · rintro ⟨k, hk⟩
    exact ⟨k + 1, by rw [Nat.pow_succ]; omega⟩
  · rintro ⟨k, hk⟩
    cases k with
    | zero => simp at hk; omega
    | succ k => exact ⟨k, by rw [Nat.pow_succ] at hk; omega⟩
theorem isp_odd (n : Nat) (h : n % 2 = 1) (h2 : 2 ≤ n) : ¬ isp n := by
  rintro ⟨k, hk⟩
  cases k with
  | zero => simp at hk; omega
  | succ k => rw [Nat.pow_succ] at hk; omega
theorem isp_one : isp 1 := ⟨0, rfl⟩
theorem isp_zero : ¬ isp 0 := by
  rintro ⟨k, hk⟩
  have := Nat.pow_pos (n := k) (show 0 < 2 by omega)
  omega
/-- Is it a power of two? -/
def pwb (n : Int) : Bool := decide (1 ≤ n ∧ isp n.toNat)
theorem pwb_yes {n : Int} (h : 1 ≤ n) (h1 : isp n.toNat) : pwb n = true := by unfold pwb; exact decide_eq_true ⟨h, h1⟩
theorem pwb_no {n : Int} (h : ¬ (1 ≤ n ∧ isp n.toNat)) : pwb n = false := by unfold pwb; exact decide_eq_false h
theorem pwb_isp {n : Int} (h : pwb n = true) : 1 ≤ n ∧ isp n.toNat := by unfold pwb at h; exact of_decide_eq_true h
/-- .. of a size. -/
def hasp (n : Int) : Bool := decide (n ≤ 16777216) && pwb n
theorem r8_power (n : Int) (w : World) (hn : n ≤ 9223372036854775807) : Calls Try.prog 55 #[.int .i64 n] w fun e w' => e = .returned (.bool (pwb n)) ∧ w = w' := by
  by_cases h : n ≤ 1
  · by_cases h1 : n = 1
    · subst h1
      have HH := Lib.hid (show pwb 1 = true from pwb_yes (by omega) isp_one)
      go_enter Try.func55, Try.ntmps55
      go_wp2_with fail
      go_loop [0] (fun i => i = .int .i64 1) (fun _ => 0)
      case atStart => exact rfl
      case round =>
        obtain rfl := hrel
        go_wp2_with fail
        go_ret
        exact ⟨ret_bool HH.out.symm, rfl⟩
    · have HH := Lib.hid (show pwb n = false from pwb_no (fun x => h1 (by omega)))
      have hd : decide (1 < n) = false := decide_eq_false (by omega)
      have hz : (n == 1) = false := by simpa using h1
      clear h1
      go_enter Try.func55, Try.ntmps55
      go_wp2_with fail
      go_loop [0] (fun i => i = .int .i64 n) (fun _ => 0)
      case atStart => exact rfl
      case round =>
        obtain rfl := hrel
        go_wp2_with fail
        go_ret
        exact ⟨ret_bool HH.out.symm, rfl⟩
  · obtain ⟨m, rfl⟩ : ∃ m : Nat, n = m := ⟨n.toNat, by omega⟩
    go_enter Try.func55, Try.ntmps55
    go_wp2_with fail
    go_loop [0] (fun i => ∃ k : Nat, 1 ≤ k ∧ k ≤ m ∧ i = .int .i64 k ∧ Hid (pwb k = pwb m)) (fun i => (intOf i).toNat)
    case atStart => exact ⟨m, by omega, Nat.le_refl _, rfl, Lib.hid rfl⟩
    case round =>
      obtain ⟨k, hk0, hk, rfl, HP⟩ := hrel
      by_cases h1 : k = 1
      · subst h1
        have HH := Lib.hid (show pwb m = true by rw [← HP.out]; exact pwb_yes (by omega) isp_one)
        go_wp2_with fail
        go_ret
        exact ⟨ret_bool HH.out.symm, rfl⟩
      · have hd : decide ((1 : Int) < (k : Int)) = true := decide_eq_true (by omega)
        have hd2 : decide (1 < k) = true := decide_eq_true (by omega)
        have hz : ((k : Int) == 1) = false := by simp; omega
        by_cases hp : k % 2 = 0
        · have hm : ((k : Int)).tmod 2 = 0 := by
            rw [show ((k : Int)).tmod 2 = ((k % 2 : Nat) : Int) from rfl, hp]; rfl
          have hm' : (k : Int) % 2 = 0 := by omega
          have HP2 := Lib.hid (show pwb ((k / 2 : Nat) : Int) = pwb m by
            rw [← HP.out]
            have hi := isp_half k hp (by omega)
            by_cases hs : isp k
            · rw [pwb_yes (n := (k : Int)) (by omega) (by rw [Int.toNat_natCast]; exact hs), pwb_yes (n := ((k / 2 : Nat) : Int)) (by omega) (by rw [Int.toNat_natCast]; exact hi.2 hs)]
            · rw [pwb_no (n := (k : Int)) (fun x => hs (by have := x.2; rwa [Int.toNat_natCast] at this)), pwb_no (n := ((k / 2 : Nat) : Int)) (fun x => hs (hi.1 (by have := x.2; rwa [Int.toNat_natCast] at this)))])
          clear h1
          go_wp2_with fail
          go_round
          case rel => exact ⟨k / 2, by omega, by omega, by first | rfl | go_num | (congr 1; omega), HP2⟩
          case measure => (first | (simp [intOf]; done) | (simp [intOf]; omega) | (simp only [intOf]; omega))
        · have hm : ((k : Int)).tmod 2 = 1 := by
            rw [show ((k : Int)).tmod 2 = ((k % 2 : Nat) : Int) from rfl]; omega
          have hm' : (k : Int) % 2 = 1 := by omega
          have HH := Lib.hid (show pwb m = false by
            rw [← HP.out]; exact pwb_no (fun x => isp_odd k (by omega) (by omega) (by simpa using x.2)))
          go_wp2_with fail
          go_ret
          exact ⟨ret_bool HH.out.symm, rfl⟩
end Go.Proofs.Ytkfjmmhcbbfhdaa
