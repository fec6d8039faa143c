/- Put together by program (merge.py): Powm Root. -/
import Derived.Test.YtcfmiflhhjoofaaM3
import Derived.Test.YtcfmiflhhjoofaaM4
import Derived.Test.YtcfmiflhhjoofaaM5
/- Powers modulo P, reckoned by squares; the powers of 7 that matter. Plain numbers. -/
namespace Go.Proofs.Ytcfmiflhhjoofaa.Fld

/-- b to the e modulo P, e below 2^f. -/
def pm (P : Nat) : Nat → Nat → Nat → Nat
  | 0, _, _ => 1 % P
  | f + 1, b, e => if e % 2 = 1 then pm P f (b * b % P) (e / 2) * b % P else pm P f (b * b % P) (e / 2)
theorem pm_eq (P : Nat) : ∀ (f b e : Nat), e < 2 ^ f → pm P f b e = b ^ e % P
  | 0, b, e, h => by
    have : e = 0 := by simp at h; exact h
    subst this; simp [pm]
  | f + 1, b, e, h => by
    have hh : e / 2 < 2 ^ f := by rw [Nat.pow_succ] at h; omega
    have ih := pm_eq P f (b * b % P) (e / 2) hh
    have e2 : (b * b % P) ^ (e / 2) % P = b ^ (2 * (e / 2)) % P := by
      rw [← Nat.pow_mod, ← Nat.pow_two, ← Nat.pow_mul]
    unfold pm
    rw [ih, e2]
    split
    · rename_i ho
      have he : 2 * (e / 2) + 1 = e := by omega
      have := Nat.pow_succ (n := b) (m := 2 * (e / 2))
      rw [Nat.succ_eq_add_one, he] at this
      rw [this, Nat.mod_mul_mod]
    · have he : 2 * (e / 2) = e := by omega
      rw [he]

theorem fm_natpow (b e v : Nat) (f : Nat) (h : e < 2 ^ f) (hv : pm Pn f b e = v) : fm ((b : Int) ^ e) = (v : Int) := by
  rw [← Int.natCast_pow, fm_cast, ← pm_eq Pn f b e h, hv]

end Go.Proofs.Ytcfmiflhhjoofaa.Fld
/- Package root, and the document's own answers of layer 4. -/
namespace Go.Proofs.Ytcfmiflhhjoofaa
open Go.ChangeShapes Go.WideShapes Go.ChangeAt Go.RowKit
set_option linter.unusedVariables false

/-- Is it a size? -/
def hasb (n : Int) : Bool := decide (1 ≤ n ∧ n ≤ 16777216 ∧ 18446744069414584320 % n = 0)
theorem hasb_yes {n : Int} (h : 1 ≤ n) (h1 : n ≤ 16777216) (h2 : 18446744069414584320 % n = 0) : hasb n = true := decide_eq_true ⟨h, h1, h2⟩

theorem hasb_no {n : Int} (h : ¬ (1 ≤ n ∧ n ≤ 16777216 ∧ 18446744069414584320 % n = 0)) : hasb n = false := decide_eq_false h
theorem hasb_dvd {n : Int} (h : hasb n = true) : 1 ≤ n ∧ n ≤ 16777216 ∧ 18446744069414584320 % n = 0 := of_decide_eq_true h

theorem root_has (n : Int) (w : World) (h0 : -9223372036854775808 ≤ n) (h1 : n ≤ 9223372036854775807) :
    Calls Try.prog 33 #[.int .i64 n] w fun e w' => e = .returned (.bool (hasb n)) ∧ w = w' := by
  by_cases a : 1 ≤ n ∧ n ≤ 16777216
  · obtain ⟨a, b⟩ := a
    have hz : (n == 0) = false := by simp; omega
    by_cases c : 18446744069414584320 % n = 0
    · have HH := Lib.hid (hasb_yes a b c)
      have hc : ((18446744069414584320 : Int) % n == 0) = true := by simpa using c
      clear c
      go_enter Try.func33, Try.ntmps33
      go_wp2
      go_ret
      exact ⟨ret_bool HH.out.symm, rfl⟩
    · have HH := Lib.hid (hasb_no (n := n) (fun h => c h.2.2))
      have hc : ((18446744069414584320 : Int) % n == 0) = false := by simpa using c
      clear c
      go_enter Try.func33, Try.ntmps33
      go_wp2
      go_ret
      exact ⟨ret_bool HH.out.symm, rfl⟩
  · have HH := Lib.hid (hasb_no (n := n) (fun h => a ⟨h.1, h.2.1⟩))
    have c1 : n < 1 ∨ (1 ≤ n ∧ 16777216 < n) := by omega
    clear a
    rcases c1 with c | ⟨c, d⟩
    · go_enter Try.func33, Try.ntmps33
      go_wp2
      go_ret
      exact ⟨ret_bool HH.out.symm, rfl⟩
    · have hd : decide (n ≤ 16777216) = false := decide_eq_false (by omega)
      go_enter Try.func33, Try.ntmps33
      go_wp2
      go_ret
      exact ⟨ret_bool HH.out.symm, rfl⟩
theorem r4_has (n : Int) (w : World) (h0 : -9223372036854775808 ≤ n) (h1 : n ≤ 9223372036854775807) :
    Calls Try.prog 20 #[.int .i64 n] w fun e w' => e = .returned (.bool (hasb n)) ∧ w = w' := by
  by_cases a : 1 ≤ n ∧ n ≤ 16777216
  · obtain ⟨a, b⟩ := a
    have hz : (n == 0) = false := by simp; omega
    by_cases c : 18446744069414584320 % n = 0
    · have HH := Lib.hid (hasb_yes a b c)
      have hc : ((18446744069414584320 : Int) % n == 0) = true := by simpa using c
      clear c
      go_enter Try.func20, Try.ntmps20
      go_wp2
      go_ret
      exact ⟨ret_bool HH.out.symm, rfl⟩
    · have HH := Lib.hid (hasb_no (n := n) (fun h => c h.2.2))
      have hc : ((18446744069414584320 : Int) % n == 0) = false := by simpa using c
      clear c
      go_enter Try.func20, Try.ntmps20
      go_wp2
      go_ret
      exact ⟨ret_bool HH.out.symm, rfl⟩
  · have HH := Lib.hid (hasb_no (n := n) (fun h => a ⟨h.1, h.2.1⟩))
    have c1 : n < 1 ∨ (1 ≤ n ∧ 16777216 < n) := by omega
    clear a
    rcases c1 with c | ⟨c, d⟩
    · go_enter Try.func20, Try.ntmps20
      go_wp2
      go_ret
      exact ⟨ret_bool HH.out.symm, rfl⟩
    · have hd : decide (n ≤ 16777216) = false := decide_eq_false (by omega)
      go_enter Try.func20, Try.ntmps20
      go_wp2
      go_ret
      exact ⟨ret_bool HH.out.symm, rfl⟩

/-- The exponent of the root of n. -/
def rex (n : Int) : Nat := (18446744069414584320 / n).toNat
/-- The root of the order n. -/
def rt (n : Int) : Int := fm (7 ^ rex n)
theorem rt_lo (n : Int) : 0 ≤ rt n := fm_lo _
theorem rt_hi (n : Int) : rt n ≤ 18446744069414584320 := fm_hi _
theorem rex_cast {n : Int} (h : 1 ≤ n) : ((rex n : Nat) : Int) = 18446744069414584320 / n ∧ rex n ≤ 18446744073709551615 := by
  unfold rex
  have h0 : 0 ≤ 18446744069414584320 / n := Int.ediv_nonneg (by omega) (by omega)
  have h1 : 18446744069414584320 / n ≤ 18446744069414584320 := Int.ediv_le_self _ (by omega)
  omega
theorem root_root (n : Int) (w : World) (h0 : -9223372036854775808 ≤ n) (h1 : n ≤ 9223372036854775807) (hh : hasb n = true) :
    Calls Try.prog 68 #[.int .i64 n] w fun e w' => e = .returned (.tuple #[.int .u64 (rt n), .int .i64 0]) ∧ Below w.heap.size w w' := by
  obtain ⟨a, b, c⟩ := hasb_dvd hh
  obtain ⟨e1, e2⟩ := rex_cast a
  have P := Lib.hid (fun w => gold_pow 7 (rex n) w (by decide) (by decide) e2)
  have R := Lib.hid (root_has n w h0 h1)
  have HE := Lib.hid e1
  have hz : (n == 0) = false := by simp; omega
  have HH := Lib.hid hh
  clear hh c e1 e2
  go_enter Try.func68, Try.ntmps68
  go_wp2_with fail
  have R' := R.out
  rw [HH.out] at R'
  refine R'.mono ?_
  clear R'
  rintro e w1 ⟨rfl, rfl⟩
  go_wp2_with fail
  rw [← HE.out]
  refine (P.out _).mono ?_
  rintro e w1 ⟨rfl, hb⟩
  go_wp2_with fail
  go_ret2
  exact ⟨rfl, hb⟩
theorem root_none (n : Int) (w : World) (h0 : -9223372036854775808 ≤ n) (h1 : n ≤ 9223372036854775807) (hh : hasb n = false) :
    Calls Try.prog 68 #[.int .i64 n] w fun e w' => e = .returned (.tuple #[.int .u64 0, .int .i64 4]) ∧ w = w' := by
  have R := root_has n w h0 h1
  rw [hh] at R
  have R := Lib.hid R
  clear hh
  go_enter Try.func68, Try.ntmps68
  go_wp2_with fail
  refine R.out.mono ?_
  rintro e w1 ⟨rfl, rfl⟩
  go_wp2_with fail
  go_ret2
  exact ⟨rfl, rfl⟩

theorem rt_two : rt 2 = 18446744069414584320 := by
  have := Fld.fm_natpow 7 9223372034707292160 18446744069414584320 64 (by decide +kernel) (by decide +kernel)
  exact this
theorem rt_four : rt 4 = 281474976710656 := by
  have := Fld.fm_natpow 7 4611686017353646080 281474976710656 64 (by decide +kernel) (by decide +kernel)
  exact this
end Go.Proofs.Ytcfmiflhhjoofaa
