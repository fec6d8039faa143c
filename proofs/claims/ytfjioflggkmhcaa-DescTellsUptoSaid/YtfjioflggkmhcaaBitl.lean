/- math/bits' Len. -/
import Derived.Test.YtfjioflggkmhcaaChecked
import Derived.Lib.Strings
import Derived.Lib.Slices
import Derived.Lib.Small
import Derived.Lib.Walk
import Derived.Lib.BitFns
namespace Go.Proofs.Ytfjioflggkmhcaa
theorem len_big (x : Nat) (k : Nat) (h : 2 ^ k ≤ x) (hx : x < 18446744073709551616) (y : Nat) (hy : x / 2 ^ k = y) : Lib.bitLen x = k + Lib.bitLen y := by
  rw [← hy]; exact Lib.bitLen_shift k x h hx
theorem len_pow (e : Nat) (h : e < 25) : Lib.bitLen (2 ^ e) = e + 1 := by
  have h1 : (2 : Nat) ^ e < 18446744073709551616 := Nat.lt_of_lt_of_le (Nat.pow_lt_pow_right (by omega) h) (by decide)
  rw [Lib.bitLen_shift e (2 ^ e) (Nat.le_refl _) h1, Nat.div_self (Nat.pow_pos (by omega))]
  rfl
theorem len_top (x y : Int) (k p : Nat) (hp : p = 2 ^ k) (h0 : 0 ≤ x) (h1 : x ≤ 18446744073709551615) (hge : (p : Int) ≤ x) (hy : y = x / (p : Int)) (hy2 : y < 256) (hk : k ≤ 56) :
    ((k : Int) + ((Lib.len8 (y % 256) + 9223372036854775808) % 18446744073709551616 - 9223372036854775808) + 9223372036854775808) % 18446744073709551616 - 9223372036854775808 = (Lib.bitLen x.toNat : Int) := by
  have hy0 : 0 ≤ y := by rw [hy]; exact Int.ediv_nonneg h0 (by omega)
  have hm : y % 256 = y := Int.emod_eq_of_lt hy0 hy2
  have hyn : x.toNat / 2 ^ k = y.toNat := by
    rw [hy, ← hp]
    obtain ⟨n, rfl⟩ := Int.eq_ofNat_of_zero_le h0
    rw [← Int.natCast_ediv, Int.toNat_natCast, Int.toNat_natCast]
  have hp2 : 2 ^ k ≤ x.toNat := by rw [← hp]; omega
  have hb := len_big x.toNat k hp2 (by omega) _ hyn
  have h8 := Lib.bitLen_le8' y hy0 (by omega)
  rw [hm, Lib.len8_of y hy0 (by omega), hb]
  clear hb hp2 hyn hm hp hy hge
  generalize Lib.bitLen y.toNat = b at *
  omega
set_option maxHeartbeats 4000000 in
set_option maxRecDepth 100000 in
theorem bits_len64 (x : Int) (w : World) (h0 : 0 ≤ x) (h1 : x ≤ 18446744073709551615) :
    Calls Try.prog 99 #[.int .u64 x] w fun e w' => e = .returned (.int .i64 (Lib.bitLen x.toNat)) ∧ w = w' := by
  go_enter Try.func99, Try.ntmps99
  go_wp2
  all_goals go_ret
  all_goals (refine ⟨congrArg (fun z => Ending.returned (Value.int .i64 z)) ?_, rfl⟩)
  · exact len_top x _ 56 72057594037927936 rfl h0 h1 (by omega) (by omega) (by omega) (by omega)
  · exact len_top x _ 48 281474976710656 rfl h0 h1 (by omega) (by omega) (by omega) (by omega)
  · exact len_top x _ 40 1099511627776 rfl h0 h1 (by omega) (by omega) (by omega) (by omega)
  · exact len_top x _ 32 4294967296 rfl h0 h1 (by omega) (by omega) (by omega) (by omega)
  · exact len_top x _ 24 16777216 rfl h0 h1 (by omega) (by omega) (by omega) (by omega)
  · exact len_top x _ 16 65536 rfl h0 h1 (by omega) (by omega) (by omega) (by omega)
  · exact len_top x _ 8 256 rfl h0 h1 (by omega) (by omega) (by omega) (by omega)
  · have h8 := Lib.bitLen_le8' x h0 (by omega)
    rw [show x % 256 = x by omega, Lib.len8_of x h0 (by omega)]
    omega
theorem bits_len (x : Int) (w : World) (h0 : 0 ≤ x) (h1 : x ≤ 18446744073709551615) :
    Calls Try.prog 90 #[.int .u64 x] w fun e w' => e = .returned (.int .i64 (Lib.bitLen x.toNat)) ∧ w = w' := by
  go_enter Try.func90, Try.ntmps90
  go_wp2_with (go_at_call 99; refine (bits_len64 x _ h0 h1).mono ?_; rintro e w' ⟨rfl, rfl⟩)
  go_ret
  exact ⟨rfl, rfl⟩
end Go.Proofs.Ytfjioflggkmhcaa
