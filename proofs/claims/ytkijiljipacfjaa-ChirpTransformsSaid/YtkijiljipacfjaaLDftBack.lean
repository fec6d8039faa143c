/- DftBack: what was transformed is undone; twice there is backwards. -/
import Derived.Test.YtkijiljipacfjaaGeo4
import Derived.Test.YtkijiljipacfjaaLive6
import Derived.Test.YtkijiljipacfjaaRturn
namespace Go.Proofs.Ytkijiljipacfjaa
open Go.ChangeShapes Go.WideShapes Go.ChangeAt Go.RowKit
set_option linter.unusedVariables false
namespace dftBack
open rootTells
theorem inv2_rt (n : Nat) (hh : hasb n = true) : Inv2 (rt n) (finv (rt n)) n := by
  obtain ⟨a, b, c⟩ := hasb_dvd hh
  have h1 := rt_one_pow hh
  rw [Int.toNat_natCast] at h1
  have hrs := rt_inv hh
  have hsn : fm (finv (rt n) ^ n) = 1 := by
    have := pow_one_of hrs n
    rw [Int.mul_pow, ← fm_mul_l, h1, Int.one_mul] at this
    exact this
  have hd : n ∣ 18446744069414584320 := by
    have := Int.dvd_of_emod_eq_zero c
    exact Int.ofNat_dvd.1 (show ((n : Nat) : Int) ∣ ((18446744069414584320 : Nat) : Int) from this)
  refine ⟨h1, hsn, hrs, fun m m0 m1 => order_least (by omega) hd h1 ?_ m0 m1⟩
  intro q hq hqn
  have L := rt_least hh
  rcases hq with rfl | rfl | rfl | rfl | rfl | rfl
  · have := L 0 (by omega) (show (n : Int) % 2 = 0 by omega)
    rwa [show ((n : Int) / qsl.getD 0 0).toNat = n / 2 from by show ((n : Int) / 2).toNat = n / 2; omega] at this
  · have := L 1 (by omega) (show (n : Int) % 3 = 0 by omega)
    rwa [show ((n : Int) / qsl.getD 1 0).toNat = n / 3 from by show ((n : Int) / 3).toNat = n / 3; omega] at this
  · have := L 2 (by omega) (show (n : Int) % 5 = 0 by omega)
    rwa [show ((n : Int) / qsl.getD 2 0).toNat = n / 5 from by show ((n : Int) / 5).toNat = n / 5; omega] at this
  · have := L 3 (by omega) (show (n : Int) % 17 = 0 by omega)
    rwa [show ((n : Int) / qsl.getD 3 0).toNat = n / 17 from by show ((n : Int) / 17).toNat = n / 17; omega] at this
  · have := L 4 (by omega) (show (n : Int) % 257 = 0 by omega)
    rwa [show ((n : Int) / qsl.getD 4 0).toNat = n / 257 from by show ((n : Int) / 257).toNat = n / 257; omega] at this
  · have := L 5 (by omega) (show (n : Int) % 65537 = 0 by omega)
    rwa [show ((n : Int) / qsl.getD 5 0).toNat = n / 65537 from by show ((n : Int) / 65537).toNat = n / 65537; omega] at this
theorem inv2_dir (n : Nat) (d : Int) (hc : chk n d = 0) : Inv2 (rdir n d) (rdir n (1 - d)) n := by
  obtain ⟨hd, hh, _⟩ := chk_ok hc
  rcases hd with rfl | rfl
  · exact inv2_rt n hh
  · exact (inv2_rt n hh).symm
theorem inv_len (n : Nat) (h0 : 1 ≤ n) (h1 : n ≤ 4096) : fm (finv n * n) = 1 := Fld.inv_mul n (by
  have : fm (n : Int) = n := Int.emod_eq_of_lt (by omega) (by omega)
  rw [this]; omega)
theorem undone {r s : Int} {n : Nat} (h : Inv2 r s n) (xs : List Int) (hl : xs.length = n) (h0 : 1 ≤ n) (h1 : n ≤ 4096) : scl (finv n) (horl s (horl r xs n) n) = redl xs := by
  apply getD_ext (by rw [scl_len, horl_len, redl_len, hl])
  intro k hk
  rw [scl_len, horl_len] at hk
  rw [scl_at _ _ k (by rw [horl_len]; exact hk), h.at xs hl k hk, redl_at xs k (by omega), fm_mul_r, ← Int.mul_assoc, ← fm_mul_l, inv_len n h0 h1, Int.one_mul]
theorem redone {r s : Int} {n : Nat} (h : Inv2 r s n) (xs : List Int) (hl : xs.length = n) (h0 : 1 ≤ n) (h1 : n ≤ 4096) : horl r (scl (finv n) (horl s xs n)) n = redl xs := by
  rw [horl_scl, undone h.symm xs hl h0 h1]
theorem twiced {r s : Int} {n : Nat} (h : Inv2 r s n) (xs : List Int) (hl : xs.length = n) : horl r (horl r xs n) n = scl n (revl xs) := by
  apply getD_ext (by rw [horl_len, scl_len, revl_len, hl])
  intro k hk
  rw [horl_len] at hk
  rw [h.twice xs hl k hk, scl_at _ _ k (by rw [revl_len, hl]; exact hk), revl_at xs k (by omega), fm_mul_r, hl]

end dftBack
end Go.Proofs.Ytkijiljipacfjaa
