/- Put together by program (merge.py): Fft LDftBack. -/
import Derived.Test.YtcfmiflhhjoofaaM14
import Derived.Test.YtcfmiflhhjoofaaM26
import Derived.Test.YtcfmiflhhjoofaaM29
import Derived.Test.YtcfmiflhhjoofaaM31
import Derived.Test.YtcfmiflhhjoofaaM32
/- Stockham's way is the transform: the sums. Plain numbers: no Go text. -/
namespace Go.Proofs.Ytcfmiflhhjoofaa
open Go.ChangeShapes Go.WideShapes Go.ChangeAt Go.RowKit
set_option linter.unusedVariables false
/-- The sum of f p times y to the power p, p below m. -/
def ssum (f : Nat → Int) (y : Int) : Nat → Int
  | 0 => 0
  | m + 1 => ssum f y m + f m * y ^ m
theorem ssum_succ (f : Nat → Int) (y : Int) (m : Nat) : ssum f y (m + 1) = ssum f y m + f m * y ^ m := rfl
theorem ssum_ps (f : Nat → Int) (y : Int) : ∀ m, ps y ((List.range m).map f) = ssum f y m
  | 0 => rfl
  | m + 1 => by
    rw [List.range_succ, List.map_append, List.map_cons, List.map_nil, ps_snoc, ssum_ps f y m, ssum_succ]
    simp only [List.length_map, List.length_range]
    rw [Int.mul_comm]
theorem list_range (xs : List Int) : xs = (List.range xs.length).map fun p => xs.getD p 0 := by
  apply List.ext_getElem (by simp)
  intro i h1 h2
  simp [List.getD, h1]
theorem ps_ssum (xs : List Int) (y : Int) (n : Nat) (h : xs.length = n) : ps y xs = ssum (fun p => xs.getD p 0) y n := by
  have e := list_range xs
  rw [h] at e
  have := ssum_ps (fun p => xs.getD p 0) y n
  rw [← e] at this
  exact this
theorem ssum_congr {f g : Nat → Int} {y z : Int} : ∀ m, (∀ p, p < m → fm (f p * y ^ p) = fm (g p * z ^ p)) → fm (ssum f y m) = fm (ssum g z m)
  | 0, _ => rfl
  | m + 1, h => by
    rw [ssum_succ, ssum_succ, ← fm_add_fm, ssum_congr m (fun p hp => h p (by omega)), h m (by omega), fm_add_fm]
theorem ssum_add (g : Nat → Int) (y : Int) (m : Nat) : ∀ k, ssum g y (m + k) = ssum g y m + y ^ m * ssum (fun p => g (p + m)) y k
  | 0 => by simp [ssum]
  | k + 1 => by
    rw [show m + (k + 1) = (m + k) + 1 by omega, ssum_succ, ssum_add g y m k, ssum_succ, Int.pow_add, Nat.add_comm k m]
    grind
theorem ssum_lin (f h : Nat → Int) (c y : Int) : ∀ m, ssum f y m + c * ssum h y m = ssum (fun p => f p + c * h p) y m
  | 0 => by simp [ssum]
  | m + 1 => by
    rw [ssum_succ, ssum_succ, ssum_succ, ← ssum_lin f h c y m]
    grind
/-- One of the sums, and what it comes to when split. -/
theorem ssum_half (g : Nat → Int) (y c : Int) (m : Nat) (h : fm (y ^ m) = fm c) : fm (ssum g y (2 * m)) = fm (ssum (fun p => g p + c * g (p + m)) y m) := by
  rw [show 2 * m = m + m by omega, ssum_add, ← fm_add_r, ← fm_mul_l, h, fm_mul_l, fm_add_r, ssum_lin]
/-- What the passes keep: the transform, of each part. -/
def Keeps (r : Int) (xs z : List Int) (s m : Nat) : Prop := ∀ q k, q < s → k < m → fm (ssum (fun p => z.getD (q + s * p) 0) (r ^ (s * k)) m) = fm (ssum (fun p => xs.getD p 0) (r ^ (q + s * k)) (s * m))
theorem keeps_start (r : Int) (xs : List Int) (n : Nat) (hl : xs.length = n) : Keeps r xs (redl xs) 1 n := by
  intro q k hq hk
  obtain rfl : q = 0 := by omega
  rw [Nat.one_mul, Nat.one_mul, Nat.zero_add]
  refine ssum_congr n (fun p hp => ?_)
  rw [Nat.one_mul, Nat.zero_add, redl_at xs p (by omega), fm_mul_l]
theorem keeps_step {r : Int} {n : Nat} (xs z : List Int) (s m : Nat) (hn : 2 * s * m = n) (hs : 0 < s) (hm : 0 < m) (h1 : fm (r ^ n) = 1) (h2 : fm (r ^ (n / 2)) = fm (-1)) (hk : Keeps r xs z s (2 * m)) : Keeps r xs (passl z (powl r n) s n) (2 * s) m := by
  have hn2 : n / 2 = s * m := by rw [← hn, half_n]
  intro q' k hq' hkm
  have e0 : s * (2 * m) = n := by rw [← hn, ← Nat.mul_assoc, Nat.mul_comm s 2]
  have e1 : 2 * s * m = s * (2 * m) := by rw [hn, e0]
  rw [e1]
  by_cases hq : q' < s
  · have hin : ∀ p, p < m → q' + 2 * s * p < n := fun p hp => by
      have := (prod_facts s m p q' n hn hp hq).2.2.1
      rwa [Nat.mul_comm s 2] at this
    have kk := hk q' (2 * k) hq (by omega)
    rw [show s * (2 * k) = 2 * s * k by rw [← Nat.mul_assoc, Nat.mul_comm s 2]] at kk
    rw [← kk, ssum_half _ _ 1 m (by
      rw [← Int.pow_mul, show 2 * s * k * m = n * k by rw [Nat.mul_right_comm, hn], one_mul_exp h1]; rfl)]
    refine ssum_congr m (fun p hp => ?_)
    have f := hin p hp
    have g := pk_even z (powl r n) q' s p m hq
    rw [hn, Nat.mul_comm s 2] at g
    rw [passl_at _ _ _ _ _ f, g, fm_mul_l, Int.one_mul]
  · obtain ⟨q, rfl⟩ : ∃ q, q' = q + s := ⟨q' - s, by omega⟩
    have hq : q < s := by omega
    have kk := hk q (2 * k + 1) hq (by omega)
    rw [show q + s + 2 * s * k = q + s * (2 * k + 1) by rw [Nat.mul_add, Nat.mul_one, ← Nat.mul_assoc, Nat.mul_comm s 2]; omega, ← kk, ssum_half _ _ (-1) m (by
      rw [← Int.pow_mul, show s * (2 * k + 1) * m = s * m * (2 * k + 1) by rw [Nat.mul_right_comm], Int.pow_mul, ← hn2, ← Fld.fm_pow1, h2, Fld.fm_pow1, Int.pow_succ, Int.pow_mul]
      have : ((-1 : Int) ^ 2) = 1 := by decide
      rw [this, Int.one_pow, Int.one_mul])]
    refine ssum_congr m (fun p hp => ?_)
    obtain ⟨_, _, _, f4, f5, _⟩ := prod_facts s m p q n hn hp hq
    have g := pk_odd z (powl r n) q s p m hq
    rw [hn] at g
    rw [show q + s + 2 * s * p = q + s * (2 * p + 1) by rw [Nat.mul_add, Nat.mul_one, ← Nat.mul_assoc, Nat.mul_comm s 2]; omega, passl_at _ _ _ _ _ f4, g, powl_at _ _ _ f5]
    rw [fm_mul_l, ← fm_mul_l (fm _ * fm _), fm_mul_fm, fm_mul_l]
    congr 1
    have ey : (r ^ (s * (2 * k + 1))) ^ p = r ^ (p * s) * (r ^ (2 * s * k)) ^ p := by
      rw [← Int.pow_mul, ← Int.pow_mul, ← Int.pow_add]
      congr 1
      rw [Nat.mul_add, Nat.mul_one, Nat.add_mul, Nat.mul_comm s p, ← Nat.mul_assoc, Nat.mul_comm s 2]
      omega
    rw [ey, Int.neg_mul, Int.one_mul, ← Int.sub_eq_add_neg]
    grind
theorem keeps_all {r : Int} {n a : Nat} (xs : List Int) (hl : xs.length = n) (hn : n = 2 ^ a) (h1 : fm (r ^ n) = 1) (h2 : 0 < a → fm (r ^ (n / 2)) = fm (-1)) : ∀ j, j ≤ a → Keeps r xs (passes xs (powl r n) n j) (tw j) (tw (a - j))
  | 0, _ => by
    have e : tw (a - 0) = n := hn.symm
    rw [e, tw_zero]
    exact keeps_start r xs n hl
  | j + 1, hj => by
    have i := keeps_all xs hl hn h1 h2 j (by omega)
    obtain ⟨_, e2⟩ := tw_lt (show j < a by omega)
    have e3 : tw (a - j) = 2 * tw (a - (j + 1)) := by
      rw [show a - j = (a - (j + 1)) + 1 by omega, tw_succ, Nat.mul_comm]
    have e4 : tw (j + 1) = 2 * tw j := by rw [tw_succ, Nat.mul_comm]
    rw [e3] at i
    rw [e4, passes_succ]
    refine keeps_step xs _ (tw j) (tw (a - (j + 1))) ?_ (tw_pos _) (tw_pos _) h1 (h2 (by omega)) i
    rw [show a - (j + 1) = a - j - 1 by omega, e2]
    exact hn.symm
theorem passes_fm (xs ws : List Int) (n j k : Nat) (hl : xs.length = n) (hk : k < n) : fm ((passes xs ws n j).getD k 0) = (passes xs ws n j).getD k 0 := by
  cases j with
  | zero => show fm ((redl xs).getD k 0) = (redl xs).getD k 0; rw [redl_at xs k (by omega), fm_fm]
  | succ j => rw [passes_succ, passl_at _ _ _ _ _ hk]; exact fm_small _ (pk_lo _ _ _ _ _) (pk_hi _ _ _ _ _)
theorem stockham {r : Int} {n a : Nat} (xs : List Int) (hl : xs.length = n) (hn : n = 2 ^ a) (h1 : fm (r ^ n) = 1) (h2 : 0 < a → fm (r ^ (n / 2)) = fm (-1)) : passes xs (powl r n) n a = horl r xs n := by
  apply getD_ext (by rw [passes_len _ _ _ _ hl, horl_len])
  intro k hk
  rw [passes_len _ _ _ _ hl] at hk
  have e : tw a = n := hn.symm
  have kk := keeps_all xs hl hn h1 h2 a (Nat.le_refl _) k 0 (by rw [e]; exact hk) (tw_pos _)
  have e2 : tw (a - a) = 1 := by rw [Nat.sub_self]; rfl
  rw [e2, e, Nat.mul_zero, Nat.mul_one, Nat.add_zero, Int.pow_zero] at kk
  rw [horl_at _ _ _ _ hk, hor_fm, hor_ps, ps_ssum xs _ n hl, ← kk, ← passes_fm xs _ n a k hl hk]
  show fm _ = fm (0 + (passes xs (powl r n) n a).getD (k + n * 0) 0 * (1 : Int) ^ 0)
  rw [Nat.mul_zero, Nat.add_zero, Int.pow_zero, Int.mul_one, Int.zero_add]
/-- Half of the order: -1. -/
theorem half_root {r : Int} {n : Nat} (h1 : fm (r ^ n) = 1) (ho : ∀ m, 0 < m → m < n → fm (r ^ m) ≠ 1) (he : n % 2 = 0) (hn : 0 < n) : fm (r ^ (n / 2)) = fm (-1) := by
  have hu := ho (n / 2) (by omega) (by omega)
  have h2 : fm (r ^ (n / 2) * r ^ (n / 2)) = 1 := by
    rw [← Int.pow_add, show n / 2 + n / 2 = n by omega, h1]
  generalize r ^ (n / 2) = u at *
  have h3 : fm ((u - 1) * (u + 1)) = 0 := by
    have : (u - 1) * (u + 1) = u * u - 1 := by grind
    rw [this, ← fm_sub_l, h2]; rfl
  have h4 : fm (u - 1) ≠ 0 := by
    intro e
    apply hu
    have : fm u = fm (fm (u - 1) + 1) := by rw [fm_add_l]; congr 1; omega
    rw [this, e]; rfl
  have h5 := fm_zero_of_mul h3 h4
  have : fm u = fm (fm (u + 1) + (-1)) := by rw [fm_add_l]; congr 1; omega
  rw [this, h5, Int.zero_add]
end Go.Proofs.Ytcfmiflhhjoofaa
/- DftBack: what was transformed is undone; twice there is backwards. -/
namespace Go.Proofs.Ytcfmiflhhjoofaa
open Go.ChangeShapes Go.WideShapes Go.ChangeAt Go.RowKit
set_option linter.unusedVariables false
namespace dftBack
open rootTells
theorem inv2_rt (n : Nat) (hh : hasb n = true) : Inv2 (rt n) (finv (rt n)) n := by
  obtain ⟨a, b, c⟩ := hasb_dvd hh
  have h1 := rt_one_pow hh
  rw [Int.toNat_natCast] at h1
  have hrs := rt_inv hh
  have hsn : fm (finv (rt n) ^ n) = 1 := by
    have := pow_one_of hrs n
    rw [Int.mul_pow, ← fm_mul_l, h1, Int.one_mul] at this
    exact this
  have hd : n ∣ 18446744069414584320 := by
    have := Int.dvd_of_emod_eq_zero c
    exact Int.ofNat_dvd.1 (show ((n : Nat) : Int) ∣ ((18446744069414584320 : Nat) : Int) from this)
  refine ⟨h1, hsn, hrs, fun m m0 m1 => order_least (by omega) hd h1 ?_ m0 m1⟩
  intro q hq hqn
  have L := rt_least hh
  rcases hq with rfl | rfl | rfl | rfl | rfl | rfl
  · have := L 0 (by omega) (show (n : Int) % 2 = 0 by omega)
    rwa [show ((n : Int) / qsl.getD 0 0).toNat = n / 2 from by show ((n : Int) / 2).toNat = n / 2; omega] at this
  · have := L 1 (by omega) (show (n : Int) % 3 = 0 by omega)
    rwa [show ((n : Int) / qsl.getD 1 0).toNat = n / 3 from by show ((n : Int) / 3).toNat = n / 3; omega] at this
  · have := L 2 (by omega) (show (n : Int) % 5 = 0 by omega)
    rwa [show ((n : Int) / qsl.getD 2 0).toNat = n / 5 from by show ((n : Int) / 5).toNat = n / 5; omega] at this
  · have := L 3 (by omega) (show (n : Int) % 17 = 0 by omega)
    rwa [show ((n : Int) / qsl.getD 3 0).toNat = n / 17 from by show ((n : Int) / 17).toNat = n / 17; omega] at this
  · have := L 4 (by omega) (show (n : Int) % 257 = 0 by omega)
    rwa [show ((n : Int) / qsl.getD 4 0).toNat = n / 257 from by show ((n : Int) / 257).toNat = n / 257; omega] at this
  · have := L 5 (by omega) (show (n : Int) % 65537 = 0 by omega)
    rwa [show ((n : Int) / qsl.getD 5 0).toNat = n / 65537 from by show ((n : Int) / 65537).toNat = n / 65537; omega] at this
theorem inv2_dir (n : Nat) (d : Int) (hc : chk n d = 0) : Inv2 (rdir n d) (rdir n (1 - d)) n := by
  obtain ⟨hd, hh, _⟩ := chk_ok hc
  rcases hd with rfl | rfl
  · exact inv2_rt n hh
  · exact (inv2_rt n hh).symm
theorem inv_len (n : Nat) (h0 : 1 ≤ n) (h1 : n ≤ 4096) : fm (finv n * n) = 1 := Fld.inv_mul n (by
  have : fm (n : Int) = n := Int.emod_eq_of_lt (by omega) (by omega)
  rw [this]; omega)
theorem undone {r s : Int} {n : Nat} (h : Inv2 r s n) (xs : List Int) (hl : xs.length = n) (h0 : 1 ≤ n) (h1 : n ≤ 4096) : scl (finv n) (horl s (horl r xs n) n) = redl xs := by
  apply getD_ext (by rw [scl_len, horl_len, redl_len, hl])
  intro k hk
  rw [scl_len, horl_len] at hk
  rw [scl_at _ _ k (by rw [horl_len]; exact hk), h.at xs hl k hk, redl_at xs k (by omega), fm_mul_r, ← Int.mul_assoc, ← fm_mul_l, inv_len n h0 h1, Int.one_mul]
theorem redone {r s : Int} {n : Nat} (h : Inv2 r s n) (xs : List Int) (hl : xs.length = n) (h0 : 1 ≤ n) (h1 : n ≤ 4096) : horl r (scl (finv n) (horl s xs n)) n = redl xs := by
  rw [horl_scl, undone h.symm xs hl h0 h1]
theorem twiced {r s : Int} {n : Nat} (h : Inv2 r s n) (xs : List Int) (hl : xs.length = n) : horl r (horl r xs n) n = scl n (revl xs) := by
  apply getD_ext (by rw [horl_len, scl_len, revl_len, hl])
  intro k hk
  rw [horl_len] at hk
  rw [h.twice xs hl k hk, scl_at _ _ k (by rw [revl_len, hl]; exact hk), revl_at xs k (by omega), fm_mul_r, hl]

end dftBack
end Go.Proofs.Ytcfmiflhhjoofaa
