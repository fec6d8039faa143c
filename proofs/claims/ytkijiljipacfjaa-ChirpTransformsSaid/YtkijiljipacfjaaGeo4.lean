/- Transformed and undone. Plain numbers: no Go text. -/
import Derived.Test.YtkijiljipacfjaaGeo3
import Derived.Test.YtkijiljipacfjaaDft2
import Derived.Test.YtkijiljipacfjaaOwnm
namespace Go.Proofs.Ytkijiljipacfjaa
open Go.ChangeShapes Go.WideShapes Go.ChangeAt Go.RowKit
set_option linter.unusedVariables false
/-- r and s: inverse roots of the order n. -/
structure Inv2 (r s : Int) (n : Nat) : Prop where
  rn : fm (r ^ n) = 1
  sn : fm (s ^ n) = 1
  rs : fm (r * s) = 1
  ro : ∀ m, 0 < m → m < n → fm (r ^ m) ≠ 1
theorem pow_one_of {a : Int} (h : fm a = 1) (k : Nat) : fm (a ^ k) = 1 := by rw [← Fld.fm_pow1, h, Int.one_pow]; rfl
theorem Inv2.pow {r s : Int} {n : Nat} (h : Inv2 r s n) (k : Nat) : fm (s ^ k * r ^ k) = 1 := by
  rw [← Int.mul_pow, Int.mul_comm]; exact pow_one_of h.rs k
theorem Inv2.so {r s : Int} {n : Nat} (h : Inv2 r s n) (m : Nat) (h0 : 0 < m) (h1 : m < n) : fm (s ^ m) ≠ 1 := by
  intro e
  apply h.ro m h0 h1
  have := h.pow m
  rw [← fm_mul_l, e, Int.one_mul] at this
  exact this
theorem Inv2.symm {r s : Int} {n : Nat} (h : Inv2 r s n) : Inv2 s r n := ⟨h.sn, h.rn, by rw [Int.mul_comm]; exact h.rs, h.so⟩
theorem mix_pow {a b : Int} {n : Nat} (ha : fm (a ^ n) = 1) (hb : fm (b ^ n) = 1) (k j : Nat) : fm ((a ^ k * b ^ j) ^ n) = 1 := by
  rw [Int.mul_pow, ← Int.pow_mul, ← Int.pow_mul, Nat.mul_comm k n, Nat.mul_comm j n, ← fm_mul_fm, one_mul_exp ha, one_mul_exp hb]
  rfl
theorem Inv2.at {r s : Int} {n : Nat} (h : Inv2 r s n) (xs : List Int) (hl : xs.length = n) (k : Nat) (hk : k < n) : (horl s (horl r xs n) n).getD k 0 = fm (n * xs.getD k 0) := by
  rw [twice_at r s xs n k hk]
  refine esum_at r n xs (s ^ k) k (by omega) (fun j _ => mix_pow h.sn h.rn k j) (fun j hj hne => ?_) (h.pow k)
  rw [hl] at hj
  by_cases hjk : k < j
  · have e : s ^ k * r ^ j = (s ^ k * r ^ k) * r ^ (j - k) := by rw [Int.mul_assoc, ← Int.pow_add]; congr 2; omega
    rw [e, ← fm_mul_l, h.pow k, Int.one_mul]
    exact h.ro _ (by omega) (by omega)
  · have e : s ^ k * r ^ j = (s ^ j * r ^ j) * s ^ (k - j) := by
      rw [show s ^ k = s ^ j * s ^ (k - j) by rw [← Int.pow_add]; congr 1; omega]; grind
    rw [e, ← fm_mul_l, h.pow j, Int.one_mul]
    exact h.so _ (by omega) (by omega)
theorem Inv2.twice {r s : Int} {n : Nat} (h : Inv2 r s n) (xs : List Int) (hl : xs.length = n) (k : Nat) (hk : k < n) : (horl r (horl r xs n) n).getD k 0 = fm (n * xs.getD ((n - k) % n) 0) := by
  rw [twice_at r r xs n k hk]
  have one : ∀ j, (k + j) % n = 0 → fm (r ^ k * r ^ j) = 1 := by
    intro j hj
    obtain ⟨q, hq⟩ := Nat.dvd_of_mod_eq_zero hj
    rw [← Int.pow_add, hq]
    exact one_mul_exp h.rn q
  have hb : (k + (n - k) % n) % n = 0 := by
    rw [Nat.add_mod_mod, show k + (n - k) = n by omega, Nat.mod_self]
  refine esum_at r n xs (r ^ k) ((n - k) % n) (by rw [hl]; exact Nat.mod_lt _ (by omega)) (fun j _ => mix_pow h.rn h.rn k j) (fun j hj hne => ?_) (one _ hb)
  rw [hl] at hj
  have hne2 : (k + j) % n ≠ 0 := by
    intro e
    apply hne
    by_cases h0 : k = 0
    · subst h0
      rw [Nat.zero_add, Nat.mod_eq_of_lt hj] at e
      rw [e, Nat.sub_zero, Nat.mod_self]
    · rw [Nat.mod_eq_of_lt (by omega : n - k < n)]
      by_cases hlt : k + j < n
      · rw [Nat.mod_eq_of_lt hlt] at e; omega
      · rw [Nat.mod_eq_sub_mod (by omega), Nat.mod_eq_of_lt (by omega)] at e; omega
  have e : r ^ k * r ^ j = r ^ (n * ((k + j) / n)) * r ^ ((k + j) % n) := by rw [← Int.pow_add, ← Int.pow_add, Nat.div_add_mod]
  rw [e, ← fm_mul_l, one_mul_exp h.rn, Int.one_mul]
  exact h.ro _ (by omega) (Nat.mod_lt _ (by omega))
theorem ps_scl (st v : Int) : ∀ xs : List Int, ps st (xs.map fun x => v * x) = v * ps st xs
  | [] => by simp [ps]
  | x :: r => by
    have e1 : ps st ((x :: r).map fun x => v * x) = v * x + st * ps st (r.map fun x => v * x) := rfl
    have e2 : ps st (x :: r) = x + st * ps st r := rfl
    rw [e1, e2, ps_scl st v r]
    grind
theorem horl_scl (r v : Int) (xs : List Int) (n : Nat) : horl r (scl v xs) n = scl v (horl r xs n) := by
  unfold horl scl
  rw [List.map_map]
  apply List.map_congr_left
  intro i _
  show hor (fm (r ^ i)) (xs.map fun x => fm (v * x)) = fm (v * hor (fm (r ^ i)) xs)
  rw [hor_ps, hor_ps, fm_mul_r, ← ps_scl]
  apply ps_congr rfl
  rw [List.map_map, List.map_map]
  apply List.map_congr_left
  intro x _
  exact fm_fm _
end Go.Proofs.Ytkijiljipacfjaa
