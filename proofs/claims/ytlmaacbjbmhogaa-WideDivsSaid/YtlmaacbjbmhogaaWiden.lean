/- Places to either side, and how many bits: numbers. -/
import Derived.Test.YtlmaacbjbmhogaaBase
import Derived.Lib.BitFns
namespace Go.Proofs.Ytlmaacbjbmhogaa
open Go.ChangeShapes Go.WideShapes Go.ChangeAt Go.RowKit
set_option linter.unusedVariables false
/-- How many bits, of those below place j. -/
def lenTo (a : Nat) : Nat → Nat
  | 0 => 0
  | j + 1 => if a / 2 ^ j % 2 = 1 then j + 1 else lenTo a j
theorem lenTo_le (a : Nat) : ∀ j, lenTo a j ≤ j
  | 0 => Nat.le_refl _
  | j + 1 => by rw [lenTo]; split <;> (have := lenTo_le a j; omega)
theorem lenTo_zero : ∀ j, lenTo 0 j = 0
  | 0 => rfl
  | j + 1 => by rw [lenTo, if_neg (by simp), lenTo_zero j]
theorem lenTo_log (a k : Nat) (h1 : 2 ^ k ≤ a) (h2 : a < 2 ^ (k + 1)) : ∀ j, k < j → lenTo a j = k + 1
  | 0, h => by omega
  | j + 1, h => by
    rw [lenTo]
    by_cases e : j = k
    · subst e
      have : a / 2 ^ j = 1 := by
        have p := Nat.pow_pos (n := j) (show 0 < 2 by omega)
        rw [Nat.pow_succ] at h2
        exact Nat.div_eq_of_lt_le (by omega) (by omega)
      rw [this, if_pos rfl]
    · have : a / 2 ^ j = 0 := Nat.div_eq_of_lt (Nat.lt_of_lt_of_le h2 (Nat.pow_le_pow_right (by omega) (by omega)))
      rw [this, if_neg (by omega)]
      exact lenTo_log a k h1 h2 j (by omega)
theorem bitLen_log (x k : Nat) (h1 : 2 ^ k ≤ x) (h2 : x < 2 ^ (k + 1)) (hx : x < 18446744073709551616) : Lib.bitLen x = k + 1 := by
  have : x / 2 ^ k = 1 := by
    have p := Nat.pow_pos (n := k) (show 0 < 2 by omega)
    rw [Nat.pow_succ] at h2
    exact Nat.div_eq_of_lt_le (by omega) (by omega)
  rw [Lib.bitLen_shift k x h1 hx, this]; rfl
theorem len_two (h l M : Nat) (hM : M = 2 ^ 64) (hh : h < M) (hl : l < M) (hM2 : M = 18446744073709551616) : lenTo (h * M + l) 128 = if h = 0 then Lib.bitLen l else 64 + Lib.bitLen h := by
  have bl := fun x k a1 a2 hx => bitLen_log x k a1 a2 (hM2 ▸ hx)
  clear hM2
  by_cases h0 : h = 0
  · subst h0
    rw [if_pos rfl, Nat.zero_mul, Nat.zero_add]
    by_cases l0 : l = 0
    · subst l0; rw [lenTo_zero]; rfl
    · have a1 := Nat.log2_self_le l0
      have a2 := Nat.lt_log2_self (n := l)
      have hk : l.log2 < 64 := (Nat.pow_lt_pow_iff_right (a := 2) (by omega)).1 (Nat.lt_of_le_of_lt a1 (by rw [← hM]; exact hl))
      rw [lenTo_log l l.log2 a1 a2 128 (by omega), bl l l.log2 a1 a2 hl]
  · rw [if_neg h0]
    have a1 := Nat.log2_self_le h0
    have a2 := Nat.lt_log2_self (n := h)
    have hk : h.log2 < 64 := (Nat.pow_lt_pow_iff_right (a := 2) (by omega)).1 (Nat.lt_of_le_of_lt a1 (by rw [← hM]; exact hh))
    have b1 : 2 ^ (h.log2 + 64) ≤ h * M + l := by
      rw [Nat.pow_add, ← hM]
      exact Nat.le_trans (Nat.mul_le_mul_right M a1) (Nat.le_add_right _ _)
    have b2 : h * M + l < 2 ^ (h.log2 + 64 + 1) := by
      rw [show h.log2 + 64 + 1 = h.log2 + 1 + 64 by omega, Nat.pow_add, ← hM]
      have := Nat.mul_le_mul_right M (show h + 1 ≤ 2 ^ (h.log2 + 1) from a2)
      rw [Nat.add_mul, Nat.one_mul] at this
      omega
    rw [lenTo_log _ _ b1 b2 128 (by omega), bl h h.log2 a1 a2 hh]; omega
/-- A row of bits at a higher place, and one below. -/
theorem or_parts (n x y : Nat) (hy : y < 2 ^ n) : (2 ^ n * x) ||| y = 2 ^ n * x + y := (Nat.two_pow_add_eq_or_of_lt hy x).symm
theorem two_split (n : Nat) (hn : n ≤ 64) (M : Nat) (hM : M = 2 ^ 64) : M = 2 ^ n * 2 ^ (64 - n) := by rw [hM, ← Nat.pow_add, show n + (64 - n) = 64 by omega]
/-- Shifted by n places to the left, of n up to 64, modulo 2^64. -/
theorem shl_mod (h n M : Nat) (hM : M = 2 ^ 64) (hn : n ≤ 64) : h * 2 ^ n % M = 2 ^ n * (h % 2 ^ (64 - n)) := by
  rw [two_split n hn M hM, Nat.mul_comm h, Nat.mul_mod_mul_left]
theorem shr_lt (l n M : Nat) (hM : M = 2 ^ 64) (hn : n ≤ 64) (hl : l < M) : l / 2 ^ (64 - n) < 2 ^ n :=
  (Nat.div_lt_iff_lt_mul (Nat.pow_pos (by omega))).2 (by rw [← two_split n hn M hM]; exact hl)
/-- To the left by less than 64 places. -/
theorem left_low (h l n M : Nat) (hM : M = 2 ^ 64) (hn : n < 64) (hl : l < M) :
    (h * 2 ^ n % M + l / 2 ^ (64 - n)) * M + l * 2 ^ n % M = (h * M + l) * 2 ^ n % (M * M) := by
  have p := two_split n (by omega) M hM
  have pp := Nat.pow_pos (n := n) (show 0 < 2 by omega)
  have M0 : 0 < M := by rw [hM]; exact Nat.pow_pos (by omega)
  have e1 : l / 2 ^ (64 - n) = l * 2 ^ n / M := by
    conv => rhs; rw [p, Nat.mul_comm l]
    rw [Nat.mul_div_mul_left _ _ pp]
  have e2 := shr_lt l n M hM (by omega) hl
  have h3 := shl_mod h n M hM (by omega)
  have e4 : h * 2 ^ n % M + 2 ^ n ≤ M := by
    have : h % 2 ^ (64 - n) + 1 ≤ 2 ^ (64 - n) := Nat.mod_lt _ (Nat.pow_pos (by omega))
    have := Nat.mul_le_mul_left (2 ^ n) this
    rw [← p, Nat.mul_add, Nat.mul_one] at this
    rw [h3]; exact this
  have e5 : (h * M + l) * 2 ^ n = h * 2 ^ n * M + l * 2 ^ n := by rw [Nat.add_mul, Nat.mul_right_comm]
  rw [e5]
  rw [e1] at e2 ⊢
  generalize h * 2 ^ n = H at *
  generalize l * 2 ^ n = L at *
  generalize (2 : Nat) ^ n = q at *
  clear e5 h3 p e1 hM
  have d1 := Nat.div_add_mod L M
  have d2 := Nat.div_add_mod H M
  have hlt : (H % M + L / M) * M + L % M < M * M := by
    have h1 : H % M + L / M + 1 ≤ M := by omega
    have := Nat.mul_le_mul_right M h1
    rw [Nat.add_mul, Nat.one_mul] at this
    have := Nat.mod_lt L M0
    omega
  have heq : H * M + L = (H % M + L / M) * M + L % M + M * M * (H / M) := by
    conv => lhs; rw [← d1, ← d2]
    simp only [Nat.add_mul, Nat.mul_assoc]
    rw [Nat.mul_comm (H / M) M, Nat.mul_comm (L / M) M]
    omega
  rw [heq, Nat.add_mul_mod_self_left, Nat.mod_eq_of_lt hlt]
theorem left_high (h l m M : Nat) (hM : M = 2 ^ 64) : l * 2 ^ m % M * M = (h * M + l) * 2 ^ (m + 64) % (M * M) := by
  rw [Nat.pow_add, ← hM, ← Nat.mul_assoc, Nat.add_mul, Nat.mul_right_comm h, Nat.add_mul, Nat.mul_assoc (h * 2 ^ m), Nat.add_comm, Nat.add_mul_mod_self_right, Nat.mul_mod_mul_right]
/-- To the right by less than 64 places. -/
theorem right_low (h l m M : Nat) (hM : M = 2 ^ 64) (hm : m ≤ 64) :
    h / 2 ^ m * M + (l / 2 ^ m + h * 2 ^ (64 - m) % M) = (h * M + l) / 2 ^ m := by
  have p := two_split m hm M hM
  have pp := Nat.pow_pos (n := m) (show 0 < 2 by omega)
  have h3 := shl_mod h (64 - m) M hM (by omega)
  rw [show 64 - (64 - m) = m by omega] at h3
  rw [h3]
  have e := Nat.div_add_mod h (2 ^ m)
  have e2 : h * M + l = 2 ^ m * (h * 2 ^ (64 - m)) + l := by
    rw [p, Nat.mul_left_comm]
  rw [e2, Nat.mul_add_div pp]
  have e3 : h * 2 ^ (64 - m) = h / 2 ^ m * M + 2 ^ (64 - m) * (h % 2 ^ m) := by
    conv => lhs; rw [← e]
    rw [p, Nat.add_mul, Nat.mul_comm (2 ^ m) (h / 2 ^ m), Nat.mul_assoc, Nat.mul_comm (h % 2 ^ m)]
  rw [e3]
  omega
theorem right_high (h l m M : Nat) (hM : M = 2 ^ 64) (hl : l < M) : h / 2 ^ m = (h * M + l) / 2 ^ (m + 64) := by
  have M0 : 0 < M := by rw [hM]; exact Nat.pow_pos (by omega)
  rw [Nat.pow_add, ← hM, Nat.mul_comm (2 ^ m), ← Nat.div_div_eq_div_mul, Nat.mul_comm h, Nat.mul_add_div M0, Nat.div_eq_of_lt hl, Nat.add_zero]
end Go.Proofs.Ytlmaacbjbmhogaa
