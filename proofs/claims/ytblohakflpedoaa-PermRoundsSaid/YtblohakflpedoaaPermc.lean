/- Orders of places: each number once; coprime numbers: plain numbers, no Go text. -/
import Derived.Test.YtblohakflpedoaaPermm
namespace Go.Proofs.Ytblohakflpedoaa
open Go.ChangeShapes Go.WideShapes Go.ChangeAt Go.RowKit
set_option linter.unusedVariables false
/-- How often v stands among the first k. -/
def cnt (ps : List Int) (v : Int) : Nat → Nat
  | 0 => 0
  | k + 1 => if ps.getD k 0 = v then cnt ps v k + 1 else cnt ps v k
theorem cnt_le (ps : List Int) (v : Int) : ∀ k, cnt ps v k ≤ k
  | 0 => Nat.le_refl _
  | k + 1 => by have := cnt_le ps v k; rw [cnt]; split <;> omega
def sumf (f : Nat → Nat) : Nat → Nat
  | 0 => 0
  | n + 1 => sumf f n + f n
theorem sumf_zero (n : Nat) : sumf (fun _ => 0) n = 0 := by
  induction n with
  | zero => rfl
  | succ n ih => rw [sumf, ih]
theorem sumf_congr {f g : Nat → Nat} : ∀ n, (∀ v, v < n → f v = g v) → sumf f n = sumf g n
  | 0, _ => rfl
  | n + 1, h => by rw [sumf, sumf, sumf_congr n (fun v hv => h v (by omega)), h n (by omega)]
theorem sumf_add (f g : Nat → Nat) : ∀ n, sumf (fun v => f v + g v) n = sumf f n + sumf g n
  | 0 => rfl
  | n + 1 => by rw [sumf, sumf, sumf, sumf_add f g n]; omega
theorem sumf_one (x : Int) : ∀ n : Nat, sumf (fun v => if x = (v : Int) then 1 else 0) n = if 0 ≤ x ∧ x < n then 1 else 0
  | 0 => by rw [if_neg (by omega)]; rfl
  | n + 1 => by
    rw [sumf, sumf_one x n]
    by_cases e : x = (n : Int)
    · rw [if_pos e, if_neg (by omega), if_pos (by omega)]
    · rw [if_neg e]
      by_cases h : 0 ≤ x ∧ x < n
      · rw [if_pos h, if_pos (by omega)]
      · rw [if_neg h, if_neg (by omega)]
/-- How many of the first k places are within n. -/
def inn (ps : List Int) (n : Nat) : Nat → Nat
  | 0 => 0
  | k + 1 => inn ps n k + if 0 ≤ ps.getD k 0 ∧ ps.getD k 0 < n then 1 else 0
theorem cnt_sum (ps : List Int) (n : Nat) : ∀ k, sumf (fun v => cnt ps v k) n = inn ps n k
  | 0 => sumf_zero n
  | k + 1 => by
    rw [inn, ← cnt_sum ps n k, ← sumf_one (ps.getD k 0) n, ← sumf_add]
    apply sumf_congr
    intro v _
    rw [cnt]
    split <;> rfl
theorem inn_le (ps : List Int) (n : Nat) : ∀ k, inn ps n k ≤ k
  | 0 => Nat.le_refl _
  | k + 1 => by have := inn_le ps n k; rw [inn]; split <;> omega
theorem inn_full {ps : List Int} {n : Nat} : ∀ {k : Nat}, inn ps n k = k → ∀ j, j < k → 0 ≤ ps.getD j 0 ∧ ps.getD j 0 < n
  | k + 1, h, j, hj => by
    have := inn_le ps n k
    rw [inn] at h
    by_cases e : 0 ≤ ps.getD k 0 ∧ ps.getD k 0 < n
    · rw [if_pos e] at h
      by_cases e2 : j = k
      · rw [e2]; exact e
      · exact inn_full (k := k) (by omega) j (by omega)
    · rw [if_neg e] at h; omega
theorem inn_all {ps : List Int} {n : Nat} : ∀ {k : Nat}, (∀ j, j < k → 0 ≤ ps.getD j 0 ∧ ps.getD j 0 < n) → inn ps n k = k
  | 0, _ => rfl
  | k + 1, h => by rw [inn, inn_all (fun j hj => h j (by omega)), if_pos (h k (by omega))]
theorem sumf_ones {f : Nat → Nat} : ∀ {n : Nat}, (∀ v, v < n → f v = 1) → sumf f n = n
  | 0, _ => rfl
  | n + 1, h => by rw [sumf, sumf_ones (fun v hv => h v (by omega)), h n (by omega)]
theorem sumf_le {f : Nat → Nat} : ∀ {n : Nat}, (∀ v, v < n → f v ≤ 1) → sumf f n ≤ n
  | 0, _ => Nat.le_refl _
  | n + 1, h => by have := sumf_le (f := f) (n := n) (fun v hv => h v (by omega)); have := h n (by omega); rw [sumf]; omega
theorem sumf_tight {f : Nat → Nat} : ∀ {n : Nat}, (∀ v, v < n → f v ≤ 1) → sumf f n = n → ∀ v, v < n → f v = 1
  | n + 1, h, e, v, hv => by
    have h1 := sumf_le (f := f) (n := n) (fun v hv => h v (by omega))
    have h2 := h n (by omega)
    rw [sumf] at e
    by_cases e2 : v = n
    · rw [e2]; omega
    · exact sumf_tight (f := f) (n := n) (fun v hv => h v (by omega)) (by omega) v (by omega)
theorem cnt_pos {ps : List Int} {v : Int} : ∀ {k j : Nat}, j < k → ps.getD j 0 = v → 1 ≤ cnt ps v k
  | k + 1, j, hj, e => by
    rw [cnt]
    by_cases h : ps.getD k 0 = v
    · rw [if_pos h]; omega
    · rw [if_neg h]
      by_cases e2 : j = k
      · rw [e2] at e; exact absurd e h
      · exact cnt_pos (k := k) (j := j) (by omega) e
theorem cnt_two {ps : List Int} {v : Int} : ∀ {k i j : Nat}, i < j → j < k → ps.getD i 0 = v → ps.getD j 0 = v → 2 ≤ cnt ps v k
  | k + 1, i, j, hij, hj, e1, e2 => by
    rw [cnt]
    by_cases h : ps.getD k 0 = v
    · rw [if_pos h]
      have := cnt_pos (k := k) (j := i) (by omega) e1
      omega
    · rw [if_neg h]
      by_cases e3 : j = k
      · rw [e3] at e2; exact absurd e2 h
      · exact cnt_two (k := k) hij (by omega) e1 e2
theorem cnt_once {ps : List Int} {v : Int} : ∀ {k : Nat}, (∀ i j, i < j → j < k → ps.getD i 0 ≠ ps.getD j 0) → cnt ps v k ≤ 1
  | 0, _ => by simp [cnt]
  | k + 1, h => by
    rw [cnt]
    by_cases e : ps.getD k 0 = v
    · rw [if_pos e]
      have : cnt ps v k = 0 := by
        cases hz : cnt ps v k with
        | zero => rfl
        | succ m =>
          exfalso
          have : ∀ k, (∀ j, j < k → ps.getD j 0 ≠ v) → cnt ps v k = 0 := by
            intro k
            induction k with
            | zero => intro _; rfl
            | succ k ih => intro hh; rw [cnt, if_neg (hh k (by omega))]; exact ih (fun j hj => hh j (by omega))
          rw [this k (fun j hj e2 => h j k hj (by omega) (by rw [e2, e]))] at hz
          cases hz
      omega
    · rw [if_neg e]
      exact cnt_once (fun i j hi hj => h i j hi (by omega))
theorem rgt_apart {ps : List Int} {n : Nat} : ∀ {k : Nat}, rgt ps n k = true → ∀ i j, i < j → j < k → ps.getD i 0 ≠ ps.getD j 0
  | k + 1, h, i, j, hi, hj => by
    rw [rgt] at h
    simp only [Bool.and_eq_true, Bool.not_eq_true'] at h
    by_cases e : j = k
    · rw [e]
      exact sb_no h.2.2 i (by omega)
    · exact rgt_apart h.1 i j hi (by omega)
/-- An order has each number once, and what has each once is an order. -/
theorem rgt_cnt (ps : List Int) (n : Nat) : rgt ps n n = true ↔ ∀ v, v < n → cnt ps v n = 1 := by
  constructor
  · intro h
    exact sumf_tight (f := fun v => cnt ps v n) (fun v _ => cnt_once (rgt_apart h)) (by rw [cnt_sum, inn_all (rgt_in h)])
  · intro h
    have hin := inn_full (ps := ps) (n := n) (k := n) (by rw [← cnt_sum]; exact sumf_ones h)
    apply rgt_of hin
    intro i j hij hj e
    have h1 := hin j hj
    obtain ⟨v, hv⟩ : ∃ v : Nat, ps.getD j 0 = v := ⟨(ps.getD j 0).toNat, by omega⟩
    have := cnt_two (v := (v : Int)) (k := n) hij hj (by rw [e, hv]) hv
    rw [h v (by omega)] at this
    omega
theorem mod_dvd {a x y : Nat} (hle : x ≤ y) (h : x % a = y % a) : a ∣ y - x := by
  have h1 := Nat.div_add_mod x a
  have h2 := Nat.div_add_mod y a
  refine ⟨y / a - x / a, ?_⟩
  rw [Nat.mul_sub]
  omega
theorem crt_uniq {a b x y : Nat} (hc : Nat.gcd a b = 1) (hx : x < a * b) (hy : y < a * b) (h1 : x % a = y % a) (h2 : x % b = y % b) : x = y := by
  have key : ∀ x y : Nat, x ≤ y → y < a * b → x % a = y % a → x % b = y % b → x = y := by
    intro x y hle hy h1 h2
    have d1 : a ∣ y - x := mod_dvd hle h1
    have d2 : b ∣ y - x := mod_dvd hle h2
    have d := Nat.Coprime.mul_dvd_of_dvd_of_dvd hc d1 d2
    by_cases e : y - x = 0
    · omega
    · have := Nat.le_of_dvd (by omega) d
      omega
  rcases Nat.le_total x y with h | h
  · exact key x y h hy h1 h2
  · exact (key y x h hx h1.symm h2.symm).symm
end Go.Proofs.Ytblohakflpedoaa
