/- Orders of places: plain numbers, no Go text. -/
import Derived.Test.YtblohakflpedoaaRowset
namespace Go.Proofs.Ytblohakflpedoaa
open Go.ChangeShapes Go.WideShapes Go.ChangeAt Go.RowKit
set_option linter.unusedVariables false
/-- Does v stand among the first k? -/
def sb (ps : List Int) (v : Int) : Nat → Bool
  | 0 => false
  | k + 1 => sb ps v k || (ps.getD k 0 == v)
theorem sb_yes {ps : List Int} {v : Int} : ∀ {k : Nat}, sb ps v k = true → ∃ j, j < k ∧ ps.getD j 0 = v
  | k + 1, h => by
    rw [sb, Bool.or_eq_true] at h
    rcases h with h | h
    · obtain ⟨j, hj, e⟩ := sb_yes h; exact ⟨j, by omega, e⟩
    · exact ⟨k, by omega, by simpa using h⟩
theorem sb_no {ps : List Int} {v : Int} : ∀ {k : Nat}, sb ps v k = false → ∀ j, j < k → ps.getD j 0 ≠ v
  | k + 1, h, j, hj => by
    rw [sb, Bool.or_eq_false_iff] at h
    by_cases e : j = k
    · rw [e]; simpa using h.2
    · exact sb_no h.1 j (by omega)
theorem sb_of {ps : List Int} {v : Int} {k : Nat} (h : ∀ j, j < k → ps.getD j 0 ≠ v) : sb ps v k = false := by
  cases e : sb ps v k with
  | false => rfl
  | true => obtain ⟨j, hj, e2⟩ := sb_yes e; exact absurd e2 (h j hj)
/-- Are the first k places within n, each once? -/
def rgt (ps : List Int) (n : Nat) : Nat → Bool
  | 0 => true
  | k + 1 => rgt ps n k && (decide (0 ≤ ps.getD k 0) && decide (ps.getD k 0 < n) && !sb ps (ps.getD k 0) k)
theorem rgt_of {ps : List Int} {n : Nat} : ∀ {k : Nat}, (∀ j, j < k → 0 ≤ ps.getD j 0 ∧ ps.getD j 0 < n) → (∀ i j, i < j → j < k → ps.getD i 0 ≠ ps.getD j 0) → rgt ps n k = true
  | 0, _, _ => rfl
  | k + 1, h1, h2 => by
    rw [rgt, rgt_of (fun j hj => h1 j (by omega)) (fun i j hi hj => h2 i j hi (by omega)), decide_eq_true (h1 k (by omega)).1, decide_eq_true (h1 k (by omega)).2, sb_of (fun j hj => h2 j k hj (by omega))]
    rfl
theorem rgt_in {ps : List Int} {n : Nat} : ∀ {k : Nat}, rgt ps n k = true → ∀ j, j < k → 0 ≤ ps.getD j 0 ∧ ps.getD j 0 < n
  | k + 1, h, j, hj => by
    rw [rgt] at h
    simp only [Bool.and_eq_true, decide_eq_true_eq] at h
    by_cases e : j = k
    · rw [e]; exact ⟨h.2.1.1, h.2.1.2⟩
    · exact rgt_in h.1 j (by omega)
theorem rgt_less {ps : List Int} {n : Nat} : ∀ {k : Nat} (d : Nat), rgt ps n (k + d) = true → rgt ps n k = true
  | _, 0, h => h
  | k, d + 1, h => by
    rw [← Nat.add_assoc, rgt, Bool.and_eq_true] at h
    exact rgt_less d h.1
theorem rgt_false {ps : List Int} {n k m : Nat} (h : rgt ps n k = false) (hk : k ≤ m) : rgt ps n m = false := by
  cases e : rgt ps n m with
  | false => rfl
  | true =>
    have := rgt_less (k := k) (m - k) (by rw [show k + (m - k) = m by omega]; exact e)
    rw [h] at this; cases this
/-- Which of the first k places holds v. -/
def invl (ps : List Int) (v : Int) : Nat → Nat
  | 0 => 0
  | k + 1 => if ps.getD k 0 = v then k else invl ps v k
theorem invl_at {ps : List Int} {v : Int} {k : Nat} (h : ps.getD k 0 = v) : ∀ n, k < n → (∀ j, k < j → j < n → ps.getD j 0 ≠ v) → invl ps v n = k
  | n + 1, hk, hj => by
    rw [invl]
    by_cases e : k = n
    · rw [← e, if_pos h]
    · rw [if_neg (hj n (by omega) (by omega))]
      exact invl_at h n (by omega) (fun j h1 h2 => hj j h1 (by omega))
def inverl (ps : List Int) (n : Nat) : List Int := tab n fun v => ((invl ps v n : Nat) : Int)
/-- A table read by columns. -/
def strn (a b k : Nat) : Nat := k % a * b + k / a
def strl (a b : Nat) : List Int := tab (a * b) fun k => ((strn a b k : Nat) : Int)
theorem strl_len (a b : Nat) : (strl a b).length = a * b := tab_len _ _
theorem strl_at (a b k : Nat) (h : k < a * b) : (strl a b).getD k 0 = ((strn a b k : Nat) : Int) := tab_at (a * b) (fun k => ((strn a b k : Nat) : Int)) k h
theorem strn_parts {a b k : Nat} (h : k < a * b) : k / a < b ∧ strn a b k / b = k % a ∧ strn a b k % b = k / a ∧ strn a b k < a * b := by
  have ha : 0 < a := Nat.pos_of_ne_zero fun e => by subst e; simp at h
  have h1 : k / a < b := Nat.div_lt_of_lt_mul h
  have hb : 0 < b := Nat.lt_of_le_of_lt (Nat.zero_le _) h1
  have h2 : k % a < a := Nat.mod_lt _ ha
  refine ⟨h1, ?_, ?_, ?_⟩
  · unfold strn; rw [Nat.mul_comm, Nat.mul_add_div hb, Nat.div_eq_of_lt h1, Nat.add_zero]
  · unfold strn; rw [Nat.mul_comm, Nat.mul_add_mod, Nat.mod_eq_of_lt h1]
  · unfold strn
    have := Nat.mul_le_mul_right b (show k % a + 1 ≤ a from h2)
    rw [Nat.succ_mul] at this
    omega
theorem strn_inj {a b i j : Nat} (hi : i < a * b) (hj : j < a * b) (h : strn a b i = strn a b j) : i = j := by
  obtain ⟨_, p1, p2, _⟩ := strn_parts hi
  obtain ⟨_, q1, q2, _⟩ := strn_parts hj
  rw [h] at p1 p2
  rw [← Nat.div_add_mod i a, ← Nat.div_add_mod j a, ← p1, ← p2, q1, q2]
theorem strl_right (a b : Nat) : rgt (strl a b) (a * b) (a * b) = true := by
  apply rgt_of
  · intro j hj
    rw [strl_at a b j hj]
    have := (strn_parts hj).2.2.2
    omega
  · intro i j hij hj e
    rw [strl_at a b i (by omega), strl_at a b j hj] at e
    have := strn_inj (by omega) hj (Int.ofNat_inj.1 e)
    omega
theorem strn_back {a b v : Nat} (h : v < a * b) : strn b a v < a * b ∧ strn a b (strn b a v) = v := by
  have h' : v < b * a := by rw [Nat.mul_comm]; exact h
  obtain ⟨p1, p2, p3, p4⟩ := strn_parts h'
  refine ⟨by rw [Nat.mul_comm]; exact p4, ?_⟩
  show strn b a v % a * b + strn b a v / a = v
  rw [p2, p3, Nat.mul_comm, Nat.div_add_mod]
/-- The other table is the inverse. -/
theorem strl_inv (a b : Nat) : inverl (strl a b) (a * b) = strl b a := by
  unfold inverl
  have : strl b a = tab (a * b) fun k => ((strn b a k : Nat) : Int) := by unfold strl; rw [Nat.mul_comm]
  rw [this]
  apply tab_congr
  intro v hv
  obtain ⟨h1, h2⟩ := strn_back hv
  rw [invl_at (k := strn b a v) (by rw [strl_at a b _ h1, h2]) (a * b) h1]
  intro j hj1 hj2 e
  rw [strl_at a b j hj2] at e
  have := strn_inj hj2 h1 (by rw [h2]; exact Int.ofNat_inj.1 e)
  omega
end Go.Proofs.Ytblohakflpedoaa
