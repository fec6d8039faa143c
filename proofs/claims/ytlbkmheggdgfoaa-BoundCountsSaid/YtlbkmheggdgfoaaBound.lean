/- Package bound: turns of each client, and how long each one had none. -/
import Derived.Test.YtlbkmheggdgfoaaRowset
import Derived.StillTailTactics
namespace Go.Proofs.Ytlbkmheggdgfoaa
open Go.ChangeShapes Go.WideShapes Go.ChangeAt Go.RowKit
set_option linter.unusedVariables false
/-- The last place below k that is c's; -1: none. -/
def la (xs : List Int) (c : Int) : Nat → Int
  | 0 => -1
  | k + 1 => if xs.getD k 0 = c then k else la xs c k
theorem la_rng (xs : List Int) (c : Int) : ∀ k, -1 ≤ la xs c k ∧ la xs c k < k
  | 0 => by simp [la]
  | k + 1 => by
    have i := la_rng xs c k
    unfold la; split
    · omega
    · omega
def sp (xs : List Int) (c : Int) : Nat → Int
  | 0 => 0
  | k + 1 => if xs.getD k 0 = c then sp xs c k + 1 else sp xs c k
theorem sp_rng (xs : List Int) (c : Int) : ∀ k, 0 ≤ sp xs c k ∧ sp xs c k ≤ k
  | 0 => by simp [sp]
  | k + 1 => by
    have i := sp_rng xs c k
    unfold sp; split
    · omega
    · omega
def lo (xs : List Int) (c : Int) : Nat → Int
  | 0 => 0
  | k + 1 => if xs.getD k 0 = c then max (lo xs c k) (k - la xs c k - 1) else lo xs c k
theorem lo_rng (xs : List Int) (c : Int) : ∀ k, 0 ≤ lo xs c k ∧ lo xs c k ≤ k
  | 0 => by simp [lo]
  | k + 1 => by
    have i := lo_rng xs c k
    have j := la_rng xs c k
    unfold lo; split
    · omega
    · omega
/-- How many places there are, from k on, that are not c's. -/
def gp (xs : List Int) (c : Int) (n : Nat) : Nat → Nat → Int
  | 0, _ => 0
  | f + 1, k => if k < n then (if xs.getD k 0 = c then 0 else 1 + gp xs c n f (k + 1)) else 0
def gap (xs : List Int) (c : Int) (n k : Nat) : Int := gp xs c n (n - k) k
theorem gap_end (xs : List Int) (c : Int) (n k : Nat) (h : n ≤ k) : gap xs c n k = 0 := by
  unfold gap; rw [show n - k = 0 by omega]; rfl
theorem gap_hit (xs : List Int) (c : Int) (n k : Nat) (h : k < n) (e : xs.getD k 0 = c) : gap xs c n k = 0 := by
  unfold gap
  obtain ⟨f, hf⟩ : ∃ f, n - k = f + 1 := ⟨n - k - 1, by omega⟩
  rw [hf]; unfold gp; rw [if_pos h, if_pos e]
theorem gap_miss (xs : List Int) (c : Int) (n k : Nat) (h : k < n) (e : xs.getD k 0 ≠ c) : gap xs c n k = 1 + gap xs c n (k + 1) := by
  unfold gap
  obtain ⟨f, hf⟩ : ∃ f, n - k = f + 1 := ⟨n - k - 1, by omega⟩
  rw [hf, show n - (k + 1) = f by omega]
  show (if k < n then (if xs.getD k 0 = c then 0 else 1 + gp xs c n f (k + 1)) else 0) = _
  rw [if_pos h, if_neg e]
theorem gp_nn (xs : List Int) (c : Int) (n : Nat) : ∀ f k, 0 ≤ gp xs c n f k ∧ gp xs c n f k ≤ f
  | 0, _ => by simp [gp]
  | f + 1, k => by
    have i := gp_nn xs c n f (k + 1)
    unfold gp; split
    · split <;> omega
    · omega
theorem gap_rng (xs : List Int) (c : Int) (n k : Nat) : 0 ≤ gap xs c n k ∧ gap xs c n k ≤ ((n - k : Nat) : Int) := gp_nn xs c n (n - k) k
/-- The greatest of the first k. -/
def best (xs : List Int) (c : Int) (n : Nat) : Nat → Int
  | 0 => 0
  | k + 1 => if best xs c n k < gap xs c n k then gap xs c n k else best xs c n k
theorem best_inv (xs : List Int) (c : Int) (n : Nat) : ∀ k, k ≤ n → best xs c n k = max (lo xs c k) (if la xs c k + 1 < k then (k - (la xs c k + 1)) + gap xs c n k else 0)
  | 0, _ => by simp [best, lo, la]
  | k + 1, h => by
    have i := best_inv xs c n k (by omega)
    have l := la_rng xs c k
    have o := lo_rng xs c k
    have g := gap_rng xs c n k
    have e1 : best xs c n (k + 1) = if best xs c n k < gap xs c n k then gap xs c n k else best xs c n k := rfl
    by_cases e : xs.getD k 0 = c
    · have h1 := gap_hit xs c n k (by omega) e
      have h2 : la xs c (k + 1) = k := by show (if xs.getD k 0 = c then (k : Int) else la xs c k) = k; rw [if_pos e]
      have h3 : lo xs c (k + 1) = max (lo xs c k) (k - la xs c k - 1) := by show (if xs.getD k 0 = c then _ else _) = _; rw [if_pos e]
      rw [e1, i, h1, h2, h3]
      split <;> split <;> (try split) <;> omega
    · have h1 := gap_miss xs c n k (by omega) e
      have h2 : la xs c (k + 1) = la xs c k := by show (if xs.getD k 0 = c then (k : Int) else la xs c k) = _; rw [if_neg e]
      have h3 : lo xs c (k + 1) = lo xs c k := by show (if xs.getD k 0 = c then _ else _) = _; rw [if_neg e]
      have g2 := gap_rng xs c n (k + 1)
      rw [e1, i, h2, h3]
      rw [h1] at g ⊢
      split <;> split <;> (try split) <;> omega
theorem best_all (xs : List Int) (c : Int) (n : Nat) : best xs c n n = max (lo xs c n) (n - la xs c n - 1) := by
  have i := best_inv xs c n n (Nat.le_refl _)
  have l := la_rng xs c n
  have o := lo_rng xs c n
  rw [gap_end xs c n n (Nat.le_refl _)] at i
  rw [i]
  split <;> omega
theorem spent1 (a b c : Int) (w : World) (h0 : 0 ≤ a) (h1 : a ≤ 1000) : Calls Try.prog 53 #[.int .i64 a, .int .i64 b, .int .i64 c] w fun e w' => e = .returned (.int .i64 (a + 1)) ∧ w = w' := by
  go_enter Try.func53, Try.ntmps53
  go_wp2
  go_ret
  exact ⟨rfl, rfl⟩
theorem spent2 (a b c : Int) (w : World) : Calls Try.prog 54 #[.int .i64 a, .int .i64 b, .int .i64 c] w fun e w' => e = .returned (.int .i64 a) ∧ w = w' := by
  go_enter Try.func54, Try.ntmps54
  go_wp2
  go_ret
  exact ⟨rfl, rfl⟩
theorem longest1 (a b c : Int) (w : World) (h0 : 0 ≤ a) (h1 : a ≤ 1000) (b0 : 0 ≤ b) (b1 : b ≤ 1000) (c0 : -1 ≤ c) (c1 : c ≤ 1000) : Calls Try.prog 55 #[.int .i64 a, .int .i64 b, .int .i64 c] w fun e w' => e = .returned (.int .i64 (max a (b - c - 1))) ∧ w = w' := by
  by_cases h : b - c - 1 ≤ a
  · have H := Lib.hid (show max a (b - c - 1) = a by omega)
    go_enter Try.func55, Try.ntmps55
    go_wp2
    all_goals go_ret
    all_goals (refine ⟨ret_i64 ?_, rfl⟩; rw [H.out]; try omega)
  · have H := Lib.hid (show max a (b - c - 1) = b - c - 1 by omega)
    go_enter Try.func55, Try.ntmps55
    go_wp2
    all_goals go_ret
    all_goals (refine ⟨ret_i64 ?_, rfl⟩; rw [H.out]; try omega)
end Go.Proofs.Ytlbkmheggdgfoaa
