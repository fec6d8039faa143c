/- gold.Sum over a slice; the reference's Wide. -/
import Derived.Test.YthnpbfboedgmpaaGoldp
import Derived.Test.YthnpbfboedgmpaaRefb
namespace Go.Proofs.Ythnpbfboedgmpaa
open Go.ChangeShapes Go.WideShapes Go.ChangeAt Go.RowKit
set_option linter.unusedVariables false

/-- The sum of the first k numbers, in the field. -/
def fsum (xs : List Int) (k : Nat) : Int := fm (xs.take k).sum
theorem fsum_lo (xs : List Int) (k : Nat) : 0 ≤ fsum xs k := fm_lo _
theorem fsum_hi (xs : List Int) (k : Nat) : fsum xs k ≤ 18446744069414584320 := fm_hi _
theorem fsum_zero (xs : List Int) : fsum xs 0 = 0 := by unfold fsum; simp; rfl
theorem take_snoc {α} (xs : List α) (k : Nat) (h : k < xs.length) : xs.take (k + 1) = xs.take k ++ [xs[k]] := List.take_succ_eq_append_getElem h
theorem fsum_succ (xs : List Int) (k : Nat) (h : k < xs.length) : fm (fsum xs k + xs.getD k 0) = fsum xs (k + 1) := by
  unfold fsum
  have e : xs.getD k 0 = xs[k] := by simp [List.getD, h]
  rw [take_snoc xs k h, fm_add_l, e, List.sum_append]
  simp only [List.sum_cons, List.sum_nil, Int.add_zero]
theorem fsum_succ' (xs : List Int) (k : Nat) (h : k < xs.length) : fm (fsum xs k + fm (xs.getD k 0)) = fsum xs (k + 1) := by
  rw [fm_add_r, fsum_succ xs k h]

/-- A slice of words: its numbers lie in their range, in the walk's spelling. -/
theorem words_at {xs : List Int} (h : ∀ x ∈ xs, (Lit.int .u64 x).wf = true) (k : Nat) (hk : k < xs.length) : 0 ≤ xs.getD k 0 ∧ xs.getD k 0 ≤ 18446744073709551615 := by
  have : xs.getD k 0 = xs[k] := by simp [List.getD, hk]
  rw [this]
  exact bounds_u64 (h _ (List.getElem_mem hk))

theorem bits_hi (h l k : Nat) (hl : l < 18446744073709551616) : (h * 18446744073709551616 + l) / 2 ^ (64 + k) = h / 2 ^ k := by
  rw [Nat.pow_add, ← Nat.div_div_eq_div_mul]
  congr 1
  omega
theorem bits_lo (h l k : Nat) (hk : k < 64) : (h * 18446744073709551616 + l) / 2 ^ k % 2 = l / 2 ^ k % 2 := by
  have e : h * 18446744073709551616 = 2 ^ k * (h * 2 ^ (63 - k) * 2) := by
    have : (18446744073709551616 : Nat) = 2 ^ k * (2 ^ (63 - k) * 2) := by
      rw [← Nat.pow_succ, ← Nat.pow_add, show k + (63 - k + 1) = 64 from by omega]
    rw [this]; grind
  rw [e, Nat.mul_add_div (Nat.pow_pos (by omega)), Nat.add_mod]
  omega
/-- A digit. -/
def dig (t k : Nat) : Int := ((t / 2 ^ k % 2 : Nat) : Int)
theorem dig_lo (t k : Nat) : 0 ≤ dig t k := by unfold dig; omega
theorem dig_hi (t k : Nat) : dig t k ≤ 1 := by unfold dig; omega
theorem dbl_bit (t k : Nat) : fm (fm (dbl t 1 (k + 1) + dbl t 1 (k + 1)) + dig t k) = dbl t 1 k := by
  have := dbl_step t k 1
  rw [Int.mul_one] at this
  exact this.symm
theorem tmod_bit (h k : Nat) : ((h : Int) / 2 ^ k).tmod 2 = dig h k := by
  rw [show ((h : Int) / 2 ^ k) = ((h / 2 ^ k : Nat) : Int) from by push_cast; rfl]; rfl

theorem Reads.alloc {k : IntKind} {w : World} {a : Option Addr} {xs : List Int} (h : Reads k w a xs) (o : Obj) : Reads k (w.alloc o) a xs := by
  rcases h with h | ⟨b, off, rfl, hb, hc⟩
  · exact .inl h
  · exact .inr ⟨b, off, rfl, by simp; omega, fun i hi => by rw [World.cell?_of_block (Below.heap_alloc w o b hb)]; exact hc i hi⟩
theorem Reads.below {k : IntKind} {w w' : World} {a : Option Addr} {xs : List Int} (h : Reads k w a xs) (hb : Below w.heap.size w w') : Reads k w' a xs := by
  rcases h with h | ⟨b, off, rfl, hlt, hc⟩
  · exact .inl h
  · exact .inr ⟨b, off, rfl, by have := hb.size; omega, fun i hi => by rw [hb.cell (p := ⟨b, off + i, none⟩) hlt]; exact hc i hi⟩

/-- Two rows, one by one: +. -/
def zadd (xs ys : List Int) : List Int := List.zipWith (fun x y => fm (x + y)) xs ys
theorem zadd_len (xs ys : List Int) (h : xs.length = ys.length) : (zadd xs ys).length = xs.length := by unfold zadd; simp [h]
theorem zadd_at (xs ys : List Int) (k : Nat) (h : k < xs.length) (h' : xs.length = ys.length) : (zadd xs ys).getD k 0 = fm (xs.getD k 0 + ys.getD k 0) := by
  have h2 : k < ys.length := by omega
  unfold zadd; simp [List.getD, List.getElem?_zipWith, h, h2]
theorem zadd_wf (xs ys : List Int) : ∀ z ∈ zadd xs ys, (Lit.int .u64 z).wf = true := by
  intro z hz
  unfold zadd at hz
  obtain ⟨i, hi, rfl⟩ := List.getElem_of_mem hz
  rw [List.getElem_zipWith]
  exact WalkArith.wf_u64 ⟨fm_lo _, fm_hi' _⟩

/-- Two rows, one by one: *. -/
def zmul (xs ys : List Int) : List Int := List.zipWith (fun x y => fm (x * y)) xs ys
theorem zmul_len (xs ys : List Int) (h : xs.length = ys.length) : (zmul xs ys).length = xs.length := by unfold zmul; simp [h]
theorem zmul_at (xs ys : List Int) (k : Nat) (h : k < xs.length) (h' : xs.length = ys.length) : (zmul xs ys).getD k 0 = fm (xs.getD k 0 * ys.getD k 0) := by
  have h2 : k < ys.length := by omega
  unfold zmul; simp [List.getD, List.getElem?_zipWith, h, h2]
theorem zmul_wf (xs ys : List Int) : ∀ z ∈ zmul xs ys, (Lit.int .u64 z).wf = true := by
  intro z hz
  unfold zmul at hz
  obtain ⟨i, hi, rfl⟩ := List.getElem_of_mem hz
  rw [List.getElem_zipWith]
  exact WalkArith.wf_u64 ⟨fm_lo _, fm_hi' _⟩

/-- Each number times a. -/
def scl (a : Int) (xs : List Int) : List Int := xs.map fun x => fm (a * x)
theorem scl_len (a : Int) (xs : List Int) : (scl a xs).length = xs.length := by unfold scl; simp
theorem scl_at (a : Int) (xs : List Int) (k : Nat) (h : k < xs.length) : (scl a xs).getD k 0 = fm (a * xs.getD k 0) := by
  unfold scl; simp [List.getD, h]
theorem scl_wf (a : Int) (xs : List Int) : ∀ z ∈ scl a xs, (Lit.int .u64 z).wf = true := by
  intro z hz
  unfold scl at hz
  obtain ⟨x, _, rfl⟩ := List.mem_map.1 hz
  exact WalkArith.wf_u64 ⟨fm_lo _, fm_hi' _⟩

/-- The sum of the products. -/
def dotp (xs ys : List Int) : Int := fsum (zmul xs ys) (zmul xs ys).length

end Go.Proofs.Ythnpbfboedgmpaa
