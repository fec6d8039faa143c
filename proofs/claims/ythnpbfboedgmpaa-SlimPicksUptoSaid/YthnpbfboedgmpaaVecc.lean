/- Layer 5's calls, as the laws meet them: every answer is a slice that reads as a list. -/
import Derived.Test.YthnpbfboedgmpaaVec2
import Derived.Test.YthnpbfboedgmpaaVec3
import Derived.Test.YthnpbfboedgmpaaRefe2
namespace Go.Proofs.Ythnpbfboedgmpaa
open Go.ChangeShapes Go.WideShapes Go.ChangeAt Go.RowKit
set_option linter.unusedVariables false

theorem scl_one (xs : List Int) : scl 1 xs = redl xs := by unfold scl redl; simp
theorem redl_wf (xs : List Int) : ∀ z ∈ redl xs, (Lit.int .u64 z).wf = true := by rw [← scl_one]; exact scl_wf 1 xs

/-- What a slice of words is, for a callee: what it reads as, that each is in order, how many. -/
structure Row (w : World) (a : Option Addr) (n : Nat) (xs : List Int) : Prop where
  len : xs.length = n
  reads : Reads .u64 w a xs
  wf : ∀ x ∈ xs, (Lit.int .u64 x).wf = true
  small : n ≤ 17592186044415
theorem Row.below {w w' : World} {a : Option Addr} {n : Nat} {xs : List Int} (h : Row w a n xs) (hb : Below w.heap.size w w') : Row w' a n xs := ⟨h.len, h.reads.below hb, h.wf, h.small⟩
theorem Row.alloc {w : World} {a : Option Addr} {n : Nat} {xs : List Int} (h : Row w a n xs) (o : Obj) : Row (w.alloc o) a n xs := ⟨h.len, h.reads.alloc o, h.wf, h.small⟩
theorem Row.drew {w : World} {a : Option Addr} {n : Nat} {xs : List Int} (h : Row w a n xs) : Row w.drew a n xs := h.below (Below.refl _ _).drew
theorem Row.cell {w : World} {a : Option Addr} {n : Nat} {xs : List Int} (h : Row w a n xs) {k : Nat} (hk : k < n) : ∃ b off, a = some ⟨b, off, none⟩ ∧ b < w.heap.size ∧ w.cell? ⟨b, off + k, none⟩ = some (.int .u64 (xs.getD k 0)) ∧ 0 ≤ xs.getD k 0 ∧ xs.getD k 0 ≤ 18446744073709551615 := by
  rcases h.reads with hn | ⟨b, off, e, hb, hc⟩
  · have := h.len; rw [hn] at this; simp at this; omega
  · exact ⟨b, off, e, hb, hc k (by rw [h.len]; exact hk), words_at h.wf k (by rw [h.len]; exact hk)⟩
theorem Row.of_at {w : World} {B : Nat} {ys : List Int} (h : RowAt w B 66 ys) (hw : ∀ x ∈ ys, (Lit.int .u64 x).wf = true) {n : Nat} (hn : ys.length = n) (hs : n ≤ 17592186044415) : Row w (some ⟨B, 0, none⟩) n ys := ⟨hn, h.reads, hw, hs⟩

/-- The answer is a slice of n words that reads as ys; nothing that was there has turned. -/
def Gives (w : World) (n : Nat) (ys : List Int) (e : Ending) (w' : World) : Prop := ∃ a c, e = .returned (.slice a n c) ∧ Row w' a n ys ∧ Below w.heap.size w w'

theorem gives_at {w w' : World} {n : Nat} {ys : List Int} {e : Ending} (he : e = .returned (.slice (some ⟨w.heap.size, 0, none⟩) n n)) (h : RowAt w' w.heap.size 66 ys) (hb : Below w.heap.size w w') (hw : ∀ x ∈ ys, (Lit.int .u64 x).wf = true) (hn : ys.length = n) (hs : n ≤ 17592186044415) : Gives w n ys e w' :=
  ⟨_, _, he, Row.of_at h hw hn hs, hb⟩
theorem gives_own {w w' : World} {n B : Nat} {ys : List Int} {e : Ending} {v : Value} (he : e = .returned v) (h : Owns w' B 66 .u64 v ys) (hb : Below w.heap.size w w') (hw : ∀ x ∈ ys, (Lit.int .u64 x).wf = true) (hn : ys.length = n) (hs : n ≤ 17592186044415) : Gives w n ys e w' := by
  obtain ⟨a, c, hv, hr, _, _⟩ := h.shape
  exact ⟨a, c, by rw [he, hv, hn], ⟨hn, hr, hw, hs⟩, hb⟩

/-- The answer is such a slice, and no error. -/
def GivesOk (w : World) (n : Nat) (ys : List Int) (e : Ending) (w' : World) : Prop := ∃ a c, e = .returned (.tuple #[.slice a n c, .int .i64 0]) ∧ Row w' a n ys ∧ Below w.heap.size w w'
/-- The same row twice. -/
theorem c_same {w : World} {p q : Option Addr} {n c d : Nat} {xs : List Int} (h : Row w p n xs) (k : Row w q n xs) : Calls Try.prog 25 #[.slice p n c, .slice q n d] w fun e w' => e = .returned (.bool true) ∧ Below w.heap.size w w' := by
  obtain ⟨rfl, hr, hw, hs⟩ := h
  obtain ⟨_, kr, kw, _⟩ := k
  have := r2_same p q c d xs xs w hr kr (by omega)
  rwa [decide_eq_true rfl] at this
theorem c_sameb {w : World} {p q : Option Addr} {n m c d : Nat} {xs ys : List Int} {b : Bool} (h : Row w p n xs) (k : Row w q m ys) (hb : decide (xs = ys) = b) : Calls Try.prog 25 #[.slice p n c, .slice q m d] w fun e w' => e = .returned (.bool b) ∧ Below w.heap.size w w' := by
  obtain ⟨rfl, hr, hw, hs⟩ := h
  obtain ⟨rfl, kr, kw, _⟩ := k
  have := r2_same p q c d xs ys w hr kr (by omega)
  rwa [hb] at this
theorem Row.of_isRow {w : World} {a : Option Addr} {n c : Nat} (h : IsRow .u64 w a n c) (hs : n ≤ 17592186044415) : ∃ xs, Row w a n xs := by
  obtain ⟨xs, hn, _, _, hr, hw⟩ := h
  exact ⟨xs, hn, hr, hw, hs⟩

end Go.Proofs.Ythnpbfboedgmpaa
