/- Plans of a size, as plain data; package cand's of and primes, reference 19's leaf and one. -/
import Derived.Test.YtcbiennifmfkgaaOwnt
import Derived.Test.YtcbiennifmfkgaaGated
import Derived.Test.YtcbiennifmfkgaaFacsd
import Derived.Test.YtcbiennifmfkgaaAbvd
import Derived.Test.YtcbiennifmfkgaaClonel
import Derived.BigRegion
import Derived.Deep.DeepCutAuto
namespace Go.Proofs.Ytcbiennifmfkgaa
open Go.ChangeShapes Go.WideShapes Go.ChangeAt Go.RowKit
set_option linter.unusedVariables false
set_option linter.unusedSimpArgs false
/-- A tree, ahead of a row. -/
def Nd.fo (d : Nd) (r : Fo) : Fo := .cons d.k d.n d.ks r
/-- The greatest prime of a number. -/
def lastP (n : Nat) : Nat := ((fa n).getD ((fa n).length - 1) (0, 0)).1
/-- The plan without a choice. -/
def plT : Nat → Nat → Nd
  | 0, n => ⟨0, n, .nil⟩
  | f + 1, n => if 2 ≤ n ∧ n ≤ 5 then ⟨2, n, .nil⟩ else if n = 1 ∨ (n ≤ 64 ∧ pwb n = false) then ⟨1, n, .nil⟩ else if pwb n = true then ⟨3, n, .nil⟩ else if prb n = true then ⟨6, n, (plT f (n - 1)).fo .nil⟩ else ⟨4, n, (plT f (lastP n)).fo ((plT f (n / lastP n)).fo .nil)⟩
/-- A tree in new memory. -/
def GivesD (W : World) (d : Nd) (e : Ending) (w' : World) : Prop := ∃ v, e = .returned (.agg #[.int .i64 d.k, .int .i64 d.n, v]) ∧ KidsS w' (fun b => b < w'.heap.size ∧ W.heap.size ≤ b) v d.ks ∧ Below W.heap.size W w'
theorem KidsS.form {w : World} {S : Nat → Prop} {v : Value} {f : Fo} (h : KidsS w S v f) : ∃ a n c, v = .slice a n c := by
  obtain ⟨a, c, rfl, _⟩ := h
  exact ⟨a, _, c, rfl⟩
theorem KidsS.nought (w : World) (S : Nat → Prop) : KidsS w S (.slice none 0 0) .nil := ⟨none, 0, rfl, Nat.le_refl _, by unfold maxLen; omega, .inl rfl⟩
theorem kidsS_one {w : World} {S : Nat → Prop} {g c : Nat} {k n : Int} {v : Value} {ks : Fo} {T : TypeId} (h : w.heap[g]? = some (.cells #[.int .i64 k, .int .i64 n, v] T (0, 0))) (hg : S g) (hk : KidsS w S v ks) (h1 : 1 ≤ c) (h2 : c ≤ maxLen) : KidsS w S (.slice (some ⟨g, 0, none⟩) 1 c) (.cons k n ks .nil) := by
  obtain ⟨x0, x1, x2, _, _, _⟩ := row_cells3 h
  obtain ⟨a, c', rfl, g1, g2, g3⟩ := hk
  exact ⟨_, c, rfl, h1, h2, .inr ⟨g, 0, rfl, hg, x0, x1, ⟨a, c', x2, g1, g2, g3⟩, trivial⟩⟩
theorem kidsS_two {w : World} {S : Nat → Prop} {g c : Nat} {k n k' n' : Int} {v v' : Value} {ks ks' : Fo} {T : TypeId} (h : w.heap[g]? = some (.cells #[.int .i64 k, .int .i64 n, v, .int .i64 k', .int .i64 n', v'] T (0, 0))) (hg : S g) (hk : KidsS w S v ks) (hk' : KidsS w S v' ks') (h1 : 2 ≤ c) (h2 : c ≤ maxLen) : KidsS w S (.slice (some ⟨g, 0, none⟩) 2 c) (.cons k n ks (.cons k' n' ks' .nil)) := by
  have cc := fun j => cell_of_row w g j _ _ _ h
  obtain ⟨a, c1, rfl, g1, g2, g3⟩ := hk
  obtain ⟨a', c2, rfl, g1', g2', g3'⟩ := hk'
  exact ⟨_, c, rfl, h1, h2, .inr ⟨g, 0, rfl, hg, by rw [cc 0]; rfl, by rw [cc 1]; rfl, ⟨a, c1, by rw [cc 2]; rfl, g1, g2, g3⟩, hg, by rw [cc 3]; rfl, by rw [cc 4]; rfl, ⟨a', c2, by rw [cc 5]; rfl, g1', g2', g3'⟩, trivial⟩⟩
end Go.Proofs.Ytcbiennifmfkgaa
