/- Reference 3's Primes. -/
import Derived.Test.YtcbiennifmfkgaaD11
namespace Go.Proofs.Ytcbiennifmfkgaa
open Go.ChangeShapes Go.WideShapes Go.ChangeAt Go.RowKit
set_option linter.unusedVariables false
def fsts (L : List (Nat × Nat)) : List Int := L.map fun x => (x.1 : Int)
theorem fsts_len (L : List (Nat × Nat)) : (fsts L).length = L.length := by unfold fsts; rw [List.length_map]
theorem fsts_snoc (L : List (Nat × Nat)) (p e : Nat) : fsts (L ++ [(p, e)]) = fsts L ++ [(p : Int)] := by unfold fsts; rw [List.map_append]; rfl
theorem fsts_at (L : List (Nat × Nat)) (k : Nat) : (fsts L).getD k 0 = ((L.getD k (0, 0)).1 : Int) := by
  unfold fsts
  simp only [List.getD, List.getElem?_map]
  cases L[k]? <;> rfl
theorem fsts_wf {N : Nat} (hN : 1 ≤ N) (h : N ≤ 16777216) : ∀ z ∈ fsts (fa N), (Lit.int .i64 z).wf = true := by
  intro z hz
  unfold fsts at hz
  obtain ⟨⟨p, e⟩, hx, rfl⟩ := List.mem_map.1 hz
  obtain ⟨h1, h2, _⟩ := (fa_mem hN).1 hx
  have := Nat.le_of_dvd hN h2
  exact WalkArith.wf_i64 ⟨by show _ ≤ ((p : Nat) : Int); omega, by show ((p : Nat) : Int) ≤ _; omega⟩
theorem fa_len {N : Nat} (hN : 1 ≤ N) (h : N ≤ 16777216) : (fa N).length < 25 := by
  have h1 := pw_len (fa N) (fl_all hN)
  rw [pw_fa hN] at h1
  by_cases hlt : (fa N).length < 25
  · exact hlt
  · have := Nat.pow_le_pow_right (n := 2) (by omega) (show 25 ≤ (fa N).length by omega)
    omega
end Go.Proofs.Ytcbiennifmfkgaa
