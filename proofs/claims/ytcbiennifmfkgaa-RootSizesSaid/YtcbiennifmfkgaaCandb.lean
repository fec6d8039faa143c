/- Package cand's powers; the least power of two (package chirp's Least). -/
import Derived.Test.YtcbiennifmfkgaaCanda
namespace Go.Proofs.Ytcbiennifmfkgaa
open Go.ChangeShapes Go.WideShapes Go.ChangeAt Go.RowKit
set_option linter.unusedVariables false
set_option linter.unusedSimpArgs false
def pws (L : List (Nat × Nat)) : List Int := L.map fun x => ((x.1 ^ x.2 : Nat) : Int)
theorem pws_len (L : List (Nat × Nat)) : (pws L).length = L.length := by unfold pws; rw [List.length_map]
theorem pws_at (L : List (Nat × Nat)) (k : Nat) (hk : k < L.length) : (pws L).getD k 0 = (((L.getD k (0, 0)).1 ^ (L.getD k (0, 0)).2 : Nat) : Int) := by
  unfold pws
  simp only [List.getD, List.getElem?_map]
  rw [List.getElem?_eq_getElem hk]; rfl
theorem fa_pow {N i : Nat} (h1 : 1 ≤ N) (hi : i < (fa N).length) : 2 ≤ ((fa N).getD i (0, 0)).1 ∧ ((fa N).getD i (0, 0)).1 ∣ N ∧ isP ((fa N).getD i (0, 0)).1 ∧ ((fa N).getD i (0, 0)).2 = mu ((fa N).getD i (0, 0)).1 N ∧ ((fa N).getD i (0, 0)).1 ^ ((fa N).getD i (0, 0)).2 ≤ N := by
  have hm : (((fa N).getD i (0, 0)).1, ((fa N).getD i (0, 0)).2) ∈ fa N := by
    rw [List.getD, List.getElem?_eq_getElem hi]; exact List.getElem_mem hi
  obtain ⟨g1, g2, g3⟩ := (fa_mem h1).1 hm
  obtain ⟨m, e, _⟩ := mu_split g1.1 N h1
  refine ⟨g1.1, g2, g1, g3, ?_⟩
  rw [g3]
  exact Nat.le_of_dvd h1 ⟨m, e⟩
theorem pws_wf {N : Nat} (hN : 1 ≤ N) (h : N ≤ 16777216) : ∀ z ∈ pws (fa N), (Lit.int .i64 z).wf = true := by
  intro z hz
  unfold pws at hz
  obtain ⟨x, hx, rfl⟩ := List.mem_map.1 hz
  obtain ⟨i, hi, e⟩ := List.getElem_of_mem hx
  have := (fa_pow hN hi).2.2.2.2
  rw [List.getD, List.getElem?_eq_getElem hi, Option.getD_some, e] at this
  exact WalkArith.wf_i64 ⟨by omega, by omega⟩
end Go.Proofs.Ytcbiennifmfkgaa
