/- LoadCounts: the document's load in numbers. -/
import Derived.Test.YtfilbdmenlhoiaaLnv
import Derived.Test.YtfilbdmenlhoiaaLnu
namespace Go.Proofs.Ytfilbdmenlhoiaa
open Go.ChangeShapes Go.WideShapes Go.ChangeAt Go.RowKit
set_option linter.unusedVariables false
set_option linter.unusedSimpArgs false
def endB (x : Oi) : Bool := decide (x.t ≠ -1)
def longS (g : Int) (x : Oi) : Int := if x.t = -1 then g else max g (lastN x)
def longN (l : List Oi) : Int := l.foldl longS 0
theorem longN_succ {l : List Oi} {i : Nat} {x : Oi} (h : l[i]? = some x) : longN (l.take (i + 1)) = longS (longN (l.take i)) x := by
  unfold longN
  rw [List.take_add_one, h, List.foldl_append]
  rfl
theorem endB_succ {l : List Oi} {i : Nat} {x : Oi} (h : l[i]? = some x) : (l.take (i + 1)).countP endB = (l.take i).countP endB + (if endB x then 1 else 0) := by
  rw [List.take_add_one, h, List.countP_append]
  simp
theorem endB_le (l : List Oi) (i : Nat) : (l.take i).countP endB ≤ i := Nat.le_trans (List.countP_le_length ..) (by rw [List.length_take]; omega)
theorem ofN_num (l : List Oi) (hn : l.length ≤ 10000) : ∀ i, i ≤ l.length → ofN (l.take i) = ⟨(i : Int), ((l.take i).countP errB : Nat), ((l.take i).countP endB : Nat), longN (l.take i)⟩
  | 0, _ => by simp [ofN, longN]
  | i + 1, hi => by
    obtain ⟨x, hx⟩ : ∃ x, l[i]? = some x := ⟨_, List.getElem?_eq_getElem (by omega)⟩
    have ih := ofN_num l hn i (by omega)
    have h1 := errB_le l i
    have h2 := endB_le l i
    rw [ofN_succ hx, errB_succ hx, endB_succ hx, longN_succ hx, ih, ofS, longS]
    by_cases ht : x.t = -1
    · rw [if_pos ht, if_pos ht, show errB x = false by simp [errB, ht], show endB x = false by simp [endB, ht]]
      simp only [Ld.mk.injEq, wrap64]
      refine ⟨by omega, by simp, by simp, trivial⟩
    · rw [if_neg ht, if_neg ht, show endB x = true by simp [endB, ht]]
      by_cases he : x.e = 0
      · rw [show errB x = false by simp [errB, he]]
        simp only [Ld.mk.injEq, wrap64, if_pos he]
        refine ⟨by omega, by simp, by simp; omega, by split <;> omega⟩
      · rw [show errB x = true by simp [errB, he, ht]]
        simp only [Ld.mk.injEq, wrap64, if_neg he]
        refine ⟨by omega, by simp; omega, by simp; omega, by split <;> omega⟩
theorem ofN_all (l : List Oi) (hn : l.length ≤ 10000) : ofN l = ⟨(l.length : Int), (l.countP errB : Nat), (l.countP endB : Nat), longN l⟩ := by
  have := ofN_num l hn l.length (Nat.le_refl _)
  rwa [List.take_length] at this
end Go.Proofs.Ytfilbdmenlhoiaa
