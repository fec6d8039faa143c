/- Package lex, the numbers: kinds of bytes; tokens byte by byte. -/
import Derived.Test.YthnpbfboedgmpaaBase
import Derived.WalkSpells
import Derived.Laws.Strings2
import Derived.Laws.RangeAny
import Derived.Lib.OthersKept
namespace Go.Proofs.Ythnpbfboedgmpaa
open Go.ChangeShapes Go.WideShapes Go.ChangeAt Go.RowKit
set_option linter.unusedVariables false
set_option linter.unusedSimpArgs false

/-- The kind of a sign; 0: none. -/
def kd (x : Int) : Int := if 97 ≤ x ∧ x ≤ 122 then 1 else if 48 ≤ x ∧ x ≤ 57 then 2 else if x = 40 ∨ x = 41 ∨ x = 44 then 3 else 0
theorem kd_ascii {x : Int} (h : kd x ≠ 0) : 0 ≤ x ∧ x < 128 := by
  unfold kd at h
  split at h
  · omega
  · split at h
    · omega
    · split at h
      · omega
      · simp at h
theorem kd_high {x : Int} (h : 128 ≤ x) : kd x = 0 := by
  unfold kd
  rw [if_neg (by omega), if_neg (by omega), if_neg (by omega)]
theorem kd_le (x : Int) : 0 ≤ kd x ∧ kd x ≤ 3 := by
  unfold kd; split
  · omega
  · split
    · omega
    · split <;> omega

/-- The byte at a place. -/
def bt (s : ByteArray) (i : Nat) : Nat := (s.get! i).toNat
theorem bt_eq (s : ByteArray) (i : Nat) (h : i < s.size) : (s[i]'h).toNat = bt s i := by
  rw [bt, show s.get! i = s.get! (i + 0) from rfl, get_at s i h]
theorem bt_lt (s : ByteArray) (i : Nat) : bt s i < 256 := (s.get! i).toNat_lt

/-- What came of the bytes so far: tokens (kind, from, to), none where a sign is none. -/
def tk (s : ByteArray) : Nat → Option (List (Int × Nat × Nat))
  | 0 => some []
  | i + 1 => match tk s i with
    | none => none
    | some l => if kd (bt s i) = 0 then none else match l.getLast? with
      | some (k, a, b) => if kd (bt s i) ≠ 3 ∧ k = kd (bt s i) then some (l.dropLast ++ [(k, a, i + 1)]) else some (l ++ [(kd (bt s i), i, i + 1)])
      | none => some (l ++ [(kd (bt s i), i, i + 1)])
theorem tk_none {s : ByteArray} {i j : Nat} (h : tk s i = none) (hij : i ≤ j) : tk s j = none := by
  induction j with
  | zero => obtain rfl : i = 0 := by omega
            exact h
  | succ j ih =>
    by_cases e : i = j + 1
    · rw [← e]; exact h
    · simp [tk, ih (by omega)]
theorem tk_stop {s : ByteArray} {i j : Nat} (h : kd (bt s i) = 0) (hij : i < j) : tk s j = none := by
  refine tk_none (i := i + 1) ?_ hij
  simp only [tk]
  cases tk s i with
  | none => rfl
  | some l => simp [h]

end Go.Proofs.Ythnpbfboedgmpaa
