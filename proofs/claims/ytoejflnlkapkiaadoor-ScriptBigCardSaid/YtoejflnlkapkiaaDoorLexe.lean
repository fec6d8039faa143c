/- Words of a line, in numbers: cut at blanks. -/
import Derived.Test.YtoejflnlkapkiaaDoorLexd
import Derived.Lib.Split
namespace Go.Proofs.YtoejflnlkapkiaaDoor
open Go.ChangeShapes Go.WideShapes Go.ChangeAt Go.RowKit
set_option linter.unusedVariables false
set_option linter.unusedSimpArgs false

/-- Cut at blanks; cur: what stands of the first piece already. -/
def splA (cur : List UInt8) : List UInt8 → List (List UInt8)
  | [] => [cur]
  | b :: l => if b = 32 then cur :: splA [] l else splA (cur ++ [b]) l
def hcons (p : List UInt8) : List (List UInt8) → List (List UInt8)
  | [] => []
  | x :: r => (p ++ x) :: r
theorem splA_head (l : List UInt8) : ∀ p cur, splA (p ++ cur) l = hcons p (splA cur l) := by
  induction l with
  | nil => intro p cur; rfl
  | cons b l ih =>
    intro p cur
    unfold splA
    split
    · rfl
    · rw [List.append_assoc]; exact ih _ _
theorem index_one (b : UInt8) (l : List UInt8) : Lib.index (b :: l) [32] = if b = 32 then 0 else if Lib.index l [32] = -1 then -1 else Lib.index l [32] + 1 := by
  rw [Lib.index]
  by_cases h : b = 32
  · subst h; simp [List.isPrefixOf]
  · have : ¬ (32 : UInt8) = b := fun e => h e.symm
    simp [List.isPrefixOf, h, this]
theorem splitK_head (b : UInt8) (hb : b ≠ 32) (l : List UInt8) (k : Nat) : Lib.splitK [32] 0 k (b :: l) = hcons [b] (Lib.splitK [32] 0 k l) := by
  cases k with
  | zero => rfl
  | succ k =>
    unfold Lib.splitK
    rw [index_one, if_neg hb]
    by_cases h : Lib.index l [32] = -1
    · simp [h, hcons]
    · have hge := Lib.index_ge l [32]
      obtain ⟨i, hi⟩ : ∃ i : Nat, Lib.index l [32] = i := ⟨(Lib.index l [32]).toNat, by omega⟩
      rw [if_neg h, hi]
      have e1 : ¬ (((i : Int) + 1 == -1) = true) := by rw [beq_iff_eq]; omega
      have e2 : ¬ (((i : Int) == -1) = true) := by rw [beq_iff_eq]; omega
      rw [if_neg e1, if_neg e2]
      have e3 : ((i : Int) + 1).toNat = i + 1 := by omega
      simp [e3, hcons]
theorem count_one (l : List UInt8) : Lib.count l [32] = l.count 32 := by
  induction l with
  | nil => rfl
  | cons b l ih =>
    by_cases hb : b = 32
    · subst hb
      rw [List.count_cons_self, Lib.count_hit (i := 0) (by simp) (by rw [index_one, if_pos rfl]; rfl), ← ih, Nat.add_comm]
      rfl
    · rw [List.count_cons_of_ne (by simpa using hb), ← ih]
      have hge := Lib.index_ge l [32]
      by_cases h : Lib.index l [32] = -1
      · rw [Lib.count_miss h, Lib.count_miss (by rw [index_one, if_neg hb, if_pos h])]
      · obtain ⟨i, hi⟩ : ∃ i : Nat, Lib.index l [32] = i := ⟨(Lib.index l [32]).toNat, by omega⟩
        rw [Lib.count_hit (s := l) (i := i) (by simp) hi, Lib.count_hit (s := b :: l) (i := i + 1) (by simp) (by rw [index_one, if_neg hb, if_neg h, hi]; rfl)]
        rfl
theorem splitK_all (l : List UInt8) : Lib.splitK [32] 0 (l.count 32) l = splA [] l := by
  induction l with
  | nil => rfl
  | cons b l ih =>
    by_cases hb : b = 32
    · subst hb
      rw [List.count_cons_self, Lib.splitK, index_one, if_pos rfl]
      simp [splA, ih]
    · rw [List.count_cons_of_ne (by simpa using hb), splitK_head b hb, ih, splA, if_neg hb]
      exact (splA_head l [b] []).symm

theorem ba_ext {l : List UInt8} {x : ByteArray} (h : x.data.toList = l) : x = ⟨l.toArray⟩ := by
  subst h; cases x; simp
theorem splitB_all (s : ByteArray) : Lib.splitB ⟨#[32]⟩ 0 (Lib.countB s ⟨#[32]⟩) s = (splA [] s.data.toList).map (fun l => ⟨l.toArray⟩) := by
  have h := Lib.splitB_data ⟨#[32]⟩ 0 (Lib.countB s ⟨#[32]⟩) s
  have e : Lib.countB s ⟨#[32]⟩ = s.data.toList.count 32 := count_one s.data.toList
  rw [e] at h ⊢
  rw [← splitK_all]
  have h2 : (Lib.splitB ⟨#[32]⟩ 0 (s.data.toList.count 32) s).map (·.data.toList) = Lib.splitK [32] 0 (s.data.toList.count 32) s.data.toList := h
  rw [← h2, List.map_map]
  conv => lhs; rw [← List.map_id (Lib.splitB ⟨#[32]⟩ 0 (s.data.toList.count 32) s)]
  refine List.map_congr_left fun x _ => ?_
  exact ba_ext rfl
theorem splA_count (l : List UInt8) : ∀ cur, (splA cur l).length = l.count 32 + 1 := by
  induction l with
  | nil => intro cur; rfl
  | cons b l ih =>
    intro cur
    unfold splA
    split
    · rename_i h; subst h; rw [List.length_cons, ih, List.count_cons_self]
    · rename_i h; rw [ih, List.count_cons_of_ne (by simpa using h)]

/-- A line's words: none where a byte is none of a line's, or a word is empty. -/
def okB (b : UInt8) : Bool := decide (32 ≤ b.toNat ∧ b.toNat ≤ 126)
def wds (l : List UInt8) : Option (List (List UInt8)) := if l = [] then some [] else if l.all okB && (splA [] l).all (fun p => decide (p ≠ [])) then some (splA [] l) else none

end Go.Proofs.YtoejflnlkapkiaaDoor
