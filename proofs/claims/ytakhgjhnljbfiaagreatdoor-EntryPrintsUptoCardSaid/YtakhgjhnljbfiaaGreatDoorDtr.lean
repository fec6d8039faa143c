/- The reader's next and is. (Seat d.) -/
import Derived.Test.YtakhgjhnljbfiaaGreatDoorDtw
namespace Go.Proofs.YtakhgjhnljbfiaaGreatDoor
open Go.ChangeShapes Go.WideShapes Go.ChangeAt Go.RowKit
set_option linter.unusedVariables false
set_option linter.unusedSimpArgs false

set_option maxRecDepth 100000 in
set_option maxHeartbeats 4000000 in
/-- At the end there is no text. -/
theorem d_next_end (r : Nat) (a : Option Addr) (n c : Nat) (w : World) (h0 : w.cell? ⟨r, 0, none⟩ = some (.slice a n c)) (h1 : w.cell? ⟨r, 1, none⟩ = some (.int .i64 n)) :
    Calls Tryz.prog 85 #[.pointer (some ⟨r, 0, none⟩)] w fun e w' => e = .returned (.string ⟨#[]⟩) ∧ ∃ q, w' = w.drewN q := by
  go_enter Tryz.func85, Tryz.ntmps85
  go_wp2_with fail
  go_region
  go_wp2_with fail
  go_ret
  exact ⟨rfl, 1, rfl⟩

set_option maxRecDepth 100000 in
set_option maxHeartbeats 4000000 in
/-- The next token's text. -/
theorem d_next (r g : Nat) (n c at_ : Nat) (t : ByteArray) (w : World) (hat : at_ < n) (hn : n ≤ 100000) (hgr : g ≠ r) (h0 : w.cell? ⟨r, 0, none⟩ = some (.slice (some ⟨g, 0, none⟩) n c)) (h1 : w.cell? ⟨r, 1, none⟩ = some (.int .i64 at_)) (hf : w.frozen? ⟨r, 1, none⟩ = false) (ht : w.cell? ⟨g, at_ * 3 + 1, none⟩ = some (.string t)) :
    Calls Tryz.prog 85 #[.pointer (some ⟨r, 0, none⟩)] w fun e w' => e = .returned (.string t) ∧ ∃ q, w' = (w.setCell ⟨r, 1, none⟩ (.int .i64 ((at_ : Int) + 1))).drewN q := by
  have d1 : ((at_ : Int) == (n : Int)) = false := by rw [beq_eq_false_iff_ne]; omega
  have d1' : (at_ == n) = false := by rw [beq_eq_false_iff_ne]; omega
  go_enter Tryz.func85, Tryz.ntmps85
  go_wp2_with fail
  go_region
  go_wp2_with fail
  go_region
  go_wp2_with fail
  go_ret
  exact ⟨rfl, 2, rfl⟩

set_option maxRecDepth 100000 in
set_option maxHeartbeats 4000000 in
/-- At the end there is no sign. -/
theorem d_is_end (r : Nat) (a : Option Addr) (n c : Nat) (sg : ByteArray) (w : World) (h0 : w.cell? ⟨r, 0, none⟩ = some (.slice a n c)) (h1 : w.cell? ⟨r, 1, none⟩ = some (.int .i64 n)) :
    Calls Tryz.prog 86 #[.pointer (some ⟨r, 0, none⟩), .string sg] w fun e w' => e = .returned (.bool false) ∧ ∃ q, w' = w.drewN q := by
  go_enter Tryz.func86, Tryz.ntmps86
  go_wp2_with fail
  go_region
  go_wp2_with fail
  go_ret
  exact ⟨rfl, 1, rfl⟩

set_option maxRecDepth 100000 in
set_option maxHeartbeats 4000000 in
/-- Is the next token that sign? -/
theorem d_is (r g : Nat) (n c at_ : Nat) (t sg : ByteArray) (w : World) (hat : at_ < n) (hn : n ≤ 100000) (hgr : g ≠ r) (h0 : w.cell? ⟨r, 0, none⟩ = some (.slice (some ⟨g, 0, none⟩) n c)) (h1 : w.cell? ⟨r, 1, none⟩ = some (.int .i64 at_)) (hf : w.frozen? ⟨r, 1, none⟩ = false) (ht : w.cell? ⟨g, at_ * 3 + 1, none⟩ = some (.string t)) :
    Calls Tryz.prog 86 #[.pointer (some ⟨r, 0, none⟩), .string sg] w fun e w' => (t = sg ∧ e = .returned (.bool true) ∧ ∃ q, w' = (w.setCell ⟨r, 1, none⟩ (.int .i64 ((at_ : Int) + 1))).drewN q) ∨ (t ≠ sg ∧ e = .returned (.bool false) ∧ ∃ q, w' = w.drewN q) := by
  have d1 : ((at_ : Int) == (n : Int)) = false := by rw [beq_eq_false_iff_ne]; omega
  have d1' : (at_ == n) = false := by rw [beq_eq_false_iff_ne]; omega
  have he := bl_eq (x := t) (y := sg)
  by_cases hts : t = sg
  · subst hts
    clear he
    go_enter Tryz.func86, Tryz.ntmps86
    go_wp2_with fail
    go_region
    go_wp2_with fail
    go_ret
    first | exact .inl ⟨rfl, rfl, 1, rfl⟩ | exact .inl ⟨trivial, rfl, 1, rfl⟩ | exact .inl ⟨rfl, 1, rfl⟩
  · have HX : Hid (t ≠ sg) := Lib.hid hts
    rw [decide_eq_false hts] at he
    have he2 : (t.toList != sg.toList) = true := by simp [bne, he]
    clear hts
    go_enter Tryz.func86, Tryz.ntmps86
    go_wp2_with fail
    go_region
    go_wp2_with fail
    go_ret
    exact .inr ⟨HX.out, rfl, 1, rfl⟩
end Go.Proofs.YtakhgjhnljbfiaaGreatDoor
