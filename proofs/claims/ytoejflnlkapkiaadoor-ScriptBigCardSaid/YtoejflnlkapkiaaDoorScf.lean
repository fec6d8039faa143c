/- Layer 42's example; script.Own. -/
import Derived.Test.YtoejflnlkapkiaaDoorSce
namespace Go.Proofs.YtoejflnlkapkiaaDoor
open Go.ChangeShapes Go.WideShapes Go.ChangeAt Go.RowKit
set_option linter.unusedVariables false
set_option linter.unusedSimpArgs false
def cl1 : Cl := ⟨1, 8, 0, ⟨#[]⟩, 0, 0, []⟩
theorem row_nilX (w : World) : RowX w (.slice none 0 0) [] := ⟨none, 0, rfl, ⟨rfl, .inl rfl, by simp, by decide⟩⟩
theorem rowI_nil (w : World) : RowI w none 0 [] := ⟨rfl, .inl rfl, by simp, by decide⟩
set_option maxRecDepth 100000 in
set_option maxHeartbeats 4000000 in
theorem live42 (W : World) (hT : Lib.TabIs Tryd.prog W "internal/strconv.uint64pow10" .u64 Lib.pow10Tab) : Calls Tryd.prog 8 #[] W fun e w' => e = .returned (.bool true) ∧ Below W.heap.size W w' := by
  obtain ⟨w0, hw0, r0, hB0, hs0⟩ := boxG W #[.int .i64 1, .int .i64 8, .int .i64 0, .string ⟨#[]⟩, .int .i64 0, .int .i64 0, .slice none 0 0] 49
  obtain ⟨w1, hw1, r1, hB1, hs1⟩ := boxG w0 #[.slice (some ⟨W.heap.size, 0, none⟩) 1 1] 55
  obtain ⟨x0, x1, x2, x3, x4, x5, x6⟩ := cells7 r0
  have hok : cl1.ok := ⟨by unfold i64r; decide, by unfold i64r; decide, by unfold i64r; decide, by unfold i64r; decide, by unfold i64r; decide⟩
  have hB01 : Below W.heap.size W w1 := hB0.trans (hB1.mono (by omega))
  have hc0 : RowC w0 (.slice (some ⟨W.heap.size, 0, none⟩) 1 1) [cl1] := ⟨some ⟨W.heap.size, 0, none⟩, 1, rfl, .inr ⟨W.heap.size, 0, rfl, by omega, fun j x hj => by
    match j, hj with
    | 0, hj =>
      simp at hj; subst hj
      exact ⟨hok, x0, x1, x2, x3, x4, x5, _, x6, row_nilX _⟩⟩⟩
  have hcc : RowCC w1 (.slice (some ⟨w0.heap.size, 0, none⟩) 1 1) [[cl1]] := ⟨some ⟨w0.heap.size, 0, none⟩, 1, rfl, .inr ⟨w0.heap.size, 0, rfl, by omega, fun j x hj => by
    match j, hj with
    | 0, hj =>
      simp at hj; subst hj
      exact ⟨_, by rw [cell_of_row _ _ _ _ _ _ r1]; rfl, hc0.below hB1⟩⟩⟩
  have hT1 := pow10_bel hT hB01
  have PR := Lib.hid (sc_print 1 1 (.slice (some ⟨w0.heap.size, 0, none⟩) 1 1) [[cl1]] none 0 0 [] none 0 0 [] w1 (by unfold i64r; decide) (by unfold i64r; decide) hcc (by decide) (by intro l hl; simp at hl; subst hl; decide) (rowI_nil _) (by decide) (rowI_nil _) (by decide) (by decide +kernel)
    (by intro l hl c hc; simp at hl; subst hl; simp at hc; subst hc; decide +kernel) hT1
    (by
      intro l hl c hc x w hok hx hT
      simp at hl; subst hl; simp at hc; subst hc
      obtain ⟨p, k, rfl, -⟩ := hx
      have h := sc_words_key cl1 (.slice p cl1.xs.length k) w ⟨_, _, _, rfl⟩ (.inl rfl) hok hT
      rwa [← wsL_val] at h))
  rw [show bigS (scT 1 1 [] [] [[cl1]]) = ⟨#[112, 108, 97, 121, 32, 49, 32, 49, 10, 112, 105, 99, 107, 115, 10, 116, 105, 99, 107, 115, 10, 99, 108, 105, 101, 110, 116, 10, 103, 101, 116, 32, 56, 32, 48, 10]⟩ by decide +kernel, show bigE (scT 1 1 [] [] [[cl1]]) = 0 by decide +kernel] at PR
  have HB := Lib.hid hB01
  clear hc0 hcc hT1 hT r0 hB0 hs0 r1 hB1 hs1 hok x0 x1 x2 x3 x4 x5 x6 hB01
  go_enter Tryd.func8, Tryd.ntmps8
  go_wp2_with fail
  refine PR.out.mono ?_
  rintro e w2 ⟨rfl, hb2⟩
  have HB2 := Lib.hid (HB.out.trans (hb2.mono HB.out.size))
  clear hb2
  go_wp2_with fail
  go_ret
  exact ⟨rfl, HB2.out⟩
end Go.Proofs.YtoejflnlkapkiaaDoor
