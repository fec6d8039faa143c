/- SlimPicks: the page's example. -/
import Derived.Test.YthnpbfboedgmpaaSli
namespace Go.Proofs.Ythnpbfboedgmpaa
open Go.ChangeShapes Go.WideShapes Go.ChangeAt Go.RowKit
set_option linter.unusedVariables false
set_option linter.unusedSimpArgs false
theorem info_rowZ : (Try.prog.info? 42).map (fun i => (i.zero, i.size, i.bytes)) = some (some (.slice none 0 0), 1, 24) := by kernel_rfl
theorem make_two (w : World) : (Instr.makeSlice 22 (.int .i64 2) (.int .i64 2)).run Try.prog w = .ok (.slice (some ⟨w.heap.size, 0, none⟩) 2 2) (w.alloc (.cells #[.slice none 0 0, .slice none 0 0] 42)) := by
  have hI := info_rowZ
  obtain ⟨i, hi⟩ : ∃ i, Try.prog.info? 42 = some i := by
    cases h0 : Try.prog.info? 42 with
    | none => rw [h0] at hI; cases hI
    | some i => exact ⟨i, rfl⟩
  rw [hi] at hI
  simp only [Option.map_some, Option.some.injEq, Prod.mk.injEq] at hI
  obtain ⟨hz, hs, hb⟩ := hI
  rw [run_make w 22 42 i (.slice none 0 0) Try.underlying22 hi hz .i64 .i64 2 2 (by omega) (by omega) (by rw [hb]; omega) (by omega), hs]
  have e : madeCells (Value.slice none 0 0).cells ((2 : Int).toNat * 1) = #[.slice none 0 0, .slice none 0 0] := by first | kernel_rfl | decide | (simp [madeCells, Value.cells]; done) | (simp [madeCells, Value.cells]; rfl)
  rw [e]; rfl
set_option maxRecDepth 100000 in
set_option maxHeartbeats 8000000 in
theorem live46 (W : World) : Calls Try.prog 4 #[] W fun e w' => e = .returned (.bool true) ∧ Below W.heap.size W w' := by
  have hmk := make_two W
  obtain ⟨w0, hw0, r0, hB0, hs0⟩ := boxG W #[.slice none 0 0, .slice none 0 0] 42
  have HC : RowCC w0 (.slice (some ⟨W.heap.size, 0, none⟩) 2 2) [[], []] := ⟨_, _, rfl, .inr ⟨W.heap.size, 0, rfl, by omega, fun j l hj => by
    match j, hj with
    | 0, hj =>
      have e : [] = l := by simpa using hj
      subst e
      exact ⟨.slice none 0 0, by rw [cell_of_row _ _ _ _ _ _ r0]; rfl, ⟨none, 0, rfl, .inl rfl⟩⟩
    | 1, hj =>
      have e : [] = l := by simpa using hj
      subst e
      exact ⟨.slice none 0 0, by rw [cell_of_row _ _ _ _ _ _ r0]; rfl, ⟨none, 0, rfl, .inl rfl⟩⟩
    | j + 2, hj => simp at hj⟩⟩
  have EV := slim_even 0 0 (some ⟨W.heap.size, 0, none⟩) none none 2 0 0 [[], []] [] [] 2 w0 HC (rowI_nil w0) ⟨by decide, by simp, by simp, by decide, by decide⟩ (by decide) (.inr (by decide))
  have he : evL ([[], []] : List (List Cl)).length (([[], []] : List (List Cl)).length * 2) = [0, 1, 0, 1] := by decide
  unfold ScrE at EV
  rw [he] at EV
  simp only [List.length_cons, List.length_nil, Nat.zero_add] at EV
  have EV := Lib.hid EV
  have HB0 := Lib.hid hB0
  have DF := Lib.hid (fun (w : World) => slim_diff0 w)
  clear r0 hB0 HC he hs0
  go_enter Try.func4, Try.ntmps4
  go_wp2_with fail
  clear hw0 hmk
  refine EV.out.mono ?_
  rintro e x1 ⟨c3, k3, p3, j3, t3, l3, rfl, -, hp, -, hb⟩
  obtain ⟨x2, hx2, r2, hb2, hs2⟩ := boxG x1 #[.int .i64 0, .int .i64 0, .slice c3 2 k3, .slice p3 4 j3, .slice t3 0 l3] 25
  obtain ⟨x3, hx3, r3, hb3, hs3⟩ := boxG x2 #[.int .i64 0, .int .i64 1, .int .i64 0, .int .i64 1] 3
  obtain ⟨m0, m1, m2, m3, m4⟩ := sc_cells5 r2
  have HB3 := Lib.hid (HB0.out.trans ((hb.trans ((hb2.mono hb.size).trans (hb3.mono (Nat.le_trans hb.size hb2.size)))).mono HB0.out.size))
  have SM := Lib.hid (c_samei (c := j3) (d := 4) (hp.rowI.below (hb2.trans (hb3.mono hb2.size))) (show RowI x3 (some ⟨x2.heap.size, 0, none⟩) 4 [0, 1, 0, 1] from RowI.of_at (T := 3) (by unfold RowAtI; exact r3) (by decide) rfl (by decide)))
  clear hp hb r2 hb2 hs2 r3 hb3 hs3
  go_wp2_with fail
  clear hx2 hx3 m0 m1 m2 m3 m4
  refine SM.out.mono ?_
  rintro e x4 ⟨rfl, hb4⟩
  have HB4 := Lib.hid (HB3.out.trans (hb4.mono HB3.out.size))
  clear hb4
  go_wp2_with fail
  refine (DF.out _).mono ?_
  rintro e x5 ⟨rfl, hb5⟩
  have HB5 := Lib.hid (HB4.out.trans (hb5.mono HB4.out.size))
  clear hb5
  go_wp2_with fail
  go_ret
  exact ⟨rfl, HB5.out⟩
end Go.Proofs.Ythnpbfboedgmpaa
