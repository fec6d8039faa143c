/- Package script's Parse, of a text without a line feed, and of one that is too big; zero scripts are alike. -/
import Derived.Test.YtoejflnlkapkiaaDoorScf
import Derived.Test.YtoejflnlkapkiaaDoorShel
import Derived.Test.YtoejflnlkapkiaaDoorSamei
namespace Go.Proofs.YtoejflnlkapkiaaDoor
open Go.ChangeShapes Go.WideShapes Go.ChangeAt Go.RowKit
set_option linter.unusedVariables false
set_option linter.unusedSimpArgs false
def MaxAt (w : World) : Prop := ∃ m, w.cell? ⟨1, 0, none⟩ = some (.int .i64 m)
theorem MaxAt.below {w w' : World} {B : Nat} (h : MaxAt w) (hb : Below B w w') (h1 : 1 < B) : MaxAt w' := by
  obtain ⟨m, h⟩ := h
  exact ⟨m, (hb.cell (p := ⟨1, 0, none⟩) h1).trans h⟩
set_option maxRecDepth 100000 in
theorem sc_line_none (s : ByteArray) (hs : s.size < 4294967281) (hn : Lib.index s.data.toList [10] = -1) (W : World) (hm : MaxAt W) :
    Calls Tryd.prog 45 #[.string s, .int .i64 0] W fun e w' => e = .returned (.tuple #[.string ⟨#[]⟩, .int .i64 0, .bool false]) ∧ Below W.heap.size W w' := by
  obtain ⟨m, hm⟩ := hm
  have hsl : ∀ wx, (Instr.slice 9 (.string s) (some (.int .i64 0)) none none).run Tryd.prog wx = .ok (.string s) wx := fun wx => by
    have h := run_slice_string_from_if (P := Tryd.prog) wx 9 s .i64 0 Tryd.underlying9
    rw [h]
    simp
  have d2 : decide ((0 : Int) > (s.size : Int)) = false := decide_eq_false (by omega)
  have d2' : decide ((s.size : Int) < 0) = false := decide_eq_false (by omega)
  have d3 : decide (s.size < 0) = false := decide_eq_false (by omega)
  have C := c_strings_Cut s ⟨#[10]⟩ m W hs hm
  have hcut : Lib.cut s.data.toList ((⟨#[10]⟩ : ByteArray).data.toList) = (s.data.toList, [], false) := by
    show Lib.cut s.data.toList [10] = _
    unfold Lib.cut
    rw [hn]; rfl
  rw [hcut] at C
  have C := Lib.hid C
  clear hcut hn hm
  go_enter Tryd.func45, Tryd.ntmps45
  go_wp2_with fail
  refine C.out.mono ?_
  rintro e w1 ⟨rfl, q, hq⟩
  have HB := Lib.hid (show Below W.heap.size W w1 by rw [hq]; exact below_drewN (Below.refl _ _) q)
  clear hq
  go_wp2_with fail
  go_ret3
  exact ⟨rfl, HB.out⟩
set_option maxRecDepth 100000 in
theorem sc_words_none (s : ByteArray) (hs : s.size < 4294967281) (hn : Lib.index s.data.toList [10] = -1) (W : World) (hm : MaxAt W) :
    Calls Tryd.prog 27 #[.string s, .int .i64 0] W fun e w' => e = .returned (.tuple #[.slice none 0 0, .int .i64 0, .bool false]) ∧ Below W.heap.size W w' := by
  have C := Lib.hid (sc_line_none s hs hn W hm)
  clear hs hn hm
  go_enter Tryd.func27, Tryd.ntmps27
  go_wp2_with fail
  refine C.out.mono ?_
  rintro e w1 ⟨rfl, hb⟩
  have HB := Lib.hid hb
  clear hb
  go_wp2_with fail
  go_ret3
  exact ⟨rfl, HB.out⟩
theorem sc_res3 {P : Program} {fn : Func} {p a b : Tmp} {ty : TypeId} (h : fn.results = #[.cell p ty, .tmp a, .tmp b]) (tmps : Array Value) (w : World) (g : Nat) (t : TypeId) (cs : Array Value) (fr : Nat × Nat) (d : TypeDesc) (x y : Value)
    (hp : tmps.getD p undef = .pointer (some ⟨g, 0, none⟩)) (ha : tmps.getD a undef = x) (hb : tmps.getD b undef = y) (hg : w.heap[g]? = some (.cells cs t fr))
    (hu : P.underlying ty = some d) (hd : (match d with | .struct _ | .array _ _ => true | _ => false) = true) (hi : (P.info? ty).map (·.size) = some cs.size) :
    (results fn tmps).run P w = .ok (.tuple #[.agg cs, x, y]) w := by
  have e : tmps[p]?.getD undef = .pointer (some ⟨g, 0, none⟩) := by simpa using hp
  have ea : tmps[a]?.getD undef = x := by simpa using ha
  have eb : tmps[b]?.getD undef = y := by simpa using hb
  simp [results, h, e, ea, eb, asAddr, run_loadVar_row w g t ty cs fr d hg hu hd hi]
theorem s5_row {w : World} {b : Nat} {T : TypeId} {c0 c1 c2 c3 c4 a0 a1 a2 a3 a4 : Value} (h : w.heap[b]? = some (.cells #[c0, c1, c2, c3, c4] T (0, 0))) : (((((w.setCell ⟨b, 0, none⟩ a0).setCell ⟨b, 1, none⟩ a1).setCell ⟨b, 2, none⟩ a2).setCell ⟨b, 3, none⟩ a3).setCell ⟨b, 4, none⟩ a4).heap[b]? = some (.cells #[a0, a1, a2, a3, a4] T (0, 0)) := by
  have h0 := row_setC (o := 0) h a0
  have h1 := row_setC (o := 1) h0 a1
  have h2 := row_setC (o := 2) h1 a2
  have h3 := row_setC (o := 3) h2 a3
  have h4 := row_setC (o := 4) h3 a4
  rw [h4]
  simp only [List.setIfInBounds_toArray, List.set_cons_zero, List.set_cons_succ]
theorem s5_below {W w : World} {b B : Nat} {a0 a1 a2 a3 a4 : Value} (h : Below B W w) (hb : B ≤ b) : Below B W (((((w.setCell ⟨b, 0, none⟩ a0).setCell ⟨b, 1, none⟩ a1).setCell ⟨b, 2, none⟩ a2).setCell ⟨b, 3, none⟩ a3).setCell ⟨b, 4, none⟩ a4) :=
  ((((h.setCell (p := ⟨b, 0, none⟩) hb a0).setCell (p := ⟨b, 1, none⟩) hb a1).setCell (p := ⟨b, 2, none⟩) hb a2).setCell (p := ⟨b, 3, none⟩) hb a3).setCell (p := ⟨b, 4, none⟩) hb a4
def zeroSc : Value := .agg #[.int .i64 0, .int .i64 0, .slice none 0 0, .slice none 0 0, .slice none 0 0]
set_option maxRecDepth 100000 in
theorem sc_parse_big (s : ByteArray) (hs : 1048576 < s.size) (W : World) :
    Calls Tryd.prog 12 #[.string s] W fun e w' => e = .returned (.tuple #[zeroSc, .int .i64 0, .int .i64 12]) ∧ Below W.heap.size W w' := by
  have d1 : decide ((1048576 : Int) < (s.size : Int)) = true := decide_eq_true (by omega)
  have d1' : decide (1048576 < s.size) = true := decide_eq_true (by omega)
  have HB := Lib.hid ((Below.refl W.heap.size W).alloc (Nat.le_refl _) (.cells #[.int .i64 0, .int .i64 0, .slice none 0 0, .slice none 0 0, .slice none 0 0] 25))
  go_enter Tryd.func12, Tryd.ntmps12
  go_wp2_with fail
  refine bodyPost_ret (sc_res3 (p := 2) (a := 3) (b := 4) (ty := 25) rfl _ _ W.heap.size 25 #[.int .i64 0, .int .i64 0, .slice none 0 0, .slice none 0 0, .slice none 0 0] (0, 0) _ (.int .i64 0) (.int .i64 12) rfl rfl rfl (heap_alloc_new _ _) Tryd.underlying25 rfl (by kernel_rfl)) rfl ?_
  exact ⟨rfl, HB.out⟩
set_option maxRecDepth 100000 in
theorem sc_parse_none (s : ByteArray) (h0 : 0 < s.size) (hs : s.size ≤ 1048576) (hn : Lib.index s.data.toList [10] = -1) (W : World) (hm : MaxAt W) (h1 : 1 < W.heap.size) :
    Calls Tryd.prog 12 #[.string s] W fun e w' => e = .returned (.tuple #[zeroSc, .int .i64 1, .int .i64 10]) ∧ Below W.heap.size W w' := by
  have d1 : decide ((1048576 : Int) < (s.size : Int)) = false := decide_eq_false (by omega)
  have d1' : decide (1048576 < s.size) = false := decide_eq_false (by omega)
  have d2 : decide ((0 : Int) < (s.size : Int)) = true := decide_eq_true (by omega)
  have d2' : decide (0 < s.size) = true := decide_eq_true (by omega)
  obtain ⟨w0, hw0, r0, hB0, hs0⟩ := boxG W #[.int .i64 0, .int .i64 0, .slice none 0 0, .slice none 0 0, .slice none 0 0] 25
  have C := Lib.hid (sc_words_none s (by omega) hn w0 (hm.below hB0 h1))
  have HR0 := Lib.hid r0
  have HB0 := Lib.hid hB0
  have HS0 := Lib.hid hs0
  clear h0 hs hn hm r0 hB0 hs0 h1
  go_enter Tryd.func12, Tryd.ntmps12
  go_wp2_with fail
  refine wp_loop_rounds 1 ?_
  rw [rounds_succ]
  go_wp2_with fail
  refine C.out.mono ?_
  rintro e w1 ⟨rfl, hb1⟩
  have HR1 := Lib.hid ((hb1.block _ (by have := HS0.out; omega)).trans HR0.out)
  have HB1 := Lib.hid (HB0.out.trans (hb1.mono HB0.out.size))
  have c0 := frozen_of_row w1 W.heap.size 0 _ _ HR1.out
  have c1 := frozen_of_row w1 W.heap.size 1 _ _ HR1.out
  have c2 := frozen_of_row w1 W.heap.size 2 _ _ HR1.out
  have c3 := frozen_of_row w1 W.heap.size 3 _ _ HR1.out
  have c4 := frozen_of_row w1 W.heap.size 4 _ _ HR1.out
  have e0 : w1.cell? ⟨W.heap.size, 0, none⟩ = some (.int .i64 0) := by rw [cell_of_row _ _ _ _ _ _ HR1.out]; rfl
  have e1 : w1.cell? ⟨W.heap.size, 1, none⟩ = some (.int .i64 0) := by rw [cell_of_row _ _ _ _ _ _ HR1.out]; rfl
  have e2 : w1.cell? ⟨W.heap.size, 2, none⟩ = some (.slice none 0 0) := by rw [cell_of_row _ _ _ _ _ _ HR1.out]; rfl
  have e3 : w1.cell? ⟨W.heap.size, 3, none⟩ = some (.slice none 0 0) := by rw [cell_of_row _ _ _ _ _ _ HR1.out]; rfl
  have e4 : w1.cell? ⟨W.heap.size, 4, none⟩ = some (.slice none 0 0) := by rw [cell_of_row _ _ _ _ _ _ HR1.out]; rfl
  clear hb1
  go_wp2_with fail
  refine bodyPost_ret (sc_res3 (p := 2) (a := 3) (b := 4) (ty := 25) rfl _ _ W.heap.size 25 #[.int .i64 0, .int .i64 0, .slice none 0 0, .slice none 0 0, .slice none 0 0] (0, 0) _ (.int .i64 1) (.int .i64 10) rfl rfl rfl (s5_row HR1.out) Tryd.underlying25 rfl (by kernel_rfl)) rfl ?_
  exact ⟨rfl, s5_below HB1.out (Nat.le_refl _)⟩
theorem sc_cells5 {w : World} {b : Nat} {T : TypeId} {x0 x1 x2 x3 x4 : Value} (h : w.heap[b]? = some (.cells #[x0, x1, x2, x3, x4] T (0, 0))) :
    w.cell? ⟨b, 0, none⟩ = some x0 ∧ w.cell? ⟨b, 1, none⟩ = some x1 ∧ w.cell? ⟨b, 2, none⟩ = some x2 ∧ w.cell? ⟨b, 3, none⟩ = some x3 ∧ w.cell? ⟨b, 4, none⟩ = some x4 := by
  refine ⟨?_, ?_, ?_, ?_, ?_⟩ <;> (rw [cell_of_row _ _ _ _ _ _ h]; rfl)
set_option maxRecDepth 100000 in
theorem l42_alike0 (W : World) : Calls Tryd.prog 14 #[zeroSc, zeroSc] W fun e w' => e = .returned (.bool true) ∧ Below W.heap.size W w' := by
  have SM := Lib.hid (fun (w : World) => c_samei (w := w) (c := 0) (d := 0) (rowI_nil w) (rowI_nil w))
  obtain ⟨w0, hw0, r0, hB0, hs0⟩ := boxG W #[.int .i64 0, .int .i64 0, .slice none 0 0, .slice none 0 0, .slice none 0 0] 25
  obtain ⟨w1, hw1, r1, hB1, hs1⟩ := boxG w0 #[.int .i64 0, .int .i64 0, .slice none 0 0, .slice none 0 0, .slice none 0 0] 34
  have HF := Lib.hid (fun (u : World) (hu : Below w1.heap.size w1 u) => And.intro (sc_cells5 ((hu.block _ (by omega)).trans ((hB1.block _ (by omega)).trans r0))) (sc_cells5 ((hu.block _ (by omega)).trans r1)))
  obtain ⟨⟨x0, x1, x2, x3, x4⟩, ⟨y0, y1, y2, y3, y4⟩⟩ := HF.out w1 (Below.refl _ _)
  have HB := Lib.hid (hB0.trans (hB1.mono (by omega)))
  clear r0 r1 hB0 hB1 hs0 hs1
  unfold zeroSc
  go_enter Tryd.func14, Tryd.ntmps14
  go_wp2_with fail
  refine (SM.out _).mono ?_
  rintro e w2 ⟨rfl, hb2⟩
  obtain ⟨⟨x0, x1, x2, x3, x4⟩, ⟨y0, y1, y2, y3, y4⟩⟩ := HF.out w2 hb2
  have HB2 := Lib.hid hb2
  clear hb2
  go_wp2_with fail
  refine (SM.out _).mono ?_
  rintro e w3 ⟨rfl, hb3⟩
  have HB3 := Lib.hid (HB2.out.trans (hb3.mono HB2.out.size))
  obtain ⟨⟨x0, x1, x2, x3, x4⟩, ⟨y0, y1, y2, y3, y4⟩⟩ := HF.out w3 HB3.out
  have HF3 := Lib.hid (HB.out.trans (HB3.out.mono HB.out.size))
  clear hb3
  go_wp2_with fail
  refine wp_loop_rounds 1 ?_
  rw [rounds_succ]
  go_wp2_with fail
  go_ret
  exact ⟨rfl, HF3.out⟩
end Go.Proofs.YtoejflnlkapkiaaDoor
