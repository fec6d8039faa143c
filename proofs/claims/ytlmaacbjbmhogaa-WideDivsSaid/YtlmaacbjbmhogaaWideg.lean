/- Package wide's Div. -/
import Derived.Test.YtlmaacbjbmhogaaWidef
namespace Go.Proofs.Ytlmaacbjbmhogaa
open Go.ChangeShapes Go.WideShapes Go.ChangeAt Go.RowKit
set_option linter.unusedVariables false
theorem results_cell_slots {P : Program} {fn : Func} {p a b : Tmp} {ty : TypeId} (h : fn.results = #[.cell p ty, .tmp a, .tmp b]) (tmps : Array Value) (w : World) (g : Nat) (t : TypeId) (cs : Array Value) (fr : Nat × Nat) (d : TypeDesc) (x y : Value)
    (hp : tmps.getD p undef = .pointer (some ⟨g, 0, none⟩)) (ha : tmps.getD a undef = x) (hb : tmps.getD b undef = y) (hg : w.heap[g]? = some (.cells cs t fr))
    (hu : P.underlying ty = some d) (hd : (match d with | .struct _ | .array _ _ => true | _ => false) = true) (hi : (P.info? ty).map (·.size) = some cs.size) :
    (results fn tmps).run P w = .ok (.tuple #[.agg cs, x, y]) w := by
  have e : tmps[p]?.getD undef = .pointer (some ⟨g, 0, none⟩) := by simpa using hp
  have ea : tmps[a]?.getD undef = x := by simpa using ha
  have eb : tmps[b]?.getD undef = y := by simpa using hb
  simp [results, h, e, ea, eb, asAddr, run_loadVar_row w g t ty cs fr d hg hu hd hi]
theorem row_setCell {w : World} {g o : Nat} {cs : Array Value} {T : TypeId} {fr : Nat × Nat} (h : w.heap[g]? = some (.cells cs T fr)) (v : Value) : (w.setCell ⟨g, o, none⟩ v).heap[g]? = some (.cells (cs.setIfInBounds o v) T fr) := by
  simp [World.setCell, Array.getElem?_modify, h]
theorem set2u {w : World} {g : Nat} {a b : Value} {T : TypeId} (h : w.heap[g]? = some (.cells #[a, b] T (0, 0))) (c d : Value) : w.cell? ⟨g, 0, none⟩ = some a ∧ w.cell? ⟨g, 1, none⟩ = some b ∧ w.frozen? ⟨g, 0, none⟩ = false ∧ w.frozen? ⟨g, 1, none⟩ = false ∧ ((w.setCell ⟨g, 0, none⟩ c).setCell ⟨g, 1, none⟩ d).heap[g]? = some (.cells #[c, d] T (0, 0)) :=
  ⟨by rw [cell_of_row _ _ _ _ _ _ h]; rfl, by rw [cell_of_row _ _ _ _ _ _ h]; rfl, frozen_of_row _ _ _ _ _ h, frozen_of_row _ _ _ _ _ h, by rw [row_setCell (row_setCell h c) d]; rfl⟩
theorem div_row (w : World) (h l : Int) : ∃ w0 : World, w0 = (w.alloc (.cells #[.int .u64 h, .int .u64 l] 25)).alloc (.cells #[.int .u64 0, .int .u64 0] 25) ∧ w0.cell? ⟨w.heap.size, 0, none⟩ = some (.int .u64 h) ∧ w0.cell? ⟨w.heap.size, 1, none⟩ = some (.int .u64 l) ∧ w0.heap[w.heap.size + 1]? = some (.cells #[.int .u64 0, .int .u64 0] 25 (0, 0)) ∧ Below w.heap.size w w0 ∧ w0.heap.size = w.heap.size + 1 + 1 := by
  obtain ⟨w1, h1, a0, a1, b1, s1⟩ := box2u w h l 25
  obtain ⟨w2, h2, c0, c1, b2, s2⟩ := box2u w1 0 0 25
  have lt : w.heap.size < w1.heap.size := by omega
  have hn := heap_alloc_newest w1 (.cells #[.int .u64 0, .int .u64 0] 25) _ s1
  rw [← h2] at hn
  exact ⟨w2, by rw [h2, h1], (b2.cell (p := ⟨w.heap.size, 0, none⟩) lt).trans a0, (b2.cell (p := ⟨w.heap.size, 1, none⟩) lt).trans a1, hn, b1.trans (b2.mono b1.size), by omega⟩
set_option maxRecDepth 100000 in
set_option maxHeartbeats 4000000 in
theorem wide_div0 (h l : Int) (w : World) : Calls Try.prog 17 #[.agg #[.int .u64 h, .int .u64 l], .int .u64 0] w fun e w' => e = .returned (.tuple #[.agg #[.int .u64 0, .int .u64 0], .int .u64 0, .int .i64 2]) ∧ Below w.heap.size w w' := by
  obtain ⟨w0, hw0, c0, c1, hr, hB, hs⟩ := div_row w h l
  obtain ⟨c2, c3, f2, f3, hr2⟩ := set2u hr (.int .u64 0) (.int .u64 0)
  have HR := Lib.hid hr2
  have HB := Lib.hid ((hB.setCell (p := ⟨w.heap.size + 1, 0, none⟩) (show w.heap.size ≤ w.heap.size + 1 by omega) (.int .u64 0)).setCell (p := ⟨w.heap.size + 1, 1, none⟩) (show w.heap.size ≤ w.heap.size + 1 by omega) (.int .u64 0))
  clear hr2
  have d0 : ((0 : Int) == 0) = true := rfl
  go_enter Try.func17, Try.ntmps17
  go_upto_region 1 with fail
  rw [← hw0]
  clear hw0
  go_wp2_with fail
  refine bodyPost_ret (results_cell_slots (p := 4) (a := 5) (b := 6) (ty := 25) rfl _ _ _ 25 #[.int .u64 0, .int .u64 0] (0, 0) _ (.int .u64 0) (.int .i64 2) rfl rfl rfl HR.out Try.underlying25 rfl (by kernel_rfl)) rfl ?_
  exact ⟨rfl, HB.out⟩
set_option maxRecDepth 100000 in
set_option maxHeartbeats 4000000 in
theorem wide_div1 (h l b q1 hm q r : Nat) (w : World) (hb0 : 0 < b) (hb : b < 18446744073709551616) (hh : h < 18446744073709551616) (hl : l < 18446744073709551616)
    (e1 : h / b = q1) (e2 : h % b = hm) (e3 : (hm * 18446744073709551616 + l) / b = q) (e4 : (hm * 18446744073709551616 + l) % b = r) :
    Calls Try.prog 17 #[.agg #[.int .u64 h, .int .u64 l], .int .u64 b] w fun e w' => e = .returned (.tuple #[.agg #[.int .u64 q1, .int .u64 q], .int .u64 r, .int .i64 0]) ∧ Below w.heap.size w w' := by
  have BD := Lib.hid (fun w => bits_div64 hm l b w (by rw [← e2]; exact Nat.mod_lt _ hb0) hb hl)
  rw [e3, e4] at BD
  obtain ⟨w0, hw0, c0, c1, hr, hB, hs⟩ := div_row w (h : Int) (l : Int)
  have hq1 : q1 < 18446744073709551616 := by rw [← e1]; exact Nat.lt_of_le_of_lt (Nat.div_le_self _ _) hh
  have g1 : (h : Int) % (b : Int) = (hm : Int) := by rw [← e2]; exact (Int.natCast_emod h b).symm
  have g3 : (h : Int).tmod (b : Int) = (hm : Int) := by rw [Int.tmod_eq_emod_of_nonneg (by omega)]; exact g1
  have hmlt : hm < 18446744073709551616 := by rw [← e2]; exact Nat.lt_of_le_of_lt (Nat.mod_le _ _) hh
  have g4 : IntKind.u64.wrap (hm : Int) = (hm : Int) := IntWalk.u64_in _ (by omega)
  have g2 : IntKind.u64.wrap ((h : Int) / (b : Int)) = (q1 : Int) := by
    rw [← Int.natCast_ediv, e1]; exact IntWalk.u64_in _ (by omega)
  have d0 : ((b : Int) == 0) = false := by simp; omega
  have b0 : ¬ ((b : Int) = 0) := by omega
  have bn : ¬ (b = 0) := by omega
  clear e1 e2 e3 e4
  have l0 : w.heap.size < w0.heap.size := by omega
  have l1 : w.heap.size + 1 < w0.heap.size := by omega
  go_enter Try.func17, Try.ntmps17
  go_upto_region 1 with fail
  rw [← hw0]
  clear hw0
  have MK := Lib.hid (fun w' (hb : Below w0.heap.size w0 w') => (show w'.cell? ⟨w.heap.size, 0, none⟩ = some (.int .u64 (h : Int)) ∧ w'.cell? ⟨w.heap.size, 1, none⟩ = some (.int .u64 (l : Int)) ∧ Below w0.heap.size w0 w' from ⟨(hb.cell (p := ⟨w.heap.size, 0, none⟩) l0).trans c0, (hb.cell (p := ⟨w.heap.size, 1, none⟩) l0).trans c1, hb⟩))
  have KP := Lib.hid (fun w1 w' (hS : w1.cell? ⟨w.heap.size, 0, none⟩ = some (.int .u64 (h : Int)) ∧ w1.cell? ⟨w.heap.size, 1, none⟩ = some (.int .u64 (l : Int)) ∧ Below w0.heap.size w0 w1) (hb : Below w1.heap.size w1 w') => MK.out w' (hS.2.2.trans (hb.mono hS.2.2.size)))
  have KR := Lib.hid (fun u (hBB : Below w0.heap.size w0 u) => (show u.heap[w.heap.size + 1]? = some (.cells #[.int .u64 0, .int .u64 0] 25 (0, 0)) by rw [hBB.block _ l1]; exact hr))
  have HB := Lib.hid hB
  clear hr hB c0 c1 hs
  go_wp2_with fail
  go_region_held3 (fun w' => w'.cell? ⟨w.heap.size, 0, none⟩ = some (.int .u64 (h : Int)) ∧ w'.cell? ⟨w.heap.size, 1, none⟩ = some (.int .u64 (l : Int)) ∧ Below w0.heap.size w0 w') (first | exact MK.out _ ((Below.refl _ _).drew) | assumption | (refine KP.out _ _ ?_ hb; first | assumption | exact MK.out _ ((Below.refl _ _).drew))) (first | (go_at_call 28; (with_reducible refine (BD.out _).mono ?_); rintro e w' ⟨rfl, hb⟩))
  rename_i hSS
  obtain ⟨c0, c1, hBB⟩ := hSS
  obtain ⟨c2, c3, f2, f3, hr2⟩ := set2u (KR.out _ hBB) (.int .u64 (q1 : Int)) (.int .u64 (q : Int))
  have HR := Lib.hid hr2
  have HB2 := Lib.hid (((HB.out.trans (hBB.mono HB.out.size)).setCell (p := ⟨w.heap.size + 1, 0, none⟩) (show w.heap.size ≤ w.heap.size + 1 by omega) (.int .u64 (q1 : Int))).setCell (p := ⟨w.heap.size + 1, 1, none⟩) (show w.heap.size ≤ w.heap.size + 1 by omega) (.int .u64 (q : Int)))
  clear hr2
  clear hBB
  go_wp2_with fail
  refine bodyPost_ret (results_cell_slots (p := 4) (a := 5) (b := 6) (ty := 25) rfl _ _ _ 25 #[.int .u64 (q1 : Int), .int .u64 (q : Int)] (0, 0) _ (.int .u64 (r : Int)) (.int .i64 0) rfl rfl rfl HR.out Try.underlying25 rfl (by kernel_rfl)) rfl ?_
  exact ⟨rfl, HB2.out⟩
end Go.Proofs.Ytlmaacbjbmhogaa
