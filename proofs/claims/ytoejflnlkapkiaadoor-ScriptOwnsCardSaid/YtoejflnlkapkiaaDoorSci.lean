/- Reference 42's Own; the law's same. -/
import Derived.Test.YtoejflnlkapkiaaDoorSch
namespace Go.Proofs.YtoejflnlkapkiaaDoor
open Go.ChangeShapes Go.WideShapes Go.ChangeAt Go.RowKit
set_option linter.unusedVariables false
set_option linter.unusedSimpArgs false
set_option maxRecDepth 100000 in
set_option maxHeartbeats 4000000 in
theorem r42_own (c : Cl) (x : Value) (W : World) (h : RowX W x c.xs) : Calls Tryd.prog 18 #[c.val x] W (OwnOk W c) := by
  obtain ⟨kd, n, dir, s, who, ar, xs⟩ := c
  obtain ⟨p, k, rfl, hr⟩ := h
  have HR := Lib.hid hr
  simp only at hr
  show Calls Tryd.prog 18 #[.agg #[.int .i64 kd, .int .i64 n, .int .i64 dir, .string s, .int .i64 who, .int .i64 ar, .slice p xs.length k]] W (OwnOk W ⟨kd, n, dir, s, who, ar, xs⟩)
  clear hr
  by_cases h1 : kd = 1
  · subst h1
    have ho : ownC ⟨1, n, dir, s, who, ar, xs⟩ = ⟨1, n, dir, ⟨#[]⟩, 0, 0, []⟩ := rfl
    go_enter Tryd.func18, Tryd.ntmps18
    go_wp2_with fail
    refine call_ret (c := ⟨1, n, dir, ⟨#[]⟩, 0, 0, []⟩) rfl _ _ (W.heap.size + 1) (.slice none 0 0) rfl rfl (tri _ _ _ _).1 ?_
    exact ⟨.slice none 0 0, by rw [ho], by rw [ho]; exact row_nilX _, (tri _ _ _ _).2⟩
  by_cases h2 : kd = 2
  · subst h2
    have ho : ownC ⟨2, n, dir, s, who, ar, xs⟩ = ⟨2, n, dir, ⟨#[]⟩, 0, 0, []⟩ := rfl
    go_enter Tryd.func18, Tryd.ntmps18
    go_wp2_with fail
    refine call_ret (c := ⟨2, n, dir, ⟨#[]⟩, 0, 0, []⟩) rfl _ _ (W.heap.size + 1) (.slice none 0 0) rfl rfl (tri _ _ _ _).1 ?_
    exact ⟨.slice none 0 0, by rw [ho], by rw [ho]; exact row_nilX _, (tri _ _ _ _).2⟩
  by_cases h3 : kd = 3
  · subst h3
    have ho : ownC ⟨3, n, dir, s, who, ar, xs⟩ = ⟨3, n, dir, ⟨#[]⟩, 0, 0, []⟩ := rfl
    go_enter Tryd.func18, Tryd.ntmps18
    go_wp2_with fail
    refine call_ret (c := ⟨3, n, dir, ⟨#[]⟩, 0, 0, []⟩) rfl _ _ (W.heap.size + 1) (.slice none 0 0) rfl rfl (tri _ _ _ _).1 ?_
    exact ⟨.slice none 0 0, by rw [ho], by rw [ho]; exact row_nilX _, (tri _ _ _ _).2⟩
  by_cases h4 : kd = 4
  · subst h4
    have ho : ownC ⟨4, n, dir, s, who, ar, xs⟩ = ⟨4, 0, 0, s, 0, 0, []⟩ := rfl
    go_enter Tryd.func18, Tryd.ntmps18
    go_wp2_with fail
    refine call_ret (c := ⟨4, 0, 0, s, 0, 0, []⟩) rfl _ _ (W.heap.size + 1) (.slice none 0 0) rfl rfl (tri _ _ _ _).1 ?_
    exact ⟨.slice none 0 0, by rw [ho], by rw [ho]; exact row_nilX _, (tri _ _ _ _).2⟩
  by_cases h7 : kd = 7
  · subst h7
    have ho : ownC ⟨7, n, dir, s, who, ar, xs⟩ = ⟨7, 0, 0, ⟨#[]⟩, who, ar, []⟩ := rfl
    go_enter Tryd.func18, Tryd.ntmps18
    go_wp2_with fail
    refine call_ret (c := ⟨7, 0, 0, ⟨#[]⟩, who, ar, []⟩) rfl _ _ (W.heap.size + 1) (.slice none 0 0) rfl rfl (tri _ _ _ _).1 ?_
    exact ⟨.slice none 0 0, by rw [ho], by rw [ho]; exact row_nilX _, (tri _ _ _ _).2⟩
  by_cases h6 : kd = 6
  · subst h6
    have ho : ownC ⟨6, n, dir, s, who, ar, xs⟩ = ⟨6, 0, 0, ⟨#[]⟩, who, ar, xs⟩ := rfl
    go_enter Tryd.func18, Tryd.ntmps18
    go_wp2_with fail
    refine call_ret (c := ⟨6, 0, 0, ⟨#[]⟩, who, ar, xs⟩) rfl _ _ (W.heap.size + 1) (.slice p xs.length k) rfl rfl (tri _ _ _ _).1 ?_
    exact ⟨.slice p xs.length k, by rw [ho], by rw [ho]; exact ⟨p, k, rfl, HR.out.below (tri _ _ _ _).2⟩, (tri _ _ _ _).2⟩
  by_cases h13 : 1 ≤ kd ∧ kd ≤ 3
  · omega
  · have e0 : decide (kd ≥ 1) = decide (1 ≤ kd) := rfl
    have e4 : (kd == 4) = false := by simp [h4]
    have e6 : (kd == 6) = false := by simp [h6]
    have e7 : (kd == 7) = false := by simp [h7]
    by_cases hge : 1 ≤ kd
    · have d1 : decide (1 ≤ kd) = true := decide_eq_true hge
      have d2 : decide (kd ≤ 3) = false := decide_eq_false (by omega)
      have ho : ownC ⟨kd, n, dir, s, who, ar, xs⟩ = ⟨kd, 0, 0, ⟨#[]⟩, 0, 0, []⟩ := by unfold ownC; simp only [h1, h2, h3, h4, h6, h7, false_or, if_false]
      clear h1 h2 h3 h4 h6 h7 h13 hge e0
      go_enter Tryd.func18, Tryd.ntmps18
      go_wp2_with fail
      refine call_ret (c := ⟨kd, 0, 0, ⟨#[]⟩, 0, 0, []⟩) rfl _ _ (W.heap.size + 1) (.slice none 0 0) rfl rfl (tri _ _ _ _).1 ?_
      exact ⟨.slice none 0 0, by rw [ho], by rw [ho]; exact row_nilX _, (tri _ _ _ _).2⟩
    have d1 : decide (1 ≤ kd) = false := decide_eq_false hge
    have ho : ownC ⟨kd, n, dir, s, who, ar, xs⟩ = ⟨kd, 0, 0, ⟨#[]⟩, 0, 0, []⟩ := by unfold ownC; simp only [h1, h2, h3, h4, h6, h7, false_or, if_false]
    clear h1 h2 h3 h4 h6 h7 h13 hge e0
    go_enter Tryd.func18, Tryd.ntmps18
    go_wp2_with fail
    refine call_ret (c := ⟨kd, 0, 0, ⟨#[]⟩, 0, 0, []⟩) rfl _ _ (W.heap.size + 1) (.slice none 0 0) rfl rfl (tri _ _ _ _).1 ?_
    exact ⟨.slice none 0 0, by rw [ho], by rw [ho]; exact row_nilX _, (tri _ _ _ _).2⟩
set_option maxRecDepth 100000 in
set_option maxHeartbeats 4000000 in
theorem l42_same (c : Cl) (x y : Value) (W : World) (hx : RowX W x c.xs) (hy : RowX W y c.xs) : Calls Tryd.prog 17 #[c.val x, c.val y] W fun e w' => e = .returned (.bool true) ∧ Below W.heap.size W w' := by
  obtain ⟨kd, n, dir, s, who, ar, xs⟩ := c
  obtain ⟨p, k, rfl, hr⟩ := hx
  obtain ⟨q, j, rfl, hq⟩ := hy
  show Calls Tryd.prog 17 #[.agg #[.int .i64 kd, .int .i64 n, .int .i64 dir, .string s, .int .i64 who, .int .i64 ar, .slice p xs.length k], .agg #[.int .i64 kd, .int .i64 n, .int .i64 dir, .string s, .int .i64 who, .int .i64 ar, .slice q xs.length j]] W _
  have SM := Lib.hid (fun (w : World) (hb : Below W.heap.size W w) => c_same (c := k) (d := j) (hr.below hb) (hq.below hb))
  obtain ⟨w0, hw0, r0, hB0, hs0⟩ := boxG W #[.int .i64 kd, .int .i64 n, .int .i64 dir, .string s, .int .i64 who, .int .i64 ar, .slice p xs.length k] 49
  obtain ⟨w1, hw1, r1, hB1, hs1⟩ := boxG w0 #[.int .i64 kd, .int .i64 n, .int .i64 dir, .string s, .int .i64 who, .int .i64 ar, .slice q xs.length j] 49
  obtain ⟨x0, x1, x2, x3, x4, x5, x6⟩ := cells7 ((hB1.block _ (by omega)).trans r0)
  obtain ⟨y0, y1, y2, y3, y4, y5, y6⟩ := cells7 r1
  have HB := Lib.hid (hB0.trans (hB1.mono (by omega)))
  clear hr hq r0 r1 hB0 hB1 hs0 hs1
  go_enter Tryd.func17, Tryd.ntmps17
  go_wp2_with fail
  refine (SM.out _ HB.out).mono ?_
  rintro e w2 ⟨rfl, hb2⟩
  have HB2 := Lib.hid (HB.out.trans (hb2.mono HB.out.size))
  clear hb2
  go_wp2_with fail
  go_ret
  exact ⟨rfl, HB2.out⟩
end Go.Proofs.YtoejflnlkapkiaaDoor
