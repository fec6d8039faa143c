/- TableFills: any room is filled with what is made, if it has just as many places; or stays. -/
import Derived.Test.YtcfmiflhhjoofaaM1
import Derived.Test.YtcfmiflhhjoofaaTab10
namespace Go.Proofs.Ytcfmiflhhjoofaa
open Go.ChangeShapes Go.WideShapes Go.ChangeAt Go.RowKit
set_option linter.unusedVariables false
theorem TabOf.wf {k : Int} {N M : Nat} {d : Int} {R : Nat} {ys : List Int} (h : TabOf k N M d R ys) : ∀ z ∈ ys, (Lit.int .u64 z).wf = true := by
  rcases h with ⟨a, b, rfl⟩ | ⟨a, b, rfl⟩ | ⟨a, b, x, c, rfl⟩ | ⟨a, b, rfl⟩
  · exact powl_wf _ _
  · exact rowc_wf _ _ _
  · exact horl_wf _ _ _
  · exact horl_wf _ _ _
namespace tableFills
theorem owns_none (w : World) : Owns (w.alloc (.cells #[] 43)) w.heap.size 43 .u64 (.slice (some ⟨w.heap.size, 0, none⟩) 0 0) [] :=
  ⟨rfl, .inr ⟨w.heap.size, 0, #[], rfl, Nat.le_refl _, heap_alloc_new _ _, Nat.le_refl _, by unfold maxLen; omega, rfl, rfl⟩⟩
theorem far (k nn m d : Int) (W : World) (a : Option Addr) (n c : Nat) (h : 200 < n) :
    Calls Try.prog 4 #[.agg #[.int .i64 k, .int .i64 nn, .int .i64 m, .int .i64 d], .slice a n c] W fun e W' => e = .returned (.bool true) ∧ Below W.heap.size W W' := by
  have g1 : decide (200 < (n : Int)) = true := decide_eq_true (by omega)
  obtain ⟨w0, hw0, c0, c1, c2, c3, hW, hlt⟩ := box4 W k nn m d 23
  go_enter Try.func4, Try.ntmps4
  go_wp2_with fail
  rw [← hw0]
  clear hw0
  refine (live16 _).mono ?_
  rintro e w1 ⟨rfl, b1⟩
  go_wp2_with fail
  go_ret
  exact ⟨rfl, hW.trans (b1.mono hW.size)⟩
theorem big (k nn m d : Int) (W : World) (a : Option Addr) (n c : Nat) (zs : List Int) (hx : Row W a n zs) (wn : -9223372036854775808 ≤ nn ∧ nn ≤ 9223372036854775807) (wm : m ≤ 9223372036854775807) (hn : n ≤ 200) (h : rightb k nn m d = true) (hs : smallb k nn m d = false) :
    Calls Try.prog 4 #[.agg #[.int .i64 k, .int .i64 nn, .int .i64 m, .int .i64 d], .slice a n c] W fun e W' => e = .returned (.bool true) ∧ Below W.heap.size W W' := by
  have g1 : decide (200 < (n : Int)) = false := decide_eq_false (by omega)
  have RR := fun w => r15_right k nn m d w wn wm
  rw [h] at RR
  have RR := Lib.hid RR
  have RS := fun w => r16_small k nn m d w wn wm
  rw [hs] at RS
  have RS := Lib.hid RS
  obtain ⟨w0, hw0, c0, c1, c2, c3, hW, hlt⟩ := box4 W k nn m d 23
  have HX := Lib.hid (hx.below hW)
  clear hx
  have hB := Below.refl w0.heap.size w0
  go_enter Try.func4, Try.ntmps4
  go_wp2_with fail
  rw [← hw0]
  clear hw0
  refine (RR.out _).mono ?_
  rintro e w1 ⟨rfl, b1⟩
  have HX := Lib.hid (HX.out.below b1)
  have hB := hB.trans (b1.mono hB.size)
  obtain ⟨e0, e1, e2, e3⟩ := box_keep2 hlt c0 c1 c2 c3 hB
  clear b1
  go_wp2_with fail
  refine (RS.out _).mono ?_
  rintro e w2 ⟨rfl, b1⟩
  have HX := Lib.hid (HX.out.below b1)
  have hB := hB.trans (b1.mono hB.size)
  clear e0 e1 e2 e3
  obtain ⟨e0, e1, e2, e3⟩ := box_keep2 hlt c0 c1 c2 c3 hB
  clear b1
  go_wp2_with fail
  refine (live16 _).mono ?_
  rintro e w3 ⟨rfl, b1⟩
  have HX := Lib.hid (HX.out.below b1)
  have hB := hB.trans (b1.mono hB.size)
  clear e0 e1 e2 e3
  obtain ⟨e0, e1, e2, e3⟩ := box_keep2 hlt c0 c1 c2 c3 hB
  clear b1
  go_wp2_with fail
  go_ret
  exact ⟨rfl, hW.trans (hB.mono hW.size)⟩
theorem noz (k nn m d : Int) (W : World) (a : Option Addr) (c : Nat) (hx : Row W a 0 []) (wn : -9223372036854775808 ≤ nn ∧ nn ≤ 9223372036854775807) (wm : m ≤ 9223372036854775807) (h : rightb k nn m d = false) :
    Calls Try.prog 4 #[.agg #[.int .i64 k, .int .i64 nn, .int .i64 m, .int .i64 d], .slice a 0 c] W fun e W' => e = .returned (.bool true) ∧ Below W.heap.size W W' := by
  have RR := fun w => r15_right k nn m d w wn wm
  rw [h] at RR
  have RR := Lib.hid RR
  have FN_ := Lib.hid (fun a L c w => fill_no k nn m d _ a L c rfl w wn h)
  obtain ⟨w0, hw0, c0, c1, c2, c3, hW, hlt⟩ := box4 W k nn m d 23
  have HX := Lib.hid (hx.below hW)
  clear hx
  have hB := Below.refl w0.heap.size w0
  go_enter Try.func4, Try.ntmps4
  go_wp2_with fail
  rw [← hw0]
  clear hw0
  refine (RR.out _).mono ?_
  rintro e w1 ⟨rfl, b1⟩
  have HX := Lib.hid (HX.out.below b1)
  have hB := hB.trans (b1.mono hB.size)
  clear b1
  have E0 := Lib.hid (owns_none w1)
  have HXa := Lib.hid (HX.out.alloc (.cells #[] 43))
  have hBa := hB.alloc hB.size (.cells #[] 43)
  have hza : w1.heap.size ≤ (w1.alloc (.cells #[] 43)).heap.size := by simp
  obtain ⟨f0, f1, f2, f3⟩ := box_keep2 hlt c0 c1 c2 c3 hBa
  have HR5 := Lib.hid (show Row (w1.alloc (.cells #[] 43)) (some ⟨w1.heap.size, 0, none⟩) 0 [] from ⟨rfl, .inl rfl, by simp, by omega⟩)
  go_wp2_with (at_builtin; refine append_empty Try.underlying25 info_u64 rfl _ _ rfl rfl rfl ?_)
  have HX := HXa
  have hB := hBa
  refine (FN_.out _ _ _ _).mono ?_
  rintro e w4 ⟨rfl, b1⟩
  have HX := Lib.hid (HX.out.below b1)
  have HR5 := Lib.hid (HR5.out.below b1)
  have hB := hB.trans (b1.mono hB.size)
  clear f0 f1 f2 f3
  obtain ⟨f0, f1, f2, f3⟩ := box_keep2 hlt c0 c1 c2 c3 hB
  clear b1
  go_wp2_with fail
  refine (RR.out _).mono ?_
  rintro e w5 ⟨rfl, b1⟩
  have HX := Lib.hid (HX.out.below b1)
  have HR5 := Lib.hid (HR5.out.below b1)
  have hB := hB.trans (b1.mono hB.size)
  clear f0 f1 f2 f3
  obtain ⟨f0, f1, f2, f3⟩ := box_keep2 hlt c0 c1 c2 c3 hB
  clear b1
  go_wp2_with fail
  refine (c_same HR5.out HX.out).mono ?_
  rintro e w6 ⟨rfl, b1⟩
  have HX := Lib.hid (HX.out.below b1)
  have HR5 := Lib.hid (HR5.out.below b1)
  have hB := hB.trans (b1.mono hB.size)
  clear f0 f1 f2 f3
  obtain ⟨f0, f1, f2, f3⟩ := box_keep2 hlt c0 c1 c2 c3 hB
  clear b1
  go_wp2_with fail
  refine (live16 _).mono ?_
  rintro e w7 ⟨rfl, b1⟩
  have hB := hB.trans (b1.mono hB.size)
  clear b1
  go_wp2_with fail
  go_ret
  exact ⟨rfl, hW.trans (hB.mono hW.size)⟩
theorem nom (k nn m d : Int) (W : World) (a : Option Addr) (n c : Nat) (zs : List Int) (hx : Row W a n zs) (wn : -9223372036854775808 ≤ nn ∧ nn ≤ 9223372036854775807) (wm : m ≤ 9223372036854775807) (hn : n ≤ 200) (h0 : 0 < n) (h : rightb k nn m d = false) :
    Calls Try.prog 4 #[.agg #[.int .i64 k, .int .i64 nn, .int .i64 m, .int .i64 d], .slice a n c] W fun e W' => e = .returned (.bool true) ∧ Below W.heap.size W W' := by
  have g1 : decide (200 < (n : Int)) = false := decide_eq_false (by omega)
  have RR := fun w => r15_right k nn m d w wn wm
  rw [h] at RR
  have RR := Lib.hid RR
  have FN_ := Lib.hid (fun a L c w => fill_no k nn m d _ a L c rfl w wn h)
  obtain ⟨w0, hw0, c0, c1, c2, c3, hW, hlt⟩ := box4 W k nn m d 23
  have HX := Lib.hid (hx.below hW)
  clear hx
  have hB := Below.refl w0.heap.size w0
  go_enter Try.func4, Try.ntmps4
  go_wp2_with fail
  rw [← hw0]
  clear hw0
  refine (RR.out _).mono ?_
  rintro e w1 ⟨rfl, b1⟩
  have HX := Lib.hid (HX.out.below b1)
  have hB := hB.trans (b1.mono hB.size)
  clear b1
  have E0 := Lib.hid (owns_none w1)
  have HXa := Lib.hid (HX.out.alloc (.cells #[] 43))
  have hBa := hB.alloc hB.size (.cells #[] 43)
  have hza : w1.heap.size ≤ (w1.alloc (.cells #[] 43)).heap.size := by simp
  go_wp2_with (at_builtin; refine append_many Try.underlying25 info_u64 rfl _ _ rfl rfl E0.out rfl HXa.out.len HXa.out.reads hza (by simp; omega) (by omega) ?_; intro v3 w3 hO3 hb3; obtain ⟨f0, f1, f2, f3⟩ := box_keep2 hlt c0 c1 c2 c3 (hBa.trans (hb3.mono hB.size)))
  have hO3 : Owns w3 w1.heap.size 43 .u64 v3 zs := hO3
  obtain ⟨a5, c5, rfl, hrd, _, _⟩ := hO3.shape
  have HR5 := Lib.hid (show Row w3 a5 n zs from ⟨HX.out.len, hrd, HX.out.wf, HX.out.small⟩)
  rw [HX.out.len]
  have HX := Lib.hid (HX.out.below (((Below.refl _ _).alloc (Nat.le_refl _) _).trans hb3))
  have hB := hBa.trans (hb3.mono hB.size)
  refine (FN_.out _ _ _ _).mono ?_
  rintro e w4 ⟨rfl, b1⟩
  have HX := Lib.hid (HX.out.below b1)
  have HR5 := Lib.hid (HR5.out.below b1)
  have hB := hB.trans (b1.mono hB.size)
  clear f0 f1 f2 f3
  obtain ⟨f0, f1, f2, f3⟩ := box_keep2 hlt c0 c1 c2 c3 hB
  clear b1
  go_wp2_with fail
  refine (RR.out _).mono ?_
  rintro e w5 ⟨rfl, b1⟩
  have HX := Lib.hid (HX.out.below b1)
  have HR5 := Lib.hid (HR5.out.below b1)
  have hB := hB.trans (b1.mono hB.size)
  clear f0 f1 f2 f3
  obtain ⟨f0, f1, f2, f3⟩ := box_keep2 hlt c0 c1 c2 c3 hB
  clear b1
  go_wp2_with fail
  refine (c_same HR5.out HX.out).mono ?_
  rintro e w6 ⟨rfl, b1⟩
  have HX := Lib.hid (HX.out.below b1)
  have HR5 := Lib.hid (HR5.out.below b1)
  have hB := hB.trans (b1.mono hB.size)
  clear f0 f1 f2 f3
  obtain ⟨f0, f1, f2, f3⟩ := box_keep2 hlt c0 c1 c2 c3 hB
  clear b1
  go_wp2_with fail
  refine (live16 _).mono ?_
  rintro e w7 ⟨rfl, b1⟩
  have hB := hB.trans (b1.mono hB.size)
  clear b1
  go_wp2_with fail
  go_ret
  exact ⟨rfl, hW.trans (hB.mono hW.size)⟩
theorem lenz (k nn m d : Int) (W : World) (a : Option Addr) (c : Nat) (hx : Row W a 0 []) (wn : -9223372036854775808 ≤ nn ∧ nn ≤ 9223372036854775807) (wm : m ≤ 9223372036854775807) (h : rightb k nn m d = true) (hs : smallb k nn m d = true) (hL : ((0 : Nat) : Int) ≠ roomi k nn m) :
    Calls Try.prog 4 #[.agg #[.int .i64 k, .int .i64 nn, .int .i64 m, .int .i64 d], .slice a 0 c] W fun e W' => e = .returned (.bool true) ∧ Below W.heap.size W W' := by
  have RR := fun w => r15_right k nn m d w wn wm
  rw [h] at RR
  have RR := Lib.hid RR
  have RS := fun w => r16_small k nn m d w wn wm
  rw [hs] at RS
  have RS := Lib.hid RS
  have RO := fun w => r15_room k nn m d w wn wm
  rw [if_pos h] at RO
  have RO := Lib.hid RO
  have FL := Lib.hid (fun a c w => fill_len k nn m d a 0 c w wn wm h hL)
  have hne : (((0 : Int)) != roomi k nn m) = true := by simp at hL ⊢; omega
  clear hs
  generalize roomi k nn m = R at *
  obtain ⟨w0, hw0, c0, c1, c2, c3, hW, hlt⟩ := box4 W k nn m d 23
  have HX := Lib.hid (hx.below hW)
  clear hx
  have hB := Below.refl w0.heap.size w0
  go_enter Try.func4, Try.ntmps4
  go_wp2_with fail
  rw [← hw0]
  clear hw0
  refine (RR.out _).mono ?_
  rintro e w1 ⟨rfl, b1⟩
  have HX := Lib.hid (HX.out.below b1)
  have hB := hB.trans (b1.mono hB.size)
  obtain ⟨e0, e1, e2, e3⟩ := box_keep2 hlt c0 c1 c2 c3 hB
  clear b1
  go_wp2_with fail
  refine (RS.out _).mono ?_
  rintro e w2 ⟨rfl, b1⟩
  have HX := Lib.hid (HX.out.below b1)
  have hB := hB.trans (b1.mono hB.size)
  clear b1 e0 e1 e2 e3
  have E0 := Lib.hid (owns_none w2)
  have HXa := Lib.hid (HX.out.alloc (.cells #[] 43))
  have hBa := hB.alloc hB.size (.cells #[] 43)
  have hza : w2.heap.size ≤ (w2.alloc (.cells #[] 43)).heap.size := by simp
  obtain ⟨f0, f1, f2, f3⟩ := box_keep2 hlt c0 c1 c2 c3 hBa
  have HR5 := Lib.hid (show Row (w2.alloc (.cells #[] 43)) (some ⟨w2.heap.size, 0, none⟩) 0 [] from ⟨rfl, .inl rfl, by simp, by omega⟩)
  go_wp2_with (at_builtin; refine append_empty Try.underlying25 info_u64 rfl _ _ rfl rfl rfl ?_)
  have HX := HXa
  have hB := hBa
  refine (FL.out _ _ _).mono ?_
  rintro e w4 ⟨rfl, b1⟩
  have HX := Lib.hid (HX.out.below b1)
  have HR5 := Lib.hid (HR5.out.below b1)
  have hB := hB.trans (b1.mono hB.size)
  clear f0 f1 f2 f3
  obtain ⟨f0, f1, f2, f3⟩ := box_keep2 hlt c0 c1 c2 c3 hB
  clear b1
  go_wp2_with fail
  refine (RR.out _).mono ?_
  rintro e w5 ⟨rfl, b1⟩
  have HX := Lib.hid (HX.out.below b1)
  have HR5 := Lib.hid (HR5.out.below b1)
  have hB := hB.trans (b1.mono hB.size)
  clear f0 f1 f2 f3
  obtain ⟨f0, f1, f2, f3⟩ := box_keep2 hlt c0 c1 c2 c3 hB
  clear b1
  go_wp2_with fail
  refine (RO.out _).mono ?_
  rintro e w5 ⟨rfl, b1⟩
  have HX := Lib.hid (HX.out.below b1)
  have HR5 := Lib.hid (HR5.out.below b1)
  have hB := hB.trans (b1.mono hB.size)
  clear f0 f1 f2 f3
  obtain ⟨f0, f1, f2, f3⟩ := box_keep2 hlt c0 c1 c2 c3 hB
  clear b1
  go_wp2_with fail
  refine (c_same HR5.out HX.out).mono ?_
  rintro e w6 ⟨rfl, b1⟩
  have HX := Lib.hid (HX.out.below b1)
  have HR5 := Lib.hid (HR5.out.below b1)
  have hB := hB.trans (b1.mono hB.size)
  clear f0 f1 f2 f3
  obtain ⟨f0, f1, f2, f3⟩ := box_keep2 hlt c0 c1 c2 c3 hB
  clear b1
  go_wp2_with fail
  refine (live16 _).mono ?_
  rintro e w7 ⟨rfl, b1⟩
  have hB := hB.trans (b1.mono hB.size)
  clear b1
  go_wp2_with fail
  go_ret
  exact ⟨rfl, hW.trans (hB.mono hW.size)⟩
theorem lenm (k nn m d : Int) (W : World) (a : Option Addr) (n c : Nat) (zs : List Int) (hx : Row W a n zs) (wn : -9223372036854775808 ≤ nn ∧ nn ≤ 9223372036854775807) (wm : m ≤ 9223372036854775807) (hn : n ≤ 200) (h0 : 0 < n) (h : rightb k nn m d = true) (hs : smallb k nn m d = true) (hL : ((n : Nat) : Int) ≠ roomi k nn m) :
    Calls Try.prog 4 #[.agg #[.int .i64 k, .int .i64 nn, .int .i64 m, .int .i64 d], .slice a n c] W fun e W' => e = .returned (.bool true) ∧ Below W.heap.size W W' := by
  have g1 : decide (200 < (n : Int)) = false := decide_eq_false (by omega)
  have RR := fun w => r15_right k nn m d w wn wm
  rw [h] at RR
  have RR := Lib.hid RR
  have RS := fun w => r16_small k nn m d w wn wm
  rw [hs] at RS
  have RS := Lib.hid RS
  have RO := fun w => r15_room k nn m d w wn wm
  rw [if_pos h] at RO
  have RO := Lib.hid RO
  have FL := Lib.hid (fun a c w => fill_len k nn m d a n c w wn wm h hL)
  have hne : ((n : Int) != roomi k nn m) = true := by simp; omega
  clear hs
  generalize roomi k nn m = R at *
  obtain ⟨w0, hw0, c0, c1, c2, c3, hW, hlt⟩ := box4 W k nn m d 23
  have HX := Lib.hid (hx.below hW)
  clear hx
  have hB := Below.refl w0.heap.size w0
  go_enter Try.func4, Try.ntmps4
  go_wp2_with fail
  rw [← hw0]
  clear hw0
  refine (RR.out _).mono ?_
  rintro e w1 ⟨rfl, b1⟩
  have HX := Lib.hid (HX.out.below b1)
  have hB := hB.trans (b1.mono hB.size)
  obtain ⟨e0, e1, e2, e3⟩ := box_keep2 hlt c0 c1 c2 c3 hB
  clear b1
  go_wp2_with fail
  refine (RS.out _).mono ?_
  rintro e w2 ⟨rfl, b1⟩
  have HX := Lib.hid (HX.out.below b1)
  have hB := hB.trans (b1.mono hB.size)
  clear b1 e0 e1 e2 e3
  have E0 := Lib.hid (owns_none w2)
  have HXa := Lib.hid (HX.out.alloc (.cells #[] 43))
  have hBa := hB.alloc hB.size (.cells #[] 43)
  have hza : w2.heap.size ≤ (w2.alloc (.cells #[] 43)).heap.size := by simp
  go_wp2_with (at_builtin; refine append_many Try.underlying25 info_u64 rfl _ _ rfl rfl E0.out rfl HXa.out.len HXa.out.reads hza (by simp; omega) (by omega) ?_; intro v3 w3 hO3 hb3; obtain ⟨f0, f1, f2, f3⟩ := box_keep2 hlt c0 c1 c2 c3 (hBa.trans (hb3.mono hB.size)))
  have hO3 : Owns w3 w2.heap.size 43 .u64 v3 zs := hO3
  obtain ⟨a5, c5, rfl, hrd, _, _⟩ := hO3.shape
  have HR5 := Lib.hid (show Row w3 a5 n zs from ⟨HX.out.len, hrd, HX.out.wf, HX.out.small⟩)
  rw [HX.out.len]
  have HX := Lib.hid (HX.out.below (((Below.refl _ _).alloc (Nat.le_refl _) _).trans hb3))
  have hB := hBa.trans (hb3.mono hB.size)
  refine (FL.out _ _ _).mono ?_
  rintro e w4 ⟨rfl, b1⟩
  have HX := Lib.hid (HX.out.below b1)
  have HR5 := Lib.hid (HR5.out.below b1)
  have hB := hB.trans (b1.mono hB.size)
  clear f0 f1 f2 f3
  obtain ⟨f0, f1, f2, f3⟩ := box_keep2 hlt c0 c1 c2 c3 hB
  clear b1
  go_wp2_with fail
  refine (RR.out _).mono ?_
  rintro e w5 ⟨rfl, b1⟩
  have HX := Lib.hid (HX.out.below b1)
  have HR5 := Lib.hid (HR5.out.below b1)
  have hB := hB.trans (b1.mono hB.size)
  clear f0 f1 f2 f3
  obtain ⟨f0, f1, f2, f3⟩ := box_keep2 hlt c0 c1 c2 c3 hB
  clear b1
  go_wp2_with fail
  refine (RO.out _).mono ?_
  rintro e w5 ⟨rfl, b1⟩
  have HX := Lib.hid (HX.out.below b1)
  have HR5 := Lib.hid (HR5.out.below b1)
  have hB := hB.trans (b1.mono hB.size)
  clear f0 f1 f2 f3
  obtain ⟨f0, f1, f2, f3⟩ := box_keep2 hlt c0 c1 c2 c3 hB
  clear b1
  go_wp2_with fail
  refine (c_same HR5.out HX.out).mono ?_
  rintro e w6 ⟨rfl, b1⟩
  have HX := Lib.hid (HX.out.below b1)
  have HR5 := Lib.hid (HR5.out.below b1)
  have hB := hB.trans (b1.mono hB.size)
  clear f0 f1 f2 f3
  obtain ⟨f0, f1, f2, f3⟩ := box_keep2 hlt c0 c1 c2 c3 hB
  clear b1
  go_wp2_with fail
  refine (live16 _).mono ?_
  rintro e w7 ⟨rfl, b1⟩
  have hB := hB.trans (b1.mono hB.size)
  clear b1
  go_wp2_with fail
  go_ret
  exact ⟨rfl, hW.trans (hB.mono hW.size)⟩
theorem fits (k m d : Int) (N : Nat) (W : World) (a : Option Addr) (n c : Nat) (zs : List Int) (hx : Row W a n zs) (wm : m ≤ 9223372036854775807) (hn : n ≤ 200) (h : rightb k N m d = true) (hs : smallb k N m d = true) (hL : (n : Int) = roomi k N m) (hh : hasb N = true) (hd : d = 0 ∨ d = 1) (h1 : 1 ≤ N) (hN : N ≤ 140) (hm : Nm k N m d) :
    Calls Try.prog 4 #[.agg #[.int .i64 k, .int .i64 N, .int .i64 m, .int .i64 d], .slice a n c] W fun e W' => e = .returned (.bool true) ∧ Below W.heap.size W W' := by
  have wn : -9223372036854775808 ≤ (N : Int) ∧ (N : Int) ≤ 9223372036854775807 := by omega
  have g1 : decide (200 < (n : Int)) = false := decide_eq_false (by omega)
  have RR := fun w => r15_right k N m d w wn wm
  rw [h] at RR
  have RR := Lib.hid RR
  have RS := fun w => r16_small k N m d w wn wm
  rw [hs] at RS
  have RS := Lib.hid RS
  have RO := fun w => r15_room k N m d w wn wm
  rw [if_pos h] at RO
  have RO := Lib.hid RO
  have FO := Lib.hid (fun g c w zs (hz : zs.length = n) hP => fill_ok k m d N n c g zs w wm h hh hd h1 hN hm hL hz hP)
  have RM := Lib.hid (fun w => r16_make k m d N w hh hd hN hm)
  have NZ := Lib.hid (fun R ys (ht : TabOf k N m.toNat d R ys) => ht.nz hm hh hd h1 hN)
  have h0 : 0 < n := by
    rcases hm with ⟨rfl, rfl⟩ | ⟨rfl, rfl⟩ | ⟨rfl, rfl, hq, a, hM, hM2⟩ | ⟨rfl, M, a, rfl, h2', hM, hM2, hl⟩
    · rw [show roomi 1 N 0 = N from by unfold roomi; rw [if_neg (by omega), if_neg (by omega)]] at hL; omega
    · rw [show roomi 2 N 0 = N from by unfold roomi; rw [if_neg (by omega), if_neg (by omega)]] at hL; omega
    · rw [show roomi 3 N 0 = N - 1 from by unfold roomi; rw [if_pos rfl]] at hL
      have := hq.1; omega
    · rw [show roomi 4 N M = M from by unfold roomi; rw [if_neg (by omega), if_pos rfl]] at hL; omega
  have hne : ((n : Int) != roomi k N m) = false := by simp; omega
  clear hs hm hL
  generalize roomi k N m = R0 at *
  obtain ⟨w0, hw0, c0, c1, c2, c3, hW, hlt⟩ := box4 W k N m d 23
  have HX := Lib.hid (hx.below hW)
  clear hx
  have hB := Below.refl w0.heap.size w0
  go_enter Try.func4, Try.ntmps4
  go_wp2_with fail
  rw [← hw0]
  clear hw0
  refine (RR.out _).mono ?_
  rintro e w1 ⟨rfl, b1⟩
  have HX := Lib.hid (HX.out.below b1)
  have hB := hB.trans (b1.mono hB.size)
  obtain ⟨e0, e1, e2, e3⟩ := box_keep2 hlt c0 c1 c2 c3 hB
  clear b1
  go_wp2_with fail
  refine (RS.out _).mono ?_
  rintro e w2 ⟨rfl, b1⟩
  have HX := Lib.hid (HX.out.below b1)
  have hB := hB.trans (b1.mono hB.size)
  clear b1 e0 e1 e2 e3
  have E0 := Lib.hid (owns_none w2)
  have HXa := Lib.hid (HX.out.alloc (.cells #[] 43))
  have hBa := hB.alloc hB.size (.cells #[] 43)
  have hza : w2.heap.size ≤ (w2.alloc (.cells #[] 43)).heap.size := by simp
  go_wp2_with (at_builtin; refine append_many Try.underlying25 info_u64 rfl _ _ rfl rfl E0.out rfl HXa.out.len HXa.out.reads hza (by simp; omega) (by omega) ?_; intro v3 w3 hO3 hb3; obtain ⟨f0, f1, f2, f3⟩ := box_keep2 hlt c0 c1 c2 c3 (hBa.trans (hb3.mono hB.size)))
  have hO3 : Owns w3 w2.heap.size 43 .u64 v3 zs := hO3
  obtain ⟨g, c5, rfl, hg, hP⟩ := hO3.pre (by rw [HX.out.len]; exact h0)
  have hP : Pre w3 g 43 zs := hP
  rw [HX.out.len]
  have hgB : w0.heap.size ≤ g := by have := hB.size; omega
  have hB := hBa.trans (hb3.mono hB.size)
  refine (FO.out g c5 _ zs HX.out.len hP).mono ?_
  rintro e w4 ⟨rfl, ys, ht, hyl, hP4, hb4⟩
  have hB := hB.trans (hb4.below hgB hB.size)
  obtain ⟨z1, z2, z3⟩ := NZ.out n ys ht
  have HR5 := Lib.hid (show Row w4 (some ⟨g, 0, none⟩) n ys from ⟨hyl, hP4.reads, ht.wf, by omega⟩)
  have HT := Lib.hid ht
  clear f0 f1 f2 f3 hP4 hb4 ht hyl z1 z2 z3 NZ FO
  obtain ⟨f0, f1, f2, f3⟩ := box_keep2 hlt c0 c1 c2 c3 hB
  go_wp2_with fail
  refine (RR.out _).mono ?_
  rintro e w5 ⟨rfl, b1⟩
  have HR5 := Lib.hid (HR5.out.below b1)
  have hB := hB.trans (b1.mono hB.size)
  clear f0 f1 f2 f3
  obtain ⟨f0, f1, f2, f3⟩ := box_keep2 hlt c0 c1 c2 c3 hB
  clear b1
  go_wp2_with fail
  refine (RO.out _).mono ?_
  rintro e w5 ⟨rfl, b1⟩
  have HR5 := Lib.hid (HR5.out.below b1)
  have hB := hB.trans (b1.mono hB.size)
  clear f0 f1 f2 f3
  obtain ⟨f0, f1, f2, f3⟩ := box_keep2 hlt c0 c1 c2 c3 hB
  clear b1
  go_wp2_with fail
  refine (RM.out _).mono ?_
  rintro e w6 ⟨R', ys', ht', p', c', rfl, hr', b1⟩
  have HR5 := Lib.hid (HR5.out.below b1)
  have hB := hB.trans (b1.mono hB.size)
  clear f0 f1 f2 f3
  obtain ⟨f0, f1, f2, f3⟩ := box_keep2 hlt c0 c1 c2 c3 hB
  obtain ⟨rfl, rfl⟩ := TabOf.uniq HT.out ht'
  have HR6 := Lib.hid hr'
  clear hr' ht'
  clear b1
  go_wp2_with fail
  refine (c_same HR5.out HR6.out).mono ?_
  rintro e w6 ⟨rfl, b1⟩
  have hB := hB.trans (b1.mono hB.size)
  clear f0 f1 f2 f3
  obtain ⟨f0, f1, f2, f3⟩ := box_keep2 hlt c0 c1 c2 c3 hB
  clear b1
  go_wp2_with fail
  refine (live16 _).mono ?_
  rintro e w7 ⟨rfl, b1⟩
  have hB := hB.trans (b1.mono hB.size)
  clear b1
  go_wp2_with fail
  go_ret
  exact ⟨rfl, hW.trans (hB.mono hW.size)⟩
theorem walk (W : World) (a0_0 : Int) (w0_0 : -9223372036854775808 ≤ a0_0 ∧ a0_0 ≤ 9223372036854775807) (a0_1 : Int) (w0_1 : -9223372036854775808 ≤ a0_1 ∧ a0_1 ≤ 9223372036854775807) (a0_2 : Int) (w0_2 : -9223372036854775808 ≤ a0_2 ∧ a0_2 ≤ 9223372036854775807) (a0_3 : Int) (w0_3 : -9223372036854775808 ≤ a0_3 ∧ a0_3 ≤ 9223372036854775807) (a1 : Option Addr) (n1 c1 : Nat) (w1 : IsRow .u64 W a1 n1 c1) :
    Calls Try.prog 4 #[.agg #[.int .i64 a0_0, .int .i64 a0_1, .int .i64 a0_2, .int .i64 a0_3], .slice a1 n1 c1] W fun e W' => e = .returned (.bool true) ∧ Below W.heap.size W W' := by
  by_cases hn : 200 < n1
  · exact far _ _ _ _ W _ _ _ hn
  obtain ⟨zs, hx⟩ := Row.of_isRow w1 (by omega)
  cases h : rightb a0_0 a0_1 a0_2 a0_3 with
  | false =>
    by_cases h0 : n1 = 0
    · subst h0
      obtain rfl := List.length_eq_zero_iff.1 hx.len
      exact noz _ _ _ _ W _ _ hx w0_1 w0_2.2 h
    · exact nom _ _ _ _ W _ _ _ _ hx w0_1 w0_2.2 (by omega) (by omega) h
  | true =>
    cases hs : smallb a0_0 a0_1 a0_2 a0_3 with
    | false => exact big _ _ _ _ W _ _ _ _ hx w0_1 w0_2.2 (by omega) h hs
    | true =>
      by_cases hL : (n1 : Int) = roomi a0_0 a0_1 a0_2
      · have hs2 := hs
        unfold smallb at hs2
        rw [if_pos h, Bool.and_eq_true] at hs2
        obtain ⟨N, rfl, hh, hd, h1, hm⟩ := nm_of h (of_decide_eq_true hs2.2) (of_decide_eq_true hs2.1)
        exact fits _ _ _ N W _ _ _ _ hx w0_2.2 (by omega) h hs hL hh hd h1 (by have := of_decide_eq_true hs2.2; omega) hm
      · by_cases h0 : n1 = 0
        · subst h0
          obtain rfl := List.length_eq_zero_iff.1 hx.len
          exact lenz _ _ _ _ W _ _ hx w0_1 w0_2.2 h hs hL
        · exact lenm _ _ _ _ W _ _ _ _ hx w0_1 w0_2.2 (by omega) (by omega) h hs hL
end tableFills
end Go.Proofs.Ytcfmiflhhjoofaa
