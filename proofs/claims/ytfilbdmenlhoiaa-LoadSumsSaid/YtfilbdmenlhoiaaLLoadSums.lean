/- LoadSums. -/
import Derived.Test.YtfilbdmenlhoiaaLv45
import Derived.Test.YtfilbdmenlhoiaaOpenl
import Derived.BigRegion
import Derived.StillTailTactics
namespace Go.Proofs.Ytfilbdmenlhoiaa
open Go.ChangeShapes Go.WideShapes Go.ChangeAt Go.RowKit
set_option linter.unusedVariables false
set_option linter.unusedSimpArgs false
namespace loadSums
set_option maxRecDepth 100000 in
set_option maxHeartbeats 8000000 in
theorem walk (W : World) (v0 : Value) (l0 : List Ld) (hR0 : RowL W W.heap.size v0 l0) :
    Calls Try.prog 3 #[v0] W fun e W' => e = .returned (.bool true) ∧ Below W.heap.size W W' := by
  have HR := Lib.hid hR0
  obtain ⟨p, c, rfl, hn, hx⟩ := hR0
  have HX := Lib.hid hx
  have LV := Lib.hid live45
  by_cases h60 : 60 < l0.length
  · have hd : decide ((l0.length : Int) > 60) = true := by simp; omega
    clear hx
    go_enter Try.func3, Try.ntmps3
    go_wp2_with fail
    refine (LV.out W).mono ?_
    rintro e w1 ⟨rfl, hb1⟩
    have HB1 := Lib.hid hb1
    clear hb1
    go_wp2_with fail
    go_ret
    exact ⟨rfl, HB1.out⟩
  · obtain ⟨R, hR⟩ : ∃ R, W.heap.size = R := ⟨_, rfl⟩
    obtain ⟨w0, hw0⟩ : ∃ w0, W.alloc (.cells #[.int .i64 0, .int .i64 0, .int .i64 0, .int .i64 0] 25) = w0 := ⟨_, rfl⟩
    have H0 := Lib.hid (show LdB w0 R ⟨0, 0, 0, 0⟩ ∧ Below R W w0 from by
      subst hR
      rw [← hw0]
      exact ⟨heap_alloc_new _ _, (Below.refl _ _).alloc (Nat.le_refl _) _⟩)
    have HW := Lib.hid hw0
    clear hw0 hx
    go_enter Try.func3, Try.ntmps3
    go_wp2_with fail
    go_loopw [4] (fun x wr => ∃ (i : Nat), x = .int .i64 i ∧ Hid (i ≤ l0.length) ∧ Hid (LdB wr R (lsum (l0.take i))) ∧ Hid (Below R W wr)) (fun x _ => l0.length - (match x with | .int _ n => n.toNat | _ => 0))
    case atStart =>
      rw [HW.out]
      exact ⟨0, rfl, Lib.hid (Nat.zero_le _), Lib.hid H0.out.1, Lib.hid H0.out.2⟩
    case round =>
      obtain ⟨i, rfl, HI, HS, HB⟩ := hrel
      by_cases hi : i < l0.length
      · obtain ⟨x, hx⟩ : ∃ x, l0[i]? = some x := ⟨_, List.getElem?_eq_getElem hi⟩
        obtain ⟨hok, b, o, rfl, hA⟩ := HX.out i x hx
        rw [hR] at hA
        obtain ⟨hbl, a0, a1, a2, a3⟩ := hA.below HB.out
        have hbl2 : b < wr.heap.size := by have := g_lt HS.out; omega
        have SP := Lib.hid (lsum_succ hx)
        have WR := Lib.hid (show wrap64 ((i : Int) + 1) = ((i + 1 : Nat) : Int) by simp only [wrap64]; omega)
        obtain ⟨s0, s1, s2, s3, f0, f1, f2, f3⟩ := HS.out.cells
        clear hx hA hok
        obtain ⟨sc, se, sd, sg, hs⟩ : ∃ sc se sd sg, lsum (l0.take i) = ⟨sc, se, sd, sg⟩ := ⟨_, _, _, _, rfl⟩
        rw [hs] at HS s0 s1 s2 s3
        obtain ⟨xc, xe, xd, xg⟩ := x
        simp only at s0 s1 s2 s3 a0 a1 a2 a3
        have HSS := Lib.hid hs
        have hRl := g_lt HS.out
        clear hs s0 s1 s2 s3 f0 f1 f2 f3
        obtain ⟨s0, s1, s2, s3, -, -, -, -⟩ := HS.out.cells
        simp only at s0 s1 s2 s3
        go_wp2_with fail
        go_still_tail 33, (by kernel_rfl)
        change wpList _ _ _ _ _ wr.drew
        obtain ⟨w2, hw2⟩ : ∃ w2, wr.drew = w2 := ⟨_, rfl⟩
        have HS2 := Lib.hid (show LdB w2 R ⟨sc, se, sd, sg⟩ by rw [← hw2]; exact HS.out)
        have HB2 := Lib.hid (show Below R W w2 by rw [← hw2]; exact HB.out.drew)
        rw [hw2]
        clear hw2 s0 s1 s2 s3 a0 a1 a2 a3
        obtain ⟨s0, s1, s2, s3, f0, f1, f2, f3⟩ := HS2.out.cells
        simp only at s0 s1 s2 s3
        have HS3 := Lib.hid (u4_at (x := ladd ⟨sc, se, sd, sg⟩ ⟨xc, xe, xd, xg⟩) HS2.out)
        have HB3 := Lib.hid (HB2.out.trans (u4_below (w := w2) (b := R) (ladd ⟨sc, se, sd, sg⟩ ⟨xc, xe, xd, xg⟩) (Nat.le_refl _)))
        obtain ⟨w3, hw3⟩ : ∃ w3, u4 w2 R (ladd ⟨sc, se, sd, sg⟩ ⟨xc, xe, xd, xg⟩) = w3 := ⟨_, rfl⟩
        rw [hw3] at HS3 HB3
        unfold u4 ladd at hw3
        simp only at hw3
        have HW3 := Lib.hid hw3
        clear hw3
        go_wp2_with fail
        rw [HW3.out]
        go_roundw
        case rel =>
          refine ⟨i + 1, by simp, Lib.hid hi, Lib.hid ?_, HB3⟩
          rw [SP.out, HSS.out]
          exact HS3.out
        case measure => simp; omega
      · have e := (show i = l0.length by have := HI.out; omega)
        subst e
        have hi : ¬ l0.length < l0.length := by omega
        obtain ⟨sc, se, sd, sg, hs⟩ : ∃ sc se sd sg, lsum l0 = ⟨sc, se, sd, sg⟩ := ⟨_, _, _, _, rfl⟩
        rw [List.take_length, hs] at HS
        obtain ⟨s0, s1, s2, s3, -, -, -, -⟩ := HS.out.cells
        simp only at s0 s1 s2 s3
        have hRl := g_lt HS.out
        have CS := Lib.hid (fun (w' : World) (hb : Below wr.heap.size wr w') => (show Calls Try.prog 7 #[.slice p l0.length c] w' fun e w2 => e = .returned (.agg #[.int .i64 sc, .int .i64 se, .int .i64 sd, .int .i64 sg]) ∧ Below w'.heap.size w' w2 from by
          have hB' : Below W.heap.size W w' := by
            have h1 := HB.out
            rw [← hR] at h1
            exact h1.trans (hb.mono h1.size)
          have hR' : RowL w' w'.heap.size (.slice p l0.length c) l0 := by
            obtain ⟨p', c', e', hn', hx'⟩ := HR.out.below hB'
            refine ⟨p', c', e', hn', fun j y hj => ?_⟩
            obtain ⟨g1, b1, o1, g2, g3⟩ := hx' j y hj
            exact ⟨g1, b1, o1, g2, ⟨Nat.lt_of_lt_of_le g3.1 hB'.size, g3.2⟩⟩
          have := l_sum _ l0 w' hR' (by omega)
          rw [hs] at this
          exact this))
        have MK := Lib.hid (fun w' (hb : Below wr.heap.size wr w') => (show w'.cell? ⟨R, 0, none⟩ = some (.int .i64 sc) ∧ w'.cell? ⟨R, 1, none⟩ = some (.int .i64 se) ∧ w'.cell? ⟨R, 2, none⟩ = some (.int .i64 sd) ∧ w'.cell? ⟨R, 3, none⟩ = some (.int .i64 sg) ∧ Below wr.heap.size wr w' from ⟨(hb.cell hRl).trans s0, (hb.cell hRl).trans s1, (hb.cell hRl).trans s2, (hb.cell hRl).trans s3, hb⟩))
        have KP := Lib.hid (fun w1 w' (hS : w1.cell? ⟨R, 0, none⟩ = some (.int .i64 sc) ∧ w1.cell? ⟨R, 1, none⟩ = some (.int .i64 se) ∧ w1.cell? ⟨R, 2, none⟩ = some (.int .i64 sd) ∧ w1.cell? ⟨R, 3, none⟩ = some (.int .i64 sg) ∧ Below wr.heap.size wr w1) (hb : Below w1.heap.size w1 w') => MK.out w' (hS.2.2.2.2.trans (hb.mono hS.2.2.2.2.size)))
        have SB := Lib.hid (fun w1 (hS : w1.cell? ⟨R, 0, none⟩ = some (.int .i64 sc) ∧ w1.cell? ⟨R, 1, none⟩ = some (.int .i64 se) ∧ w1.cell? ⟨R, 2, none⟩ = some (.int .i64 sd) ∧ w1.cell? ⟨R, 3, none⟩ = some (.int .i64 sg) ∧ Below wr.heap.size wr w1) => hS.2.2.2.2)
        clear hs
        go_wp2_with fail
        go_region_held3 (fun w' => w'.cell? ⟨R, 0, none⟩ = some (.int .i64 sc) ∧ w'.cell? ⟨R, 1, none⟩ = some (.int .i64 se) ∧ w'.cell? ⟨R, 2, none⟩ = some (.int .i64 sd) ∧ w'.cell? ⟨R, 3, none⟩ = some (.int .i64 sg) ∧ Below wr.heap.size wr w') (first | exact MK.out _ (Below.refl _ _) | exact MK.out _ ((Below.refl _ _).drew) | assumption | (refine KP.out _ _ ?_ hb; first | assumption | exact MK.out _ ((Below.refl _ _).drew))) (first | (go_at_call 7; (with_reducible refine (CS.out _ ?_).mono ?_); (first | exact (Below.refl _ _).drew | exact (Below.refl _ _) | assumption | (refine SB.out _ ?_; assumption)); rintro e w' ⟨rfl, hb⟩) | (go_at_call 6; (with_reducible refine (LV.out _).mono ?_); rintro e w' ⟨rfl, hb⟩))
        rename_i hSS
        have hBB := SB.out _ hSS
        go_wp2_with fail
        go_ret
        exact ⟨rfl, by rw [hR]; exact HB.out.trans (hBB.mono (by have := HB.out.size; omega))⟩
end loadSums
end Go.Proofs.Ytfilbdmenlhoiaa
