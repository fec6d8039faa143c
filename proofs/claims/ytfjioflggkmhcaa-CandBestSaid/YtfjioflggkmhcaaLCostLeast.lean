/- CostLeast: which plan of any row is the least work, or that there is none; of arguments of a bulk of at most 1048576. -/
import Derived.Test.YtfjioflggkmhcaaCosti
import Derived.Test.YtfjioflggkmhcaaOpens
namespace Go.Proofs.Ytfjioflggkmhcaa
open Go.ChangeShapes Go.WideShapes Go.ChangeAt Go.RowKit
set_option linter.unusedVariables false
theorem cost_least (f : Fo) (v : Value) (lim : Nat) (W : World) (hK : Kids W lim v f) (hl : lim ≤ W.heap.size) (wf : f.wf) (hN : f.cnt ≤ 1048576) :
    Calls Try.prog 37 #[v] W fun e w' => e = .returned (.tuple #[.int .i64 (ob (lst f f.len)), .bool (lst f f.len).isSome]) ∧ Below W.heap.size W w' := by
  have CF := Lib.hid (cost_first f v lim W hK hl wf hN)
  obtain ⟨p, m, c, rfl, hc1, hc2, HM⟩ := hK.shape
  generalize ob (lst f f.len) = x at *
  generalize (lst f f.len).isSome = y at *
  clear hK
  go_enter Try.func37, Try.ntmps37
  go_wp2_with fail
  refine CF.out.mono ?_
  rintro e w1 ⟨rfl, b1⟩
  go_wp2_with fail
  go_ret2
  exact ⟨rfl, b1⟩
namespace costLeast
set_option maxRecDepth 100000 in
set_option maxHeartbeats 4000000 in
theorem main (f : Fo) (v : Value) (W : World) (hK : Kids W W.heap.size v f) (wf : f.wf) (hN : f.cnt ≤ 1048576) :
    Calls Try.prog 9 #[v] W fun e w' => e = .returned (.bool true) ∧ Below W.heap.size W w' := by
  have LV := Lib.hid (fun w => live18 w)
  obtain ⟨p, m, c, rfl, hc1, hc2, HM⟩ := hK.shape
  have hW0 := Below.refl W.heap.size W
  by_cases hbig : 12 < m
  · have db : decide ((12 : Int) < (m : Int)) = true := decide_eq_true (by omega)
    clear hK
    go_enter Try.func9, Try.ntmps9
    go_wp2_with fail
    refine (LV.out _).mono ?_
    rintro e w1 ⟨rfl, b1⟩
    go_wp2_with fail
    go_ret
    exact ⟨rfl, b1⟩
  have db : decide ((12 : Int) < (m : Int)) = false := decide_eq_false (by omega)
  have NC := Lib.hid (fun i (hi : i < m) => (show (f.kids i).cnt ≤ 1048576 by have := Fo.cnt_kids f i (by rw [← HM.out]; exact hi); omega))
  go_enter Try.func9, Try.ntmps9
  go_wp2_with fail
  go_loopw [3] (fun x wr => ∃ i : Nat, i ≤ m ∧ x = .int .i64 i ∧ Hid (Below W.heap.size W wr)) (fun x _ => m - (intOf x).toNat)
  case atStart => exact ⟨0, Nat.zero_le _, rfl, Lib.hid hW0⟩
  case round =>
    clear hW0
    obtain ⟨i, hi, rfl, HB⟩ := hrel
    have hs := HB.out.size
    have hKr := hK.below (Nat.le_refl _) HB.out
    by_cases hlt : i < m
    case neg =>
      obtain rfl : i = m := by omega
      have dd : decide ((i : Int) < (i : Int)) = false := decide_eq_false (by omega)
      have CL := Lib.hid (cost_least f (.slice p i c) W.heap.size wr hKr hs wf hN)
      have RL := Lib.hid (fun w' (hb : Below wr.heap.size wr w') => r18_least f (.slice p i c) W.heap.size w' (hKr.below hs hb) (by have := hb.size; omega) wf hN)
      generalize lst f f.len = q at *
      clear hKr hK
      cases q with
      | none =>
        rw [show (none : Option Nat).isSome = false from rfl, show ob none = 0 from rfl] at CL
        rw [show oi none = -1 from rfl] at RL
        go_wp2_with fail
        refine CL.out.mono ?_
        rintro e w1 ⟨rfl, b1⟩
        go_wp2_with fail
        refine (RL.out _ b1).mono ?_
        rintro e w2 ⟨rfl, b2⟩
        have b2 := b1.trans (b2.mono b1.size)
        go_wp2_with fail
        refine (LV.out _).mono ?_
        rintro e w3 ⟨rfl, b3⟩
        go_wp2_with fail
        go_ret
        exact ⟨rfl, HB.out.trans ((b2.trans (b3.mono b2.size)).mono hs)⟩
      | some a =>
        rw [show (some a).isSome = true from rfl, show ob (some a) = (a : Int) from rfl] at CL
        rw [show oi (some a) = (a : Int) from rfl] at RL
        have da : decide ((a : Int) < 0) = false := decide_eq_false (by omega)
        have de : ((a : Int) == (a : Int)) = true := by simp
        go_wp2_with fail
        refine CL.out.mono ?_
        rintro e w1 ⟨rfl, b1⟩
        go_wp2_with fail
        refine (RL.out _ b1).mono ?_
        rintro e w2 ⟨rfl, b2⟩
        have b2 := b1.trans (b2.mono b1.size)
        go_wp2_with fail
        refine (LV.out _).mono ?_
        rintro e w3 ⟨rfl, b3⟩
        go_wp2_with fail
        go_ret
        exact ⟨rfl, HB.out.trans ((b2.trans (b3.mono b2.size)).mono hs)⟩
    have dd : decide ((i : Int) < (m : Int)) = true := decide_eq_true (by omega)
    obtain ⟨b, o, v, rfl, hb, g0, g1, g2, hki⟩ := hKr.get hlt
    obtain ⟨px, mx, cx, rfl, _, _, _⟩ := hki.shape
    have MU := Lib.hid (r13_much (f.kids i) (.slice px mx cx) (f.k i) (f.n i) W.heap.size wr (NC.out i hlt) hki hs)
    generalize f.k i = kx at *
    generalize f.n i = nx at *
    clear hki hKr
    by_cases hM : 80 < (f.kids i).cnt + 1
    · rw [decide_eq_true hM] at MU
      clear hM
      go_wp2_with fail
      refine MU.out.mono ?_
      rintro e w1 ⟨rfl, b1⟩
      go_wp2_with fail
      refine (LV.out _).mono ?_
      rintro e w3 ⟨rfl, b3⟩
      go_wp2_with fail
      go_ret
      exact ⟨rfl, HB.out.trans ((b1.trans (b3.mono b1.size)).mono hs)⟩
    · rw [decide_eq_false hM] at MU
      clear hM
      go_wp2_with fail
      refine MU.out.mono ?_
      rintro e w1 ⟨rfl, b1⟩
      go_wp2_with fail
      go_roundw
      case rel => exact ⟨i + 1, by omega, by go_num, Lib.hid (HB.out.trans (b1.mono hs))⟩
      case measure => (first | (simp [intOf]; done) | (simp [intOf]; omega) | (simp only [intOf]; omega))
theorem walk (W : World) (v0 : Value) (t0 : Fo) (hK0 : Kids W W.heap.size v0 t0) (wf0 : t0.wf) (hN0 : t0.cnt + 1 ≤ 1048576) :
    Calls Try.prog 9 #[v0] W fun e W' => e = .returned (.bool true) ∧ Below W.heap.size W W' :=
  main t0 v0 W hK0 wf0 (by omega)
end costLeast
end Go.Proofs.Ytfjioflggkmhcaa
