/- Put together by program (merge2.py): Syr Sym2 Srk Sbl Lay Lv Flat Rowsl. -/
import Derived.Deep.DeepCutAuto
import Derived.Deep.CutBlock
import Derived.Deep.Upon
import Derived.RangeFuncNested
import Derived.RangeFuncBound
import Derived.RangeFuncCalls
import Derived.RangeFuncLeaves
import Derived.Shelf.Abstract
import Derived.Shelf.RegionOpen
import Derived.WalkKit
import Derived.OwnWalkIn
import Derived.TacticsInMore
import Derived.LoopNIn
import Derived.LoopIn
import Derived.Test.YtmbcfijhlpeddaaDoorD11
import Derived.Test.YtmbcfijhlpeddaaDoorG3
import Derived.Test.YtmbcfijhlpeddaaDoorG7
import Derived.Test.YtmbcfijhlpeddaaDoorG9
/- symMerge where the right part is a single element. -/
namespace Go.Proofs.YtmbcfijhlpeddaaDoor
open Go.ChangeShapes Go.WideShapes Go.ChangeAt Go.RowKit
set_option linter.unusedVariables false
set_option linter.unusedSimpArgs false
attribute [local go_sem ↓] Go.wp_at_zero Go.wp_at_succ
set_option maxRecDepth 100000 in
set_option maxHeartbeats 8000000 in
theorem sym_right (a m b g N c B : Nat) (T : TypeId) (pre P post : List E5) (y : E5) (W : World) (hS : Srtr W B) (hne : B ≠ g) (ha : pre.length = a) (hm : a + P.length = m) (hb : m + 1 = b) (hP : 2 ≤ P.length) (hN : N = b + post.length) (hsm : N ≤ 1000000) (hc : N ≤ c ∧ c ≤ maxLen)
    (hform : Slv (pre ++ (P ++ ([y] ++ post)))) (h : RowE W g T (pre ++ (P ++ ([y] ++ post)))) (hu : Srt.Up elt P) :
    Calls Tryd.prog 48 #[.slice (some ⟨g, 0, none⟩) N c, .int .i64 a, .int .i64 m, .int .i64 b, .func (.func 26) #[] #[.pointer (some ⟨B, 0, none⟩)]] W fun e w' => e = .returned (.tuple #[]) ∧ But W w' g ∧ RowE w' g T (pre ++ (Srt.mrg elt P [y] ++ post)) := by
  have w1 : IntKind.i64.wrap ((m : Int) - (a : Int)) = (P.length : Int) := by rw [IntWalk.i64_in _ (by omega)]; omega
  have w2 : IntKind.i64.wrap ((b : Int) - (m : Int)) = 1 := by rw [IntWalk.i64_in _ (by omega)]; omega
  have d1 : ((P.length : Int) == 1) = false := by rw [beq_eq_false_iff_ne]; omega
  have d1' : (P.length == 1) = false := by rw [beq_eq_false_iff_ne]; omega
  obtain ⟨xn0, hx0⟩ : ∃ z, y = z := ⟨_, rfl⟩
  have HU := Lib.hid hu
  have HS := Lib.hid hS
  have HH := Lib.hid h
  have HSl := Lib.hid hform
  have HL := Lib.hid (show pre.length = a ∧ (a + P.length = m ∧ m + 1 = b) ∧ N = b + post.length from ⟨ha, ⟨hm, hb⟩, hN⟩)
  have hbN : b ≤ N := by omega
  have HC0 : Hid (a ≤ a ∧ CutR P y (a - a) (m - a)) := Lib.hid ⟨Nat.le_refl _, ⟨by omega, by omega, fun i y h1 h2 => by omega, fun i y h1 h2 => by have := (List.getElem?_eq_some_iff.1 h2).1; omega⟩⟩
  clear hS h hform hu ha hN hx0
  go_enter Tryd.func48, Tryd.ntmps48
  go_wp2_with fail
  clear w1 w2 d1 d1'
  go_loopw [14, 15, 16] (fun s r _ wr => ∃ ns nr : Nat, s = .int .i64 ns ∧ r = .int .i64 nr ∧ Hid (a ≤ ns ∧ CutR P y (ns - a) (nr - a)) ∧ Hid (Below W.heap.size W wr)) (fun s r _ _ => (intOf r).toNat - (intOf s).toNat)
  case atStart => exact ⟨a, m, rfl, rfl, HC0, Lib.hid (Below.refl _ _)⟩
  case round =>
    obtain ⟨ns, nr, rfl, rfl, HC, HB⟩ := hrel
    have hCC := HC.out.2
    have hlo := HC.out.1
    have hLL := HL.out
    have c1 := hCC.b
    have c2 := hCC.c
    by_cases hlt : ns < nr
    case neg =>
      have d3 : decide ((ns : Int) < (nr : Int)) = false := decide_eq_false (by omega)
      have d3' : decide (ns < nr) = false := decide_eq_false hlt
      obtain ⟨S, hSs⟩ : ∃ S, ns - a = S := ⟨_, rfl⟩
      have hDN : CutR P y S S := by have e : nr - a = ns - a ∨ True := .inr trivial; have e2 := hCC; rw [hSs] at e2; by_cases q : nr = ns; (rw [q, hSs] at e2; exact e2); exact ⟨Nat.le_refl _, by have := e2.b; have := e2.c; omega, e2.l, fun i y h1 h2 => e2.g i y (by omega) h2⟩
      have MS := hDN.done
      have hSl := hDN.c
      have hmx : ∀ e : E5, e ∈ P → ∃ a n c, e.v = .slice a n c := fun e he => HSl.out e (by simp [he])
      obtain ⟨op, om, oc, hov⟩ := HSl.out y (by simp)
      have HMX := Lib.hid hmx
      have HR0 : Hid (RowE wr g T (wayl pre P post y P.length)) := Lib.hid (by have := HH.out.below HB.out; unfold wayl; simpa using this)
      have HB0 := Lib.hid (But.of_below g HB.out)
      have HFIN := Lib.hid (show pre ++ (Srt.mrg elt P [y] ++ post) = wayl pre P post y S by rw [MS]; unfold wayl; simp)
      have WAY := Lib.hid (fun t (ht : t < P.length) => way_at (pre := pre) (Q := P) (post := post) (x := y) (t := t) (p := a + t) ht (by rw [hLL.1]))
      obtain ⟨oa, ob, ok, on, ov⟩ := y
      simp only at hov
      subst hov
      clear hCC hmx MS hDN HC0 HC HU HS HH HSl
      obtain ⟨M, hM⟩ : ∃ M, P.length = M := ⟨_, rfl⟩
      rw [hM] at HR0 hLL hSl
      have hns : a + S = ns := by omega
      have hmN : m < N := by omega
      have HM := Lib.hid hM
      have hLL2 := hLL.2.1.1
      clear hLL hM
      go_wp2_with fail
      go_loopw [17] (fun k wq => ∃ t : Nat, k = .int .i64 ((a + t : Nat) : Int) ∧ S ≤ t ∧ t ≤ M ∧ Hid (RowE wq g T (wayl pre P post ⟨oa, ob, ok, on, .slice op om oc⟩ t)) ∧ Hid (But W wq g)) (fun k _ => (intOf k).toNat)
      case atStart => exact ⟨M, by rw [hLL2], hSl, Nat.le_refl _, HR0, HB0⟩
      case round =>
        obtain ⟨t, rfl, ht1, ht, HR, HBB⟩ := hrel
        obtain ⟨J, hJ0⟩ : ∃ J, a + t = J := ⟨_, rfl⟩
        rw [hJ0]
        by_cases hts : S < t
        case neg =>
          obtain rfl : t = S := by omega
          have d4 : decide ((J : Int) > (ns : Int)) = false := decide_eq_false (by omega)
          have d4' : decide (ns < J) = false := decide_eq_false (by omega)
          clear hns hJ0
          go_wp2_with fail
          refine bodyPost_ret (results_none rfl _ _ _) rfl ?_
          exact ⟨rfl, HBB.out, by rw [HFIN.out]; exact HR.out⟩
        case pos =>
          have d4 : decide ((J : Int) > (ns : Int)) = true := decide_eq_true (by omega)
          have d4' : decide (ns < J) = true := decide_eq_true (by omega)
          obtain ⟨t', rfl⟩ : ∃ t', t = t' + 1 := ⟨t - 1, by omega⟩
          obtain ⟨z, H⟩ := WAY.out t' (by have := HM.out; omega)
          obtain ⟨p, hp⟩ : ∃ p, a + t' = p := ⟨_, rfl⟩
          rw [hp] at H
          obtain ⟨za, zb, zk, zn, zv⟩ := z
          obtain ⟨zp, zm, zc, hzv⟩ := HMX.out _ H.my
          simp only at hzv
          subst hzv
          have hJ : p + 1 = J := by omega
          obtain ⟨-, -, -, i1, i2, i3, -⟩ := H
          rw [hJ] at i1 i3
          have v1 : IntKind.i64.wrap ((J : Int) - 1) = (p : Int) := by rw [IntWalk.i64_in _ (by omega)]; omega
          obtain ⟨x0, x1, x2, x3, x4⟩ := HR.out.cells i1
          obtain ⟨y0, y1, y2, y3, y4⟩ := HR.out.cells i2
          have E1 := (HR.out.set J ⟨za, zb, zk, zn, .slice zp zm zc⟩).set p ⟨oa, ob, ok, on, .slice op om oc⟩
          rw [i3] at E1
          have E2 := (HBB.out.trans (s5o_but wr g (J * 5) ⟨za, zb, zk, zn, .slice zp zm zc⟩)).trans (s5o_but _ g (p * 5) ⟨oa, ob, ok, on, .slice op om oc⟩)
          obtain ⟨wn, hwn⟩ : ∃ wn, s5o (s5o wr g (J * 5) ⟨za, zb, zk, zn, .slice zp zm zc⟩) g (p * 5) ⟨oa, ob, ok, on, .slice op om oc⟩ = wn := ⟨_, rfl⟩
          have hpN : p < N := by omega
          have hJN : J < N := by omega
          have hp0 : (0 : Int) ≤ (p : Int) := by omega
          have hpI : (p : Int) < (N : Int) := by omega
          have hJ0' : (0 : Int) ≤ (J : Int) := by omega
          have hJI : (J : Int) < (N : Int) := by omega
          have hJp : ¬ J = p := by omega
          have hpJ : ¬ p = J := by omega
          have fr := HR.out.free
          have f0 := fr (J * 5)
          have f1 := fr (J * 5 + 1)
          have f2 := fr (J * 5 + 2)
          have f3 := fr (J * 5 + 3)
          have f4 := fr (J * 5 + 4)
          have g0 := fr (p * 5)
          have g1 := fr (p * 5 + 1)
          have g2 := fr (p * 5 + 2)
          have g3 := fr (p * 5 + 3)
          have g4 := fr (p * 5 + 4)
          rw [hwn] at E1 E2
          simp only [s5o] at hwn
          have HWN := Lib.hid hwn
          have E3 : Hid (RowE wn.drew g T _) := Lib.hid E1
          have E4 := Lib.hid (E2.trans (But.drew _ _))
          have HP := Lib.hid (show p + 1 = J ∧ a + t' = p ∧ (p < N ∧ S ≤ t' ∧ t' < M) from ⟨by omega, by omega, by omega, by omega, by omega⟩)
          clear E1 E2 hwn fr i1 i2 i3 hJ hp hJ0 hns HR
          go_wp2_with fail
          go_region
          rw [HWN.out]
          clear x0 x1 x2 x3 x4 y0 y1 y2 y3 y4 f0 f1 f2 f3 f4 g0 g1 g2 g3 g4 HWN hJp hpJ v1
          go_wp2_with fail
          go_roundw
          case rel => exact ⟨t', by have := HP.out; rw [show a + t' = p by omega]; congr 1; omega, by omega, by omega, E3, E4⟩
          case measure => simp only [intOf]; have := HP.out; omega
    case pos =>
      have d3 : decide ((ns : Int) < (nr : Int)) = true := decide_eq_true (by omega)
      have d3' : decide (ns < nr) = true := decide_eq_true hlt
      obtain ⟨cc, hcc⟩ : ∃ cc, (ns + nr) / 2 = cc := ⟨_, rfl⟩
      have hk1 : ns ≤ cc ∧ cc < nr := by omega
      have k1 : cc - a < P.length := by omega
      have u1 : IntKind.i64.wrap ((ns : Int) + (nr : Int)) = ((ns + nr : Nat) : Int) := by rw [IntWalk.i64_in _ (by omega)]; omega
      have uu : IntKind.u64.wrap ((ns : Int) + (nr : Int)) = ((ns + nr : Nat) : Int) := by rw [IntWalk.u64_in _ (by omega)]; omega
      have u2 : IntKind.i64.wrap (IntKind.u64.wrap ((ns : Int) + (nr : Int)) / 2) = (cc : Int) := by rw [uu, IntWalk.i64_in _ (by omega)]; omega
      have u3 : wrap64 (IntKind.u64.wrap ((ns : Int) + (nr : Int)) / 2) = (cc : Int) := (IntWalk.i64_left _).symm.trans u2
      have HX2 := Lib.hid u2
      have HX3 := Lib.hid u3
      clear uu u2 u3
      have hcN : cc < N := by omega
      have hoN : m < N := by omega
      have ho0 : (0 : Int) ≤ (m : Int) := by omega
      have hoI : (m : Int) < (N : Int) := by omega
      have hc0 : (0 : Int) ≤ (cc : Int) := by omega
      have hcI : (cc : Int) < (N : Int) := by omega
      obtain ⟨x, hz⟩ : ∃ z, P[cc - a]? = some z := ⟨_, List.getElem?_eq_getElem k1⟩
      have hfz := HSl.out x (by have := List.mem_of_getElem? hz; simp [this])
      have hfo := HSl.out y (by simp)
      have iZ : (pre ++ (P ++ ([y] ++ post)))[cc]? = some x := by
        rw [List.getElem?_append_right (by omega), hLL.1, List.getElem?_append_left (by omega)]; exact hz
      have iO : (pre ++ (P ++ ([y] ++ post)))[m]? = some y := by
        rw [List.getElem?_append_right (by omega), hLL.1, List.getElem?_append_right (by omega), show m - a - P.length = 0 by omega]; rfl
      have CTT := Lib.hid (fun (he : elt y x = true) => (show a ≤ ns ∧ CutR P y (ns - a) (cc - a) from ⟨by omega, by have := hCC.right HU.out (c := cc - a) ⟨by omega, by omega⟩ hz he; exact this⟩))
      have CTF := Lib.hid (fun (he : elt y x = false) => (show a ≤ cc + 1 ∧ CutR P y (cc + 1 - a) (nr - a) from ⟨by omega, by have := hCC.left HU.out (c := cc - a) ⟨by omega, by omega⟩ hz he; rw [show cc + 1 - a = cc - a + 1 by omega]; exact this⟩))
      have hCCb : a ≤ cc := by omega
      obtain ⟨xa, xb, xk, xn, xv⟩ := x
      obtain ⟨ya, yb, yk, yn, yv⟩ := y
      obtain ⟨xp, xm, xc, hxv⟩ := hfz
      obtain ⟨yp, ym, yc, hyv⟩ := hfo
      simp only at hxv hyv
      subst hxv hyv
      have MK := Lib.hid (fun w' (hb : Below wr.heap.size wr w') => (show w'.cell? ⟨g, m * 5, none⟩ = some (.int .i64 ya) ∧ w'.cell? ⟨g, m * 5 + 1, none⟩ = some (.int .i64 yb) ∧ w'.cell? ⟨g, m * 5 + 2, none⟩ = some (.int .i64 yk) ∧ w'.cell? ⟨g, m * 5 + 3, none⟩ = some (.int .i64 yn) ∧ w'.cell? ⟨g, m * 5 + 4, none⟩ = some (.slice yp ym yc) ∧ w'.cell? ⟨g, cc * 5, none⟩ = some (.int .i64 xa) ∧ w'.cell? ⟨g, cc * 5 + 1, none⟩ = some (.int .i64 xb) ∧ w'.cell? ⟨g, cc * 5 + 2, none⟩ = some (.int .i64 xk) ∧ w'.cell? ⟨g, cc * 5 + 3, none⟩ = some (.int .i64 xn) ∧ w'.cell? ⟨g, cc * 5 + 4, none⟩ = some (.slice xp xm xc) ∧ Below wr.heap.size wr w' from by
        obtain ⟨x0, x1, x2, x3, x4⟩ := (HH.out.below (HB.out.trans (hb.mono HB.out.size))).cells iZ
        obtain ⟨y0, y1, y2, y3, y4⟩ := (HH.out.below (HB.out.trans (hb.mono HB.out.size))).cells iO
        exact ⟨y0, y1, y2, y3, y4, x0, x1, x2, x3, x4, hb⟩))
      have KP := Lib.hid (fun (wa w' : World) (hS : wa.cell? ⟨g, m * 5, none⟩ = some (.int .i64 ya) ∧ wa.cell? ⟨g, m * 5 + 1, none⟩ = some (.int .i64 yb) ∧ wa.cell? ⟨g, m * 5 + 2, none⟩ = some (.int .i64 yk) ∧ wa.cell? ⟨g, m * 5 + 3, none⟩ = some (.int .i64 yn) ∧ wa.cell? ⟨g, m * 5 + 4, none⟩ = some (.slice yp ym yc) ∧ wa.cell? ⟨g, cc * 5, none⟩ = some (.int .i64 xa) ∧ wa.cell? ⟨g, cc * 5 + 1, none⟩ = some (.int .i64 xb) ∧ wa.cell? ⟨g, cc * 5 + 2, none⟩ = some (.int .i64 xk) ∧ wa.cell? ⟨g, cc * 5 + 3, none⟩ = some (.int .i64 xn) ∧ wa.cell? ⟨g, cc * 5 + 4, none⟩ = some (.slice xp xm xc) ∧ Below wr.heap.size wr wa) (hb : Below wa.heap.size wa w') => MK.out w' (hS.2.2.2.2.2.2.2.2.2.2.trans (hb.mono hS.2.2.2.2.2.2.2.2.2.2.size)))
      have CL := Lib.hid (fun w' (hb : Below wr.heap.size wr w') => (show Calls Tryd.prog 26 #[.agg #[.int .i64 ya, .int .i64 yb, .int .i64 yk, .int .i64 yn, .slice yp ym yc], .agg #[.int .i64 xa, .int .i64 xb, .int .i64 xk, .int .i64 xn, .slice xp xm xc], .pointer (some ⟨B, 0, none⟩)] w' fun e w'' => e = .returned (.int .i64 (cmpK ya yb xa xb)) ∧ Below w'.heap.size w' w'' from e_clo B ⟨ya, yb, yk, yn, .slice yp ym yc⟩ ⟨xa, xb, xk, xn, .slice xp xm xc⟩ w' (HS.out.below (HB.out.trans (hb.mono HB.out.size)))))
      have hk := cmpK_lt ya yb xa xb
      generalize cmpK ya yb xa xb = z at *
      cases he : Srt.klt (ya, yb) (xa, xb)
      case false =>
        rw [he] at hk
        have hC2 := Lib.hid (CTF.out (by unfold elt; exact he))
        clear hCC hLL c1 c2 hlo hk1 k1 hz iZ iO CTT CTF he hCCb
        have HCC := Lib.hid hcc
        clear hcc
        have u2 := HX2.out
        have u3 := HX3.out
        go_wp2_with fail
        clear u1 u2 u3 HX2 HX3
        go_region_held3 (fun w' => w'.cell? ⟨g, m * 5, none⟩ = some (.int .i64 ya) ∧ w'.cell? ⟨g, m * 5 + 1, none⟩ = some (.int .i64 yb) ∧ w'.cell? ⟨g, m * 5 + 2, none⟩ = some (.int .i64 yk) ∧ w'.cell? ⟨g, m * 5 + 3, none⟩ = some (.int .i64 yn) ∧ w'.cell? ⟨g, m * 5 + 4, none⟩ = some (.slice yp ym yc) ∧ w'.cell? ⟨g, cc * 5, none⟩ = some (.int .i64 xa) ∧ w'.cell? ⟨g, cc * 5 + 1, none⟩ = some (.int .i64 xb) ∧ w'.cell? ⟨g, cc * 5 + 2, none⟩ = some (.int .i64 xk) ∧ w'.cell? ⟨g, cc * 5 + 3, none⟩ = some (.int .i64 xn) ∧ w'.cell? ⟨g, cc * 5 + 4, none⟩ = some (.slice xp xm xc) ∧ Below wr.heap.size wr w') (first | exact MK.out _ ((Below.refl _ _).drew) | assumption | (refine KP.out _ _ ?_ hb; first | assumption | exact MK.out _ ((Below.refl _ _).drew))) (first | (go_at_call 26; (with_reducible refine (CL.out _ (by go_split_ands; assumption)).mono ?_); rintro e w' ⟨rfl, hb⟩))
        rename_i hEnd
        obtain ⟨-, -, -, -, -, -, -, -, -, -, hBB⟩ := hEnd
        have HB2 := Lib.hid (HB.out.trans (hBB.mono HB.out.size))
        clear hBB MK KP CL
        go_wp2_with fail
        go_roundw
        case rel => exact ⟨cc + 1, nr, by go_num, rfl, hC2, HB2⟩
        case measure => simp only [intOf]; have := HCC.out; omega
      case true =>
        rw [he] at hk
        have hC2 := Lib.hid (CTT.out (by unfold elt; exact he))
        clear hCC hLL c1 c2 hlo hk1 k1 hz iZ iO CTT CTF he hCCb
        have HCC := Lib.hid hcc
        clear hcc
        have u2 := HX2.out
        have u3 := HX3.out
        go_wp2_with fail
        clear u1 u2 u3 HX2 HX3
        go_region_held3 (fun w' => w'.cell? ⟨g, m * 5, none⟩ = some (.int .i64 ya) ∧ w'.cell? ⟨g, m * 5 + 1, none⟩ = some (.int .i64 yb) ∧ w'.cell? ⟨g, m * 5 + 2, none⟩ = some (.int .i64 yk) ∧ w'.cell? ⟨g, m * 5 + 3, none⟩ = some (.int .i64 yn) ∧ w'.cell? ⟨g, m * 5 + 4, none⟩ = some (.slice yp ym yc) ∧ w'.cell? ⟨g, cc * 5, none⟩ = some (.int .i64 xa) ∧ w'.cell? ⟨g, cc * 5 + 1, none⟩ = some (.int .i64 xb) ∧ w'.cell? ⟨g, cc * 5 + 2, none⟩ = some (.int .i64 xk) ∧ w'.cell? ⟨g, cc * 5 + 3, none⟩ = some (.int .i64 xn) ∧ w'.cell? ⟨g, cc * 5 + 4, none⟩ = some (.slice xp xm xc) ∧ Below wr.heap.size wr w') (first | exact MK.out _ ((Below.refl _ _).drew) | assumption | (refine KP.out _ _ ?_ hb; first | assumption | exact MK.out _ ((Below.refl _ _).drew))) (first | (go_at_call 26; (with_reducible refine (CL.out _ (by go_split_ands; assumption)).mono ?_); rintro e w' ⟨rfl, hb⟩))
        rename_i hEnd
        obtain ⟨-, -, -, -, -, -, -, -, -, -, hBB⟩ := hEnd
        have HB2 := Lib.hid (HB.out.trans (hBB.mono HB.out.size))
        clear hBB MK KP CL
        go_wp2_with fail
        go_roundw
        case rel => exact ⟨ns, cc, rfl, rfl, hC2, HB2⟩
        case measure => simp only [intOf]; have := HCC.out; omega
end Go.Proofs.YtmbcfijhlpeddaaDoor
/- symMerge makes two sorted neighbours one, in place and stable. -/
namespace Go.Proofs.YtmbcfijhlpeddaaDoor
open Go.ChangeShapes Go.WideShapes Go.ChangeAt Go.RowKit
set_option linter.unusedVariables false
set_option linter.unusedSimpArgs false
theorem one_of {l : List E5} (h : l.length = 1) : ∃ x, l = [x] := by
  match l, h with
  | [x], _ => exact ⟨x, rfl⟩
theorem sym_merge (B : Nat) (K : Nat) : SymOk K B := by
  induction K using Nat.strongRecOn with
  | _ K ih =>
    intro a m b g N c T pre P Q post W hK hS hne ha hm hb hP hQ hN hsm hc hform h hu1 hu2
    rcases Nat.lt_or_ge 1 P.length with h2 | h2
    · rcases Nat.lt_or_ge 1 Q.length with h3 | h3
      · exact sym_big K B ih a m b g N c T pre P Q post W hK hS hne ha hm hb h2 h3 hN hsm hc hform h hu1 hu2
      · obtain ⟨y, rfl⟩ := one_of (l := Q) (by omega)
        simp only [List.length_singleton] at *
        exact sym_right a m b g N c B T pre P post y W hS hne ha (by omega) (by omega) (by omega) (by omega) hsm hc hform h hu1
    · obtain ⟨x, rfl⟩ := one_of (l := P) (by omega)
      simp only [List.length_singleton] at *
      exact sym_left a m b g N c B T pre Q post x W hS hne ha (by omega) (by omega) hQ (by omega) hsm hc hform h hu2
end Go.Proofs.YtmbcfijhlpeddaaDoor
/- A row sorted block by block, in numbers. -/
namespace Go.Proofs.YtmbcfijhlpeddaaDoor
open Go.ChangeShapes Go.WideShapes Go.ChangeAt Go.RowKit
set_option linter.unusedVariables false
set_option linter.unusedSimpArgs false
namespace Srt
variable {α : Type} {lt : α → α → Bool}
/-- Sorted s by s. -/
def bl (lt : α → α → Bool) (s : Nat) (l : List α) : List α := if h : l.length ≤ s ∨ s = 0 then isort lt l else isort lt (l.take s) ++ bl lt s (l.drop s)
termination_by l.length
decreasing_by rw [List.length_drop]; omega
theorem bl_small {s : Nat} {l : List α} (h : l.length ≤ s) : bl lt s l = isort lt l := by rw [bl, dif_pos (.inl h)]
theorem bl_nil (s : Nat) : bl lt s ([] : List α) = [] := by rw [bl_small (by simp)]; rfl
theorem bl_step {s : Nat} {R Z : List α} (hs : 1 ≤ s) (hR : R.length = s) : bl lt s (R ++ Z) = isort lt R ++ bl lt s Z := by
  by_cases hz : Z = []
  · subst hz
    rw [bl_nil, List.append_nil, List.append_nil, bl_small (by omega)]
  · have : Z.length ≠ 0 := fun e => hz (List.eq_nil_of_length_eq_zero e)
    rw [bl, dif_neg (by rw [List.length_append]; omega), List.take_left' hR, List.drop_left' hR]
/-- D is done as X: what is behind it does not matter. -/
def Dn (lt : α → α → Bool) (s : Nat) (D X : List α) : Prop := ∀ Z, bl lt s (D ++ Z) = X ++ bl lt s Z
theorem Dn.nil (s : Nat) : Dn lt s ([] : List α) [] := fun Z => by simp
theorem Dn.step {s : Nat} {D X R : List α} (h : Dn lt s D X) (hs : 1 ≤ s) (hR : R.length = s) : Dn lt s (D ++ R) (X ++ isort lt R) := fun Z => by
  rw [List.append_assoc, h, bl_step hs hR, List.append_assoc]
theorem bl_two {s : Nat} {R Z : List α} (hs : 1 ≤ s) (hR : R.length = 2 * s) : bl lt s (R ++ Z) = isort lt (R.take s) ++ (isort lt (R.drop s) ++ bl lt s Z) := by
  have e : R ++ Z = R.take s ++ (R.drop s ++ Z) := by rw [← List.append_assoc, List.take_append_drop]
  rw [e, bl_step hs (by rw [List.length_take]; omega), bl_step hs (by rw [List.length_drop]; omega)]
theorem bl_last {s : Nat} {R : List α} (hs : 1 ≤ s) (h1 : s < R.length) (h2 : R.length ≤ 2 * s) : bl lt s R = isort lt (R.take s) ++ isort lt (R.drop s) := by
  have e : R = R.take s ++ R.drop s := by rw [List.take_append_drop]
  have := bl_step (lt := lt) (R := R.take s) (Z := R.drop s) hs (by rw [List.length_take]; omega)
  rw [← e] at this
  rw [this, bl_small (l := R.drop s) (by rw [List.length_drop]; omega)]
theorem two_mrg (O : SOrd lt) (R : List α) (s : Nat) : mrg lt (isort lt (R.take s)) (isort lt (R.drop s)) = isort lt R := by
  rw [← isort_app O, List.take_append_drop]
theorem bl_len (s : Nat) (l : List α) : (bl lt s l).length = l.length := by
  rw [bl]
  split
  · exact isort_len l
  · rw [List.length_append, isort_len, bl_len s (l.drop s), List.length_take, List.length_drop]; omega
termination_by l.length
decreasing_by rw [List.length_drop]; omega
theorem mem_foldi (l : List α) : ∀ {o : List α} {z : α}, z ∈ l.foldl (fun o x => ins lt x o) o → z ∈ o ∨ z ∈ l := by
  induction l with
  | nil => intro o z h; exact .inl h
  | cons x l ih =>
    intro o z h
    rcases ih h with h | h
    · rcases mem_ins h with rfl | h
      · exact .inr (List.mem_cons_self ..)
      · exact .inl h
    · exact .inr (List.mem_cons_of_mem _ h)
theorem mem_isort {l : List α} {z : α} (h : z ∈ isort lt l) : z ∈ l := (mem_foldi l h).resolve_left (by simp)
theorem mem_bl (s : Nat) (l : List α) {z : α} (h : z ∈ bl lt s l) : z ∈ l := by
  rw [bl] at h
  split at h
  · exact mem_isort h
  · rcases List.mem_append.1 h with h | h
    · exact List.mem_of_mem_take (mem_isort h)
    · exact List.mem_of_mem_drop (mem_bl s (l.drop s) h)
termination_by l.length
decreasing_by rw [List.length_drop]; omega
end Srt
end Go.Proofs.YtmbcfijhlpeddaaDoor
/- slices' stable sorting of entries in place: blocks of 20 by insertion, then symMerge, block by block. -/
namespace Go.Proofs.YtmbcfijhlpeddaaDoor
open Go.ChangeShapes Go.WideShapes Go.ChangeAt Go.RowKit
set_option linter.unusedVariables false
set_option linter.unusedSimpArgs false
attribute [local go_sem ↓] Go.wp_at_zero Go.wp_at_succ
/-- The first na elements are done in blocks of 20. -/
def St1 (w : World) (g : Nat) (T : TypeId) (l : List E5) (na : Nat) : Prop := ∃ D X R, l = D ++ R ∧ D.length = na ∧ X.length = na ∧ Srt.Dn elt 20 D X ∧ RowE w g T (X ++ R)
/-- The first na elements are done in blocks of 2 s, the others in blocks of s. -/
def St2 (s : Nat) (w : World) (g : Nat) (T : TypeId) (l : List E5) (na : Nat) : Prop := ∃ D X R, l = D ++ R ∧ D.length = na ∧ X.length = na ∧ Srt.Dn elt (2 * s) D X ∧ RowE w g T (X ++ Srt.bl elt s R)
theorem dn_mem {s : Nat} {D X : List E5} (h : Srt.Dn elt s D X) {z : E5} (hz : z ∈ X) : z ∈ D := by
  have := h []
  rw [Srt.bl_nil, List.append_nil, List.append_nil] at this
  exact Srt.mem_bl s D (this ▸ hz)
theorem dn_eq {s : Nat} {D X : List E5} (h : Srt.Dn elt s D X) (R : List E5) : Srt.bl elt s (D ++ R) = X ++ Srt.bl elt s R := h R
def fcl (B : Nat) : Value := .func (.func 26) #[] #[.pointer (some ⟨B, 0, none⟩)]
section
variable {B g N c : Nat} {T : TypeId} {l : List E5} {W : World}
theorem st1_step (hS : Srtr W B) (hne : B ≠ g) (hl : l.length = N) (hsm : N ≤ 1000000) (hc : N ≤ c ∧ c ≤ maxLen) (hform : Slv l) {w : World} (hB : But W w g) {na : Nat} (h : St1 w g T l na) (hn : na + 20 ≤ N) :
    Calls Tryd.prog 47 #[.slice (some ⟨g, 0, none⟩) N c, .int .i64 na, .int .i64 ((na + 20 : Nat) : Int), .func (.func 26) #[] #[.pointer (some ⟨B, 0, none⟩)]] w fun e w' => e = .returned (.tuple #[]) ∧ But w w' g ∧ St1 w' g T l (na + 20) := by
  obtain ⟨D, X, R, rfl, hD, hX, hdn, hr⟩ := h
  rw [List.length_append] at hl
  have hR : R = R.take 20 ++ R.drop 20 := (List.take_append_drop _ _).symm
  have l20 : (R.take 20).length = 20 := by rw [List.length_take]; omega
  have hf : ∀ e ∈ X ++ (R.take 20 ++ R.drop 20), ∃ a n c, e.v = .slice a n c := fun e he => hform e (by
    rw [← hR] at he
    rcases List.mem_append.1 he with he | he
    · exact List.mem_append_left _ (dn_mem hdn he)
    · exact List.mem_append_right _ he)
  have := ins_sort g B N c T X (R.take 20) (R.drop 20) w (hS.but hB hne) hne (by rw [l20, List.length_drop]; omega) hsm hc hf (by rw [← hR]; exact hr)
  rw [l20, hX] at this
  refine this.mono ?_
  rintro e w' ⟨rfl, hb, hr'⟩
  refine ⟨rfl, hb, D ++ R.take 20, X ++ sortE (R.take 20), R.drop 20, by rw [List.append_assoc, ← hR], by rw [List.length_append]; omega, by rw [List.length_append, sortE_len]; omega, hdn.step (by omega) l20, by rw [List.append_assoc]; exact hr'⟩
theorem st1_last (hS : Srtr W B) (hne : B ≠ g) (hl : l.length = N) (hsm : N ≤ 1000000) (hc : N ≤ c ∧ c ≤ maxLen) (hform : Slv l) {w : World} (hB : But W w g) {na : Nat} (h : St1 w g T l na) (hn : N < na + 20) :
    Calls Tryd.prog 47 #[.slice (some ⟨g, 0, none⟩) N c, .int .i64 na, .int .i64 N, .func (.func 26) #[] #[.pointer (some ⟨B, 0, none⟩)]] w fun e w' => e = .returned (.tuple #[]) ∧ But w w' g ∧ RowE w' g T (Srt.bl elt 20 l) := by
  obtain ⟨D, X, R, rfl, hD, hX, hdn, hr⟩ := h
  rw [List.length_append] at hl
  have hf : ∀ e ∈ X ++ (R ++ []), ∃ a n c, e.v = .slice a n c := fun e he => hform e (by
    rw [List.append_nil] at he
    rcases List.mem_append.1 he with he | he
    · exact List.mem_append_left _ (dn_mem hdn he)
    · exact List.mem_append_right _ he)
  have := ins_sort g B N c T X R [] w (hS.but hB hne) hne (by simp; omega) hsm hc hf (by rw [List.append_nil]; exact hr)
  rw [hX, show na + R.length = N by omega] at this
  refine this.mono ?_
  rintro e w' ⟨rfl, hb, hr'⟩
  rw [List.append_nil] at hr'
  exact ⟨rfl, hb, by rw [dn_eq hdn, Srt.bl_small (by omega)]; exact hr'⟩
theorem slv_two {s : Nat} {D X R : List E5} (hform : Slv (D ++ R)) (hdn : Srt.Dn elt (2 * s) D X) {L : List E5} (hL : ∀ e ∈ L, e ∈ R) : Slv (X ++ L) := fun e he => hform e (by
  rcases List.mem_append.1 he with he | he
  · exact List.mem_append_left _ (dn_mem hdn he)
  · exact List.mem_append_right _ (hL e he))
theorem st2_step {s : Nat} (hs : 1 ≤ s) (hS : Srtr W B) (hne : B ≠ g) (hl : l.length = N) (hsm : N ≤ 1000000) (hc : N ≤ c ∧ c ≤ maxLen) (hform : Slv l) {w : World} (hB : But W w g) {na : Nat} (h : St2 s w g T l na) (hn : na + 2 * s ≤ N) :
    Calls Tryd.prog 48 #[.slice (some ⟨g, 0, none⟩) N c, .int .i64 na, .int .i64 ((na + s : Nat) : Int), .int .i64 ((na + 2 * s : Nat) : Int), .func (.func 26) #[] #[.pointer (some ⟨B, 0, none⟩)]] w fun e w' => e = .returned (.tuple #[]) ∧ But w w' g ∧ St2 s w' g T l (na + 2 * s) := by
  obtain ⟨D, X, R, rfl, hD, hX, hdn, hr⟩ := h
  rw [List.length_append] at hl
  have hR : R = R.take (2 * s) ++ R.drop (2 * s) := (List.take_append_drop _ _).symm
  have l2 : (R.take (2 * s)).length = 2 * s := by rw [List.length_take]; omega
  have e := Srt.bl_two (lt := elt) (R := R.take (2 * s)) (Z := R.drop (2 * s)) hs l2
  rw [← hR] at e
  rw [e] at hr
  have hf := slv_two (L := Srt.bl elt s R) hform hdn (fun e he => Srt.mem_bl s R he)
  rw [e] at hf
  have := sym_merge B _ na (na + s) (na + 2 * s) g N c T X _ _ _ w (Nat.le_refl _) (hS.but hB hne) hne hX (by rw [Srt.isort_len, List.length_take]; omega) (by rw [Srt.isort_len, Srt.isort_len, List.length_take, List.length_drop]; omega) (by rw [Srt.isort_len, List.length_take]; omega) (by rw [Srt.isort_len, List.length_drop]; omega) (by rw [Srt.isort_len, Srt.isort_len, Srt.bl_len, List.length_take, List.length_drop, List.length_drop]; omega) hsm hc hf hr (Srt.isort_up elt_ord _) (Srt.isort_up elt_ord _)
  refine this.mono ?_
  rintro e w' ⟨rfl, hb, hr'⟩
  rw [Srt.two_mrg elt_ord] at hr'
  refine ⟨rfl, hb, D ++ R.take (2 * s), X ++ Srt.isort elt (R.take (2 * s)), R.drop (2 * s), by rw [List.append_assoc, ← hR], by rw [List.length_append]; omega, by rw [List.length_append, Srt.isort_len]; omega, hdn.step (by omega) l2, by rw [List.append_assoc]; exact hr'⟩
theorem st2_last {s : Nat} (hs : 1 ≤ s) (hS : Srtr W B) (hne : B ≠ g) (hl : l.length = N) (hsm : N ≤ 1000000) (hc : N ≤ c ∧ c ≤ maxLen) (hform : Slv l) {w : World} (hB : But W w g) {na : Nat} (h : St2 s w g T l na) (hn : N < na + 2 * s) (hn2 : na + s < N) :
    Calls Tryd.prog 48 #[.slice (some ⟨g, 0, none⟩) N c, .int .i64 na, .int .i64 ((na + s : Nat) : Int), .int .i64 N, .func (.func 26) #[] #[.pointer (some ⟨B, 0, none⟩)]] w fun e w' => e = .returned (.tuple #[]) ∧ But w w' g ∧ RowE w' g T (Srt.bl elt (2 * s) l) := by
  obtain ⟨D, X, R, rfl, hD, hX, hdn, hr⟩ := h
  rw [List.length_append] at hl
  have e := Srt.bl_last (lt := elt) (R := R) hs (by omega) (by omega)
  have e' : Srt.bl elt s R = Srt.isort elt (R.take s) ++ (Srt.isort elt (R.drop s) ++ []) := by rw [List.append_nil]; exact e
  rw [e'] at hr
  have hf := slv_two (L := Srt.bl elt s R) hform hdn (fun e he => Srt.mem_bl s R he)
  rw [e'] at hf
  have := sym_merge B _ na (na + s) N g N c T X _ _ _ w (Nat.le_refl _) (hS.but hB hne) hne hX (by rw [Srt.isort_len, List.length_take]; omega) (by rw [Srt.isort_len, Srt.isort_len, List.length_take, List.length_drop]; omega) (by rw [Srt.isort_len, List.length_take]; omega) (by rw [Srt.isort_len, List.length_drop]; omega) (by rw [Srt.isort_len, Srt.isort_len, List.length_take, List.length_drop]; simp; omega) hsm hc hf hr (Srt.isort_up elt_ord _) (Srt.isort_up elt_ord _)
  refine this.mono ?_
  rintro e w' ⟨rfl, hb, hr'⟩
  rw [Srt.two_mrg elt_ord, List.append_nil] at hr'
  exact ⟨rfl, hb, by rw [dn_eq hdn, Srt.bl_small (by omega)]; exact hr'⟩
theorem st2_none {s : Nat} (hl : l.length = N) {w : World} {na : Nat} (h : St2 s w g T l na) (hn2 : N ≤ na + s) : RowE w g T (Srt.bl elt (2 * s) l) := by
  obtain ⟨D, X, R, rfl, hD, hX, hdn, hr⟩ := h
  rw [List.length_append] at hl
  rw [dn_eq hdn, Srt.bl_small (by omega)]
  rw [Srt.bl_small (by omega)] at hr
  exact hr
end
set_option maxRecDepth 100000 in
set_option maxHeartbeats 8000000 in
theorem stable (g B N c : Nat) (T : TypeId) (l : List E5) (W : World) (hS : Srtr W B) (hne : B ≠ g) (hl : l.length = N) (hsm : N ≤ 1000000) (hc : N ≤ c ∧ c ≤ maxLen) (hform : Slv l) (h : RowE W g T l) :
    Calls Tryd.prog 38 #[.slice (some ⟨g, 0, none⟩) N c, .int .i64 N, .func (.func 26) #[] #[.pointer (some ⟨B, 0, none⟩)]] W fun e w' => e = .returned (.tuple #[]) ∧ But W w' g ∧ RowE w' g T (sortE l) := by
  have A1 := Lib.hid (fun w (hB : But W w g) na (h : St1 w g T l na) hn => st1_step hS hne hl hsm hc hform hB h hn)
  have A2 := Lib.hid (fun w (hB : But W w g) na (h : St1 w g T l na) hn => st1_last hS hne hl hsm hc hform hB h hn)
  have A3 := Lib.hid (fun s hs w (hB : But W w g) na (h : St2 s w g T l na) hn => st2_step hs hS hne hl hsm hc hform hB h hn)
  have A4 := Lib.hid (fun s hs w (hB : But W w g) na (h : St2 s w g T l na) hn hn2 => st2_last hs hS hne hl hsm hc hform hB h hn hn2)
  have A5 := Lib.hid (fun s w na (h : St2 s w g T l na) hn2 => st2_none hl h hn2)
  have H0 : Hid (St1 W g T l 0) := Lib.hid ⟨[], [], l, rfl, rfl, rfl, Srt.Dn.nil _, h⟩
  have EE := Lib.hid (fun s (hs : N ≤ s) => (show Srt.bl elt s l = sortE l from Srt.bl_small (by omega)))
  have Z2 := Lib.hid (fun s w (h : RowE w g T (Srt.bl elt s l)) => (show St2 s w g T l 0 from ⟨[], [], l, rfl, rfl, rfl, Srt.Dn.nil _, h⟩))
  clear h hform hl hc hS hne
  go_enter Tryd.func38, Tryd.ntmps38
  go_wp2_with fail
  go_loopw [7, 8] (fun a b wr => ∃ na : Nat, a = .int .i64 na ∧ b = .int .i64 ((na + 20 : Nat) : Int) ∧ na ≤ N ∧ Hid (St1 wr g T l na) ∧ Hid (But W wr g)) (fun a _ _ => N - (intOf a).toNat)
  case atStart => exact ⟨0, rfl, rfl, by omega, H0, Lib.hid (But.refl _ _)⟩
  case round =>
    obtain ⟨na, rfl, rfl, hna, HR, HB⟩ := hrel
    obtain ⟨nb, hnb⟩ : ∃ nb, na + 20 = nb := ⟨_, rfl⟩
    rw [hnb]
    by_cases hlt : nb ≤ N
    case pos =>
      have d1 : decide ((nb : Int) ≤ (N : Int)) = true := decide_eq_true (by omega)
      have d1' : decide (nb ≤ N) = true := decide_eq_true hlt
      have C := A1.out wr HB.out na HR.out (by omega)
      rw [hnb] at C
      have v1 : IntKind.i64.wrap ((nb : Int) + 20) = ((nb + 20 : Nat) : Int) := by rw [IntWalk.i64_in _ (by omega)]; omega
      have HN := Lib.hid hnb
      clear hnb HR
      go_wp2_with fail
      refine C.mono ?_
      rintro e w1 ⟨rfl, hb, hr⟩
      have H1 := Lib.hid hr
      have H2 := Lib.hid (HB.out.trans hb)
      clear C hb hr
      go_wp2_with fail
      go_roundw
      case rel => exact ⟨nb, rfl, rfl, hlt, H1, H2⟩
      case measure => simp only [intOf]; have := HN.out; omega
    case neg =>
      have d1 : decide ((nb : Int) ≤ (N : Int)) = false := decide_eq_false (by omega)
      have d1' : decide (nb ≤ N) = false := decide_eq_false hlt
      have C := A2.out wr HB.out na HR.out (by omega)
      clear hnb HR
      go_wp2_with fail
      refine C.mono ?_
      rintro e w1 ⟨rfl, hb, hr⟩
      have H1 := Lib.hid hr
      have H2 := Lib.hid (HB.out.trans hb)
      clear C hb hr A1 A2 H0
      go_wp2_with fail
      go_loopw [6, 7, 8] (fun s _ _ wr => ∃ bs : Nat, s = .int .i64 bs ∧ 1 ≤ bs ∧ bs ≤ 2000000 ∧ Hid (RowE wr g T (Srt.bl elt bs l)) ∧ Hid (But W wr g)) (fun s _ _ _ => N - (intOf s).toNat)
      case atStart => exact ⟨20, rfl, by omega, by omega, H1, H2⟩
      case round =>
        obtain ⟨bs, rfl, hb1, hb2, HR, HB⟩ := hrel
        by_cases hlt : bs < N
        case neg =>
          have d2 : decide ((bs : Int) < (N : Int)) = false := decide_eq_false (by omega)
          have d2' : decide (bs < N) = false := decide_eq_false hlt
          go_wp2_with fail
          go_end0
          exact ⟨rfl, HB.out, by rw [← EE.out bs (by omega)]; exact HR.out⟩
        case pos =>
          have d2 : decide ((bs : Int) < (N : Int)) = true := decide_eq_true (by omega)
          have d2' : decide (bs < N) = true := decide_eq_true hlt
          obtain ⟨ds, hds⟩ : ∃ ds, 2 * bs = ds := ⟨_, rfl⟩
          have v2 : IntKind.i64.wrap (2 * (bs : Int)) = (ds : Int) := by rw [IntWalk.i64_in _ (by omega)]; omega
          have v2' : IntKind.i64.wrap ((bs : Int) * 2) = (ds : Int) := by rw [IntWalk.i64_in _ (by omega)]; omega
          have HZ := Lib.hid (Z2.out bs wr HR.out)
          have HDS := Lib.hid hds
          clear hds HR
          go_wp2_with fail
          go_loopw [7, 8] (fun a b wr => ∃ na : Nat, a = .int .i64 na ∧ b = .int .i64 ((na + ds : Nat) : Int) ∧ na ≤ N ∧ Hid (St2 bs wr g T l na) ∧ Hid (But W wr g)) (fun a _ _ => N - (intOf a).toNat)
          case atStart => exact ⟨0, rfl, by rw [Nat.zero_add], by omega, HZ, HB⟩
          case round =>
            obtain ⟨na, rfl, rfl, hna, HR, HBB⟩ := hrel
            obtain ⟨nb, hnb⟩ : ∃ nb, na + ds = nb := ⟨_, rfl⟩
            rw [hnb]
            obtain ⟨nm, hnm⟩ : ∃ nm, na + bs = nm := ⟨_, rfl⟩
            have v3 : IntKind.i64.wrap ((na : Int) + (bs : Int)) = (nm : Int) := by rw [IntWalk.i64_in _ (by omega)]; omega
            have hdd := HDS.out
            by_cases hlt3 : nb ≤ N
            case pos =>
              have d3 : decide ((nb : Int) ≤ (N : Int)) = true := decide_eq_true (by omega)
              have d3' : decide (nb ≤ N) = true := decide_eq_true hlt3
              have C := A3.out bs hb1 wr HBB.out na HR.out (by omega)
              rw [show na + 2 * bs = nb by omega, hnm] at C
              have v4 : IntKind.i64.wrap ((nb : Int) + (ds : Int)) = ((nb + ds : Nat) : Int) := by rw [IntWalk.i64_in _ (by omega)]; omega
              have HN := Lib.hid (show na < nb by omega)
              clear hnb hnm hdd HR
              go_wp2_with fail
              refine C.mono ?_
              rintro e w1 ⟨rfl, hb, hr⟩
              have H1 := Lib.hid hr
              have H2 := Lib.hid (HBB.out.trans hb)
              clear C hb hr
              go_wp2_with fail
              go_roundw
              case rel => exact ⟨nb, rfl, rfl, hlt3, H1, H2⟩
              case measure => simp only [intOf]; have := HN.out; omega
            case neg =>
              have d3 : decide ((nb : Int) ≤ (N : Int)) = false := decide_eq_false (by omega)
              have d3' : decide (nb ≤ N) = false := decide_eq_false hlt3
              by_cases hlt4 : nm < N
              case pos =>
                have d4 : decide ((nm : Int) < (N : Int)) = true := decide_eq_true (by omega)
                have d4' : decide (nm < N) = true := decide_eq_true hlt4
                have C := A4.out bs hb1 wr HBB.out na HR.out (by omega) (by omega)
                rw [hnm] at C
                have HDD := Lib.hid hdd
                clear hnb hnm hdd HR
                go_wp2_with fail
                refine C.mono ?_
                rintro e w1 ⟨rfl, hb, hr⟩
                have H1 : Hid (RowE w1 g T (Srt.bl elt ds l)) := Lib.hid (by rw [← HDD.out]; exact hr)
                have H2 := Lib.hid (HBB.out.trans hb)
                clear C hb hr
                go_wp2_with fail
                go_roundw
                case rel => exact ⟨ds, rfl, by have := HDD.out; omega, by have := HDD.out; omega, H1, H2⟩
                case measure => simp only [intOf]; have := HDD.out; omega
              case neg =>
                have d4 : decide ((nm : Int) < (N : Int)) = false := decide_eq_false (by omega)
                have d4' : decide (nm < N) = false := decide_eq_false hlt4
                have H1 : Hid (RowE wr g T (Srt.bl elt ds l)) := Lib.hid (by rw [← hdd]; exact A5.out bs wr na HR.out (by omega))
                have HDD := Lib.hid hdd
                clear hnb hnm hdd HR
                go_wp2_with fail
                go_roundw
                case rel => exact ⟨ds, rfl, by have := HDD.out; omega, by have := HDD.out; omega, H1, HBB⟩
                case measure => simp only [intOf]; have := HDD.out; omega
end Go.Proofs.YtmbcfijhlpeddaaDoor
/- Nodes level by level: the layout that package desc's Clone makes, and another node put into it: numbers. -/
namespace Go.Proofs.YtmbcfijhlpeddaaDoor
open Go.ChangeShapes Go.WideShapes Go.ChangeAt Go.RowKit
set_option linter.unusedVariables false
set_option linter.unusedSimpArgs false
/-- How many are below some nodes. -/
def kin : List Nd → Nat
  | [] => 0
  | d :: q => d.ks.cnt + kin q
theorem kin_append : ∀ a b : List Nd, kin (a ++ b) = kin a + kin b
  | [], b => by simp [kin]
  | d :: a, b => by simp [kin, kin_append a b]; omega
theorem Fo.top_kin : ∀ f : Fo, f.cnt = f.len + kin f.top
  | .nil => rfl
  | .cons _ _ ks r => by have := Fo.top_kin r; simp only [Fo.cnt, Fo.len, Fo.top, kin]; omega
/-- Where the kids of the j-th node begin. -/
def pos : Nat → List Nd → Nat → Nat
  | m, _, 0 => m
  | m, [], _ + 1 => m
  | m, d :: q, j + 1 => pos (m + d.ks.len) q j
theorem pos_zero (m : Nat) (q : List Nd) : pos m q 0 = m := by cases q <;> rfl
theorem pos_succ : ∀ (q : List Nd) (m j : Nat) (d : Nd), q[j]? = some d → pos m q (j + 1) = pos m q j + d.ks.len
  | [], _, _, _, h => by simp at h
  | x :: q, m, 0, d, h => by
    obtain rfl : x = d := by simpa using h
    show pos (m + x.ks.len) q 0 = pos m (x :: q) 0 + x.ks.len
    rw [pos_zero, pos_zero]
  | x :: q, m, j + 1, d, h => by
    have := pos_succ q (m + x.ks.len) j d (by simpa using h)
    exact this
theorem pos_append : ∀ (q r : List Nd) (m j : Nat), j ≤ q.length → pos m (q ++ r) j = pos m q j
  | q, r, m, 0, _ => by rw [pos_zero, pos_zero]
  | [], r, m, j + 1, h => by simp at h
  | x :: q, r, m, j + 1, h => pos_append q r (m + x.ks.len) j (by simpa using h)
theorem pos_next (q : List Nd) (m j : Nat) : pos m q j ≤ pos m q (j + 1) := by
  induction q generalizing m j with
  | nil => cases j <;> exact Nat.le_refl _
  | cons x q ih =>
    cases j with
    | zero => show m ≤ pos (m + x.ks.len) q 0; rw [pos_zero]; omega
    | succ j => exact ih (m + x.ks.len) j
theorem pos_le (q : List Nd) (m : Nat) {j i : Nat} (h : j ≤ i) : pos m q j ≤ pos m q i := by
  induction i with
  | zero => obtain rfl : j = 0 := by omega
            exact Nat.le_refl _
  | succ i ih =>
    by_cases hj : j = i + 1
    · subst hj; exact Nat.le_refl _
    · exact Nat.le_trans (ih (by omega)) (pos_next q m i)
theorem pos_ge (q : List Nd) (m j : Nat) : m ≤ pos m q j := by have := pos_le q m (Nat.zero_le j); rwa [pos_zero] at this
/-- Who has kids lies ahead of them. -/
def Rises (m : Nat) (q : List Nd) : Prop := ∀ j d, q[j]? = some d → 0 < d.ks.len → j < pos m q j
/-- e is j, or lies below it. -/
inductive Sub (m : Nat) (q : List Nd) (j : Nat) : Nat → Prop where
  | refl : Sub m q j j
  | step {p e : Nat} (d : Nd) (h : Sub m q j p) (hp : q[p]? = some d) (h1 : pos m q p ≤ e) (h2 : e < pos m q p + d.ks.len) : Sub m q j e
theorem Sub.le {m : Nat} {q : List Nd} (hR : Rises m q) {j e : Nat} (h : Sub m q j e) : j ≤ e := by
  induction h with
  | refl => exact Nat.le_refl _
  | step d _ hp h1 h2 ih => have := hR _ d hp (by omega); omega
theorem Sub.front {m : Nat} {q : List Nd} {j c e : Nat} {d : Nd} (hj : q[j]? = some d) (h1 : pos m q j ≤ c) (h2 : c < pos m q j + d.ks.len) (h : Sub m q c e) : Sub m q j e := by
  induction h with
  | refl => exact .step d .refl hj h1 h2
  | step d' _ hp g1 g2 ih => exact .step d' ih hp g1 g2
theorem parent_one {m : Nat} {q : List Nd} {p p' e : Nat} {d d' : Nd} (hp : q[p]? = some d) (hp' : q[p']? = some d') (h1 : pos m q p ≤ e) (h2 : e < pos m q p + d.ks.len) (h1' : pos m q p' ≤ e) (h2' : e < pos m q p' + d'.ks.len) : p = p' := by
  rcases Nat.lt_trichotomy p p' with h | h | h
  · have := pos_le q m (show p + 1 ≤ p' from h); rw [pos_succ q m p d hp] at this; omega
  · exact h
  · have := pos_le q m (show p' + 1 ≤ p from h); rw [pos_succ q m p' d' hp'] at this; omega
theorem Sub.comp {m : Nat} {q : List Nd} {a b e : Nat} (ha : Sub m q a e) : Sub m q b e → Sub m q a b ∨ Sub m q b a := by
  induction ha with
  | refl => exact fun h => .inr h
  | step d h0 hp h1 h2 ih =>
    intro hb
    cases hb with
    | refl => exact .inl (.step d h0 hp h1 h2)
    | step d' h' hp' h1' h2' =>
      obtain rfl := parent_one hp hp' h1 h2 h1' h2'
      exact ih h'
theorem sibs_kids {m : Nat} {q : List Nd} (hR : Rises m q) {p : Nat} {d : Nd} (hp : q[p]? = some d) {a b e : Nat} (a1 : pos m q p ≤ a) (a2 : a < pos m q p + d.ks.len) (b1 : pos m q p ≤ b) (b2 : b < pos m q p + d.ks.len) (hne : a ≠ b) (ha : Sub m q a e) (hb : Sub m q b e) : False := by
  have key : ∀ x y, pos m q p ≤ x → pos m q p ≤ y → y < pos m q p + d.ks.len → x ≠ y → Sub m q x y → False := by
    intro x y x1 y1 y2 hxy h
    cases h with
    | refl => exact hxy rfl
    | step d' h' hp' h1' h2' =>
      obtain rfl := parent_one hp hp' y1 y2 h1' h2'
      have := h'.le hR
      have := hR _ d hp (by omega)
      omega
  rcases ha.comp hb with h | h
  · exact key a b a1 b1 b2 hne h
  · exact key b a b1 a1 a2 (Ne.symm hne) h
theorem sibs_top {m : Nat} {q : List Nd} {a b e : Nat} (a2 : a < m) (b2 : b < m) (hne : a ≠ b) (ha : Sub m q a e) (hb : Sub m q b e) : False := by
  have key : ∀ x y, y < m → x ≠ y → Sub m q x y → False := by
    intro x y y2 hxy h
    cases h with
    | refl => exact hxy rfl
    | step d' h' hp' h1' h2' => have := pos_ge q m; rename_i p; have := pos_ge q m p; omega
  rcases ha.comp hb with h | h
  · exact key a b b2 hne h
  · exact key b a a2 (Ne.symm hne) h
/-- A row's nodes stand from place s on. -/
def Ly (q : List Nd) (f : Fo) (s : Nat) : Prop := ∀ t, t < f.len → q[s + t]? = some ⟨f.k t, f.n t, f.kids t⟩
theorem Ly.tail {q : List Nd} {k n : Int} {ks r : Fo} {s : Nat} (h : Ly q (.cons k n ks r) s) : Ly q r (s + 1) := fun t ht => by
  have := h (t + 1) (by show t + 1 < r.len + 1; omega)
  rw [show s + 1 + t = s + (t + 1) by omega]
  exact this
/-- The value of a row of kids in block F. -/
def kidv (F s : Nat) : Nat → Value
  | 0 => .slice none 0 0
  | l + 1 => .slice (some ⟨F, s * 3, none⟩) (l + 1) (l + 1)
theorem kidv_kids {w : World} {lim F s : Nat} {f : Fo} (hm : f.len ≤ maxLen) (h : f.At w lim F (s * 3)) : Kids w lim (kidv F s f.len) f := by
  cases hf : f.len with
  | zero => exact ⟨none, 0, by rw [hf]; rfl, by omega, by unfold maxLen; omega, .inl hf⟩
  | succ l => exact ⟨some ⟨F, s * 3, none⟩, l + 1, by rw [hf]; rfl, by omega, by omega, .inr ⟨F, s * 3, rfl, h⟩⟩
/-- One node in its place. -/
def NodeAt (w : World) (lim F s : Nat) (k n : Int) (ks : Fo) : Prop := w.cell? ⟨F, s * 3, none⟩ = some (.int .i64 k) ∧ w.cell? ⟨F, s * 3 + 1, none⟩ = some (.int .i64 n) ∧ ∃ v, w.cell? ⟨F, s * 3 + 2, none⟩ = some v ∧ Kids w lim v ks
theorem at_of_nodes {w : World} {lim F : Nat} (hF : F < lim) : ∀ (f : Fo) (s : Nat), (∀ t, t < f.len → NodeAt w lim F (s + t) (f.k t) (f.n t) (f.kids t)) → f.At w lim F (s * 3)
  | .nil, _, _ => trivial
  | .cons k n ks r, s, h => by
    obtain ⟨c0, c1, v, c2, a, c, rfl, h1, h2, h3⟩ := h 0 (by show 0 < r.len + 1; omega)
    refine ⟨hF, c0, c1, ⟨a, c, c2, h1, h2, h3⟩, ?_⟩
    have := at_of_nodes hF r (s + 1) (fun t ht => by
      have := h (t + 1) (by show t + 1 < r.len + 1; omega)
      rw [show s + 1 + t = s + (t + 1) by omega]
      exact this)
    rw [show s * 3 + 3 = (s + 1) * 3 by omega]
    exact this
/-- All nodes lie in block F, but for those that are not ok. -/
def Laid (w : World) (F m : Nat) (q : List Nd) (ok : Nat → Prop) : Prop := ∀ j d, ok j → q[j]? = some d → w.cell? ⟨F, j * 3, none⟩ = some (.int .i64 d.k) ∧ w.cell? ⟨F, j * 3 + 1, none⟩ = some (.int .i64 d.n) ∧ w.cell? ⟨F, j * 3 + 2, none⟩ = some (kidv F (pos m q j) d.ks.len)
/-- Each one's kids stand where they begin. -/
def Full (m : Nat) (q : List Nd) : Prop := ∀ j d, q[j]? = some d → Ly q d.ks (pos m q j) ∧ d.ks.len ≤ maxLen
theorem laid_at {w : World} {lim F m : Nat} {q : List Nd} {ok : Nat → Prop} (hF : F < lim) (hL : Laid w F m q ok) (hf : Full m q) : ∀ (f : Fo) (s : Nat), Ly q f s → (∀ t, t < f.len → ∀ x, Sub m q (s + t) x → ok x) → f.At w lim F (s * 3)
  | .nil, _, _, _ => trivial
  | .cons k n ks r, s, h, hok => by
    have h0 : q[s]? = some ⟨k, n, ks⟩ := h 0 (by show 0 < r.len + 1; omega)
    obtain ⟨c0, c1, c2⟩ := hL s _ (hok 0 (by show 0 < r.len + 1; omega) _ .refl) h0
    obtain ⟨l1, l2⟩ := hf s _ h0
    have hk := laid_at hF hL hf ks (pos m q s) l1 (fun t ht x hx => hok 0 (by show 0 < r.len + 1; omega) x (Sub.front h0 (Nat.le_add_right _ _) (Nat.add_lt_add_left ht _) hx))
    obtain ⟨a, c, e, h1, h2, h3⟩ := kidv_kids l2 hk
    refine ⟨hF, c0, c1, ⟨a, c, by rw [c2]; exact congrArg some e, h1, h2, h3⟩, ?_⟩
    have := laid_at hF hL hf r (s + 1) h.tail (fun t ht x hx => hok (t + 1) (by show t + 1 < r.len + 1; omega) x (by rw [show s + (t + 1) = s + 1 + t by omega]; exact hx))
    rw [show s * 3 + 3 = (s + 1) * 3 by omega]
    exact this
end Go.Proofs.YtmbcfijhlpeddaaDoor
/- Nodes level by level: how the list of all nodes grows: numbers. -/
namespace Go.Proofs.YtmbcfijhlpeddaaDoor
open Go.ChangeShapes Go.WideShapes Go.ChangeAt Go.RowKit
set_option linter.unusedVariables false
set_option linter.unusedSimpArgs false
theorem Ly.append {q r : List Nd} {f : Fo} {s : Nat} (h : Ly q f s) : Ly (q ++ r) f s := fun t ht => by
  have := h t ht
  rw [List.getElem?_append_left (List.getElem?_eq_some_iff.1 this).1]
  exact this
theorem Ly.of_top (q : List Nd) (f : Fo) : Ly (q ++ f.top) f q.length := fun t ht => by
  rw [List.getElem?_append_right (by omega), show q.length + t - q.length = t by omega]
  exact Fo.top_at f t ht
/-- The list q of nodes, behind i of them. -/
structure Lv (f : Fo) (q : List Nd) (i : Nat) : Prop where
  top : Ly q f 0
  le : i ≤ q.length
  cnt : q.length + kin (q.drop i) = f.cnt
  nx : pos f.len q i = q.length
  ly : ∀ j d, j < i → q[j]? = some d → Ly q d.ks (pos f.len q j)
  up : ∀ j, j < i → j < pos f.len q j
theorem Lv.start (f : Fo) : Lv f f.top 0 := by
  refine ⟨fun t ht => ?_, Nat.zero_le _, ?_, ?_, fun j d h => by omega, fun j h => by omega⟩
  · rw [Nat.zero_add]; exact Fo.top_at f t ht
  · rw [List.drop_zero, Fo.top_len]; exact (Fo.top_kin f).symm
  · rw [pos_zero, Fo.top_len]
theorem drop_at {q : List Nd} {i : Nat} {d : Nd} (hd : q[i]? = some d) : q.drop i = d :: q.drop (i + 1) := by
  obtain ⟨h1, h2⟩ := List.getElem?_eq_some_iff.1 hd
  rw [← h2]; exact List.drop_eq_getElem_cons h1
theorem Lv.room {f : Fo} {q : List Nd} {i : Nat} (h : Lv f q i) {d : Nd} (hd : q[i]? = some d) : q.length + d.ks.len ≤ f.cnt := by
  have h1 := h.cnt
  have h2 := Fo.top_kin d.ks
  rw [drop_at hd, kin] at h1
  omega
theorem Lv.step {f : Fo} {q : List Nd} {i : Nat} (h : Lv f q i) {d : Nd} (hd : q[i]? = some d) : Lv f (q ++ d.ks.top) (i + 1) := by
  have hlt := (List.getElem?_eq_some_iff.1 hd).1
  have hdi : (q ++ d.ks.top)[i]? = some d := by rw [List.getElem?_append_left hlt]; exact hd
  have hp : pos f.len (q ++ d.ks.top) i = q.length := by rw [pos_append _ _ _ _ h.le]; exact h.nx
  refine ⟨h.top.append, by simp; omega, ?_, ?_, fun j e hj he => ?_, fun j hj => ?_⟩
  · have h1 := h.cnt
    have h2 := Fo.top_kin d.ks
    rw [drop_at hd, kin] at h1
    rw [List.drop_append_of_le_length (by omega), kin_append, List.length_append, Fo.top_len]
    omega
  · rw [pos_succ _ _ _ _ hdi, hp, List.length_append, Fo.top_len]
  · by_cases e1 : j = i
    · subst e1
      rw [hdi] at he; cases he
      rw [hp]
      exact Ly.of_top q _
    · have hj2 : j < q.length := by omega
      rw [List.getElem?_append_left hj2] at he
      rw [pos_append _ _ _ _ (by omega)]
      exact (h.ly j e (by omega) he).append
  · by_cases e1 : j = i
    · subst e1; rw [hp]; exact hlt
    · rw [pos_append _ _ _ _ (by omega)]
      exact h.up j (by omega)
theorem Lv.lens {f : Fo} {q : List Nd} {i : Nat} (h : Lv f q i) : q.length ≤ f.cnt := by have := h.cnt; omega
theorem Ly.len {q : List Nd} {f : Fo} {s : Nat} (h : Ly q f s) : f.len ≤ q.length := by
  cases hf : f.len with
  | zero => omega
  | succ l =>
    have := (List.getElem?_eq_some_iff.1 (h l (by omega))).1
    omega
theorem Lv.done {f : Fo} {q : List Nd} (h : Lv f q q.length) (hC : f.cnt ≤ 1048576) : q.length = f.cnt ∧ Full f.len q ∧ Rises f.len q := by
  have h1 := h.cnt
  rw [List.drop_length] at h1
  refine ⟨by simpa [kin] using h1, fun j d hj => ?_, fun j d hj _ => h.up j (List.getElem?_eq_some_iff.1 hj).1⟩
  have := h.ly j d (List.getElem?_eq_some_iff.1 hj).1 hj
  have h2 := this.len
  have h3 := h.lens
  exact ⟨this, by unfold maxLen; omega⟩
end Go.Proofs.YtmbcfijhlpeddaaDoor
/- package desc's Clone: the nodes in one piece, level by level; its part. -/
namespace Go.Proofs.YtmbcfijhlpeddaaDoor
open Go.ChangeShapes Go.WideShapes Go.ChangeAt Go.RowKit
set_option linter.unusedVariables false
set_option linter.unusedSimpArgs false
/-- The state of the copy: the nodes q lie in block F; the first i of them have kids that lie there too. -/
structure Fl (w : World) (F lim C m : Nat) (q : List Nd) (i : Nat) : Prop where
  blk : F < w.heap.size
  room : ∀ x, x < C * 3 → (w.cell? ⟨F, x, none⟩).isSome = true
  free : ∀ x, w.frozen? ⟨F, x, none⟩ = false
  num : ∀ j d, q[j]? = some d → w.cell? ⟨F, j * 3, none⟩ = some (.int .i64 d.k) ∧ w.cell? ⟨F, j * 3 + 1, none⟩ = some (.int .i64 d.n)
  old : ∀ j d, q[j]? = some d → i ≤ j → ∃ v, w.cell? ⟨F, j * 3 + 2, none⟩ = some v ∧ Kids w lim v d.ks
  new : ∀ j d, q[j]? = some d → j < i → w.cell? ⟨F, j * 3 + 2, none⟩ = some (kidv F (pos m q j) d.ks.len)
theorem Fl.keep {w w' : World} {F lim C m i : Nat} {q : List Nd} (h : Fl w F lim C m q i) (hF : w'.heap[F]? = w.heap[F]?) (hB : Below lim w w') : Fl w' F lim C m q i := by
  have hc : ∀ x, w'.cell? ⟨F, x, none⟩ = w.cell? ⟨F, x, none⟩ := fun x => World.cell?_of_block hF
  refine ⟨Nat.lt_of_lt_of_le h.blk hB.size, fun x hx => by rw [hc]; exact h.room x hx, fun x => (World.frozen?_of_block (a := ⟨F, x, none⟩) hF).trans (h.free x), fun j d hj => ?_, fun j d hj hi => ?_, fun j d hj hi => ?_⟩
  · rw [hc, hc]; exact h.num j d hj
  · obtain ⟨v, h1, h2⟩ := h.old j d hj hi
    exact ⟨v, by rw [hc]; exact h1, h2.carry hB⟩
  · rw [hc]; exact h.new j d hj hi
theorem Fl.below {w w' : World} {F lim C m i : Nat} {q : List Nd} (h : Fl w F lim C m q i) (hl : lim ≤ w.heap.size) (hB : Below w.heap.size w w') : Fl w' F lim C m q i := h.keep (hB.block F h.blk) (hB.mono hl)
theorem Fl.store {w : World} {F lim C m i : Nat} {q : List Nd} (h : Fl w F lim C m q i) (hl : lim ≤ F) {d : Nd} (hd : q[i]? = some d) : Fl (w.setCell ⟨F, i * 3 + 2, none⟩ (kidv F (pos m q i) d.ks.len)) F lim C m q (i + 1) := by
  have hB : Below lim w (w.setCell ⟨F, i * 3 + 2, none⟩ (kidv F (pos m q i) d.ks.len)) := (Below.refl _ _).setCell hl _
  have hc : ∀ x, x ≠ i * 3 + 2 → (w.setCell ⟨F, i * 3 + 2, none⟩ (kidv F (pos m q i) d.ks.len)).cell? ⟨F, x, none⟩ = w.cell? ⟨F, x, none⟩ := fun x hx => World.cell?_setCell_other _ _ _ _ (fun e => hx (by cases e; rfl))
  obtain ⟨u, hu, _⟩ := h.old i d hd (Nat.le_refl _)
  have hs := World.cell?_setCell_same w ⟨F, i * 3 + 2, none⟩ (kidv F (pos m q i) d.ks.len) hu
  refine ⟨by simpa using h.blk, fun x hx => ?_, fun x => by rw [World.frozen?_setCell]; exact h.free x, fun j d' hj => ?_, fun j d' hj hi => ?_, fun j d' hj hi => ?_⟩
  · by_cases e : x = i * 3 + 2
    · subst e; rw [hs]; rfl
    · rw [hc x e]; exact h.room x hx
  · rw [hc _ (by omega), hc _ (by omega)]; exact h.num j d' hj
  · obtain ⟨v, h1, h2⟩ := h.old j d' hj (by omega)
    exact ⟨v, by rw [hc _ (by omega)]; exact h1, h2.carry hB⟩
  · by_cases e : j = i
    · subst e
      obtain rfl : d = d' := by rw [hd] at hj; cases hj; rfl
      exact hs
    · rw [hc _ (by omega)]; exact h.new j d' hj (by omega)
/-- A row's cells, as nodes. -/
theorem at_nods : ∀ (f : Fo) (w : World) (lim b o : Nat), f.At w lim b o → ∃ news, Nods w lim news f.top ∧ ∀ j u, news[j]? = some u → w.cell? ⟨b, o + j, none⟩ = some u
  | .nil, _, _, _, _, _ => ⟨[], rfl, fun j u h => by simp at h⟩
  | .cons k n ks r, w, lim, b, o, ⟨hb, c0, c1, ⟨a, c, c2, h1, h2, h3⟩, hr⟩ => by
    obtain ⟨ys, hy, hc⟩ := at_nods r w lim b (o + 3) hr
    refine ⟨.int .i64 k :: .int .i64 n :: .slice a ks.len c :: ys, ⟨.slice a ks.len c, ys, rfl, ⟨a, c, rfl, h1, h2, h3⟩, hy⟩, fun j u hj => ?_⟩
    match j, hj with
    | 0, hj => simp at hj; subst hj; exact c0
    | 1, hj => simp at hj; subst hj; exact c1
    | 2, hj => simp at hj; subst hj; exact c2
    | j + 3, hj => rw [show o + (j + 3) = o + 3 + j by omega]; exact hc j u (by simpa using hj)
theorem but_setCells (F : Nat) : ∀ (vs : List Value) (o : Nat) (w : World), But w (w.setCells F o vs) F
  | [], _, w => But.refl w F
  | v :: r, o, w => (But.set w F o v).trans (but_setCells F r (o + 1) _)
theorem Fl.append {w : World} {F lim C m i : Nat} {q l : List Nd} {news : List Value} (h : Fl w F lim C m q i) (hl : lim ≤ F) (hi : i ≤ q.length) (hn : Nods w lim news l) (hr : q.length + l.length ≤ C) : Fl (w.setCells F (q.length * 3) news) F lim C m (q ++ l) i := by
  have hlF : F < w.heap.size := h.blk
  have hB : Below lim w (w.setCells F (q.length * 3) news) := (but_setCells F news (q.length * 3) w).b lim hl (by omega)
  have hlen := hn.len
  have hin := World.cell?_setCells_in F news (q.length * 3) w (fun j hj => h.room _ (by omega))
  have hout : ∀ x, x < q.length * 3 → (w.setCells F (q.length * 3) news).cell? ⟨F, x, none⟩ = w.cell? ⟨F, x, none⟩ := fun x hx => World.cell?_setCells_out F news _ w ⟨F, x, none⟩ (fun _ _ => .inl hx)
  have hin2 : ∀ x u, news[x]? = some u → (w.setCells F (q.length * 3) news).cell? ⟨F, q.length * 3 + x, none⟩ = some u := fun x u hx => by
    obtain ⟨h1, h2⟩ := List.getElem?_eq_some_iff.1 hx
    rw [hin x h1, h2]
  have hq : ∀ j d, (q ++ l)[j]? = some d → (j < q.length ∧ q[j]? = some d) ∨ (q.length ≤ j ∧ l[j - q.length]? = some d) := fun j d hj => by
    by_cases hlt : j < q.length
    · exact .inl ⟨hlt, by rwa [List.getElem?_append_left hlt] at hj⟩
    · exact .inr ⟨by omega, by rwa [List.getElem?_append_right (by omega)] at hj⟩
  have hnew : ∀ j d, q.length ≤ j → l[j - q.length]? = some d → (w.setCells F (q.length * 3) news).cell? ⟨F, j * 3, none⟩ = some (.int .i64 d.k) ∧ (w.setCells F (q.length * 3) news).cell? ⟨F, j * 3 + 1, none⟩ = some (.int .i64 d.n) ∧ ∃ v, (w.setCells F (q.length * 3) news).cell? ⟨F, j * 3 + 2, none⟩ = some v ∧ Kids (w.setCells F (q.length * 3) news) lim v d.ks := fun j d h1 h2 => by
    obtain ⟨h3, h4⟩ := List.getElem?_eq_some_iff.1 h2
    obtain ⟨v, a0, a1, a2, hk⟩ := hn.get (j - q.length) h3
    rw [h4] at a0 a1 hk
    have b0 := hin2 _ _ a0
    have b1 := hin2 _ _ a1
    have b2 := hin2 _ _ a2
    rw [show q.length * 3 + (j - q.length) * 3 = j * 3 by omega] at b0
    rw [show q.length * 3 + ((j - q.length) * 3 + 1) = j * 3 + 1 by omega] at b1
    rw [show q.length * 3 + ((j - q.length) * 3 + 2) = j * 3 + 2 by omega] at b2
    exact ⟨b0, b1, v, b2, hk.carry hB⟩
  refine ⟨Nat.lt_of_lt_of_le hlF hB.size, fun x hx => World.isSome_setCells F news _ w _ (h.room x hx), fun x => by rw [World.frozen?_setCells]; exact h.free x, fun j d hj => ?_, fun j d hj hi2 => ?_, fun j d hj hi2 => ?_⟩
  · rcases hq j d hj with ⟨h1, h2⟩ | ⟨h1, h2⟩
    · rw [hout _ (by omega), hout _ (by omega)]; exact h.num j d h2
    · obtain ⟨a0, a1, _⟩ := hnew j d h1 h2
      exact ⟨a0, a1⟩
  · rcases hq j d hj with ⟨h1, h2⟩ | ⟨h1, h2⟩
    · obtain ⟨v, g1, g2⟩ := h.old j d h2 hi2
      exact ⟨v, by rw [hout _ (by omega)]; exact g1, g2.carry hB⟩
    · exact (hnew j d h1 h2).2.2
  · rcases hq j d hj with ⟨h1, h2⟩ | ⟨h1, h2⟩
    · rw [hout _ (by omega), pos_append _ _ _ _ (by omega)]; exact h.new j d h2 hi2
    · omega
/-- 'append(flat, row...)' within its room. -/
theorem append_flat {ops : Array Oper} {rest : List Oper} {o : Oper} {a : Act} {Q : Exit → Act → World → Prop} {w : World} {F lim C k i m c L : Nat} {q : List Nd} {f : Fo} {ad : Option Addr} (hgd : o.guard = none) (s x : Operand)
    (ho : o.op = .call { callee := .builtin .append, args := #[s, x], argTypes := #[33, 33] }) (hs : a.eval s = .slice (some ⟨F, 0, none⟩) L C) (hx : a.eval x = .slice ad m c) (hL : q.length = L)
    (hF : Fl w F lim C k q i) (hl : lim ≤ F) (hi : i ≤ q.length) (hK : Kids w lim (.slice ad m c) f) (h0 : 0 < m) (hr : L + m ≤ C)
    (h : ∀ w1, Fl w1 F lim C k (q ++ f.top) i → But w w1 F → w1.heap.size = w.heap.size → wpList Tryd.prog ops Q rest (a.put o.dst (.slice (some ⟨F, 0, none⟩) (L + m) C)) w1) : wpList Tryd.prog ops Q (o :: rest) a w := by
  obtain ⟨i0, hi0⟩ : ∃ i, Tryd.prog.info? 35 = some i := by
    cases h0 : Tryd.prog.info? 35 with
    | none => have := info_desc; rw [h0] at this; cases this
    | some i => exact ⟨i, rfl⟩
  have h1 := info_desc
  rw [hi0] at h1
  simp only [Option.map_some, Option.some.injEq, Prod.mk.injEq] at h1
  obtain ⟨_, hsz, _⟩ := h1
  obtain ⟨a', c', e, _, _, h3⟩ := hK
  cases e
  rcases h3 with h3 | ⟨b, of, rfl, h3⟩
  · omega
  · obtain ⟨news, hn, hc⟩ := at_nods f w lim b of h3
    have hlen := hn.len
    rw [Fo.top_len] at hlen
    have hsrc : Src Tryd.prog i0.size 33 (.slice (some ⟨b, of, none⟩) f.len c) f.len news w := by
      rw [hsz]
      exact Src.ofSlice _ Tryd.underlying33 _ _ _ news hlen (fun j u hj => by rw [Addr.add_lit]; exact hc j u hj) hn.one
    have hrun := run_append_room_src (P := Tryd.prog) w 33 33 o.type 35 i0 Tryd.underlying33 hi0 F 0 L C _ f.len news hsrc hr
      (fun j hj => by rw [hsz, show 0 + L * 3 + j = L * 3 + j by omega]; exact hF.room _ (by omega)) (fun j hj => hF.free _)
    rw [hsz, show 0 + L * 3 = q.length * 3 by rw [hL]; omega] at hrun
    have hz : ∀ (vs : List Value) (o : Nat) (w : World), (w.setCells F o vs).heap.size = w.heap.size := fun vs => by
      induction vs with
      | nil => intro o w; rfl
      | cons v r ih => intro o w; rw [World.setCells, ih]; simp
    have h := h _ (hF.append hl hi hn (by rw [Fo.top_len]; omega)) (but_setCells F news (q.length * 3) w) (hz _ _ _)
    refine wpList_plain hgd fun _ hK => ?_
    unfold Oper.wp execOp
    simp only [ho, resolve, invoke, builtin, Sem.run_bind, Sem.run_pure, Result.andThen_ok, List.map_toArray, List.map_cons, List.map_nil, hx, hs, hrun]
    exact hK _ _ h
set_option maxRecDepth 100000 in
set_option maxHeartbeats 2000000 in
theorem clone_part (f : Fo) (v : Value) (w : World) (F b lim C m i : Nat) (q : List Nd) (hF : Fl w F lim C m q i) (hb : Bx w b 33 (.slice (some ⟨F, 0, none⟩) q.length C)) (hK : Kids w lim v f) (hl : lim ≤ F) (hbF : b ≠ F) (hlb : lim ≤ b) (hr : q.length + f.len ≤ C) (hi : i ≤ q.length) (hC : C ≤ 1048576) :
    Calls Tryd.prog 37 #[v, .pointer (some ⟨b, 0, none⟩)] w fun e w' => e = .returned (kidv F q.length f.len) ∧ Fl w' F lim C m (q ++ f.top) i ∧ Bx w' b 33 (.slice (some ⟨F, 0, none⟩) (q.length + f.len) C) ∧ w'.heap.size = w.heap.size ∧ (∀ X, X ≠ F → X ≠ b → X < w.heap.size → w'.heap[X]? = w.heap[X]?) ∧ (∀ B, B ≤ F → B ≤ b → Below B w w') := by
  obtain ⟨p, n, c, rfl, hc1, hc2, HM⟩ := hK.shape
  have cb := hb.cell
  have fb : w.frozen? ⟨b, 0, none⟩ = false := frozen_of_row _ _ _ _ _ hb
  obtain ⟨L, hL⟩ : ∃ L, q.length = L := ⟨_, rfl⟩
  rw [hL] at cb hb hr hi ⊢
  have hFb := hF.blk
  have hbb := hb.lt
  have HF := Lib.hid hF
  have HB := Lib.hid hb
  have HK := Lib.hid hK
  rw [← HM.out] at hr ⊢
  clear hF hb hK
  by_cases h0 : n = 0
  · subst h0
    have E : f.top = [] := List.length_eq_zero_iff.1 (by rw [Fo.top_len]; exact HM.out.symm)
    have R := Lib.hid (show Fl w F lim C m (q ++ f.top) i by rw [E, List.append_nil]; exact HF.out)
    go_enter Tryd.func37, Tryd.ntmps37
    go_wp2_with fail
    go_ret
    exact ⟨rfl, R.out, HB.out, rfl, fun _ _ _ _ => rfl, fun _ _ _ => Below.refl _ _⟩
  · have d1 : ((n : Int) == 0) = false := by simp; omega
    have hn0 : 0 < n := by omega
    have a1 : (0 : Int) ≤ (L : Int) := by omega
    have a2 : ((L : Int)) ≤ ((L : Int) + (n : Int)) := by omega
    have a3 : L ≤ C := by omega
    go_enter Tryd.func37, Tryd.ntmps37
    go_wp2_with (at_builtin; refine append_flat rfl _ _ rfl rfl rfl hL HF.out hl (by omega) HK.out hn0 hr ?_; intro w1 hF1 hB1 hs1; have HB1 := Lib.hid (HB.out.but hB1 hbF); have cb1 := HB1.out.cell; have fb1 : w1.frozen? ⟨b, 0, none⟩ = false := frozen_of_row _ _ _ _ _ HB1.out; have HF1 := Lib.hid hF1; have HBt := Lib.hid hB1; clear hF1 hB1)
    have hB2 := But.set w1 b 0 (.slice (some ⟨F, 0, none⟩) (L + n) C)
    go_ret
    refine ⟨?_, (HF1.out.keep (heap_setCell_other w1 ⟨b, 0, none⟩ F _ (Ne.symm hbF)) (hB2.b lim hlb (by omega))), HB1.out.set _, by simp; omega, fun X h1 h2 h3 => (heap_setCell_other w1 ⟨b, 0, none⟩ X _ h2).trans (HBt.out.o X h3 h1), fun B h1 h2 => (HBt.out.b B h1 (by omega)).trans (hB2.b B h2 (by omega))⟩
    obtain ⟨n', rfl⟩ : ∃ n', n = n' + 1 := ⟨n - 1, by omega⟩
    rw [show L + (n' + 1) - L = n' + 1 by omega]
    rfl
end Go.Proofs.YtmbcfijhlpeddaaDoor
/- package desc's rows and Nodes, where no kid has kids. -/
namespace Go.Proofs.YtmbcfijhlpeddaaDoor
open Go.ChangeShapes Go.WideShapes Go.ChangeAt Go.RowKit
set_option linter.unusedVariables false
open Go.Shelf
attribute [local go_sem] Oper.semAt_some
theorem below_grown00 {w w' : World} (h : Below w.heap.size w w') : w.grownBy w' none := ⟨h.os, h.tape, h.output, h.size, fun k hk _ => h.block k hk⟩
theorem kpl_b {n₀ : Nat} {w : World} (hn : n₀ ≤ w.heap.size) (W : World) (l : Nat) (o o' : Obj) (hl : w.heap.size ≤ l) (h : W.heap[l]? = some o) (h1 : o.isCells = false) (h2 : o.isWalk = false) : Below n₀ W (W.putObj l o') := belowK_b (w := w) hn W l o o' hl h h1 h2
def encr (v : Value) (_ : Unit) : Array Value := #[v]
def lenv : Value → Nat
  | .slice _ n _ => n
  | _ => 0
set_option maxRecDepth 100000 in
set_option maxHeartbeats 2000000 in
theorem desc_rows1 (g : Nat) (hg : 1 ≤ g) (l B1 n₀ m c : Nat) (p : Option Addr) (f : Fo) (hL : ∀ i, i < m → (f.kids i).len = 0) (hc : m ≤ c) (hc2 : c ≤ 9223372036854775807) (J Jx : List Unit → World → Prop)
    (hJ : ∀ pre A C, J pre A → Below A.heap.size A C → J pre C)
    (hY : ∀ pre x W, J pre W → pre.length < 1 → YieldAt Fence.wide (g - 1) Tryd.prog l (encr (.slice p m c) x) W fun e W' =>
      (e = .returned (.bool true) ∧ J (pre ++ [x]) W' ∧ Below n₀ W W') ∨ (e = .returned (.bool false) ∧ Jx (pre ++ [x]) W'))
    (W : World) (hB1 : W.cell? ⟨B1, 2, none⟩ = some (.slice p m c)) (hK : Kids W n₀ (.slice p m c) f) (hn0 : n₀ ≤ W.heap.size) (h0 : J [] W) :
    CallsIn Fence.wide g Tryd.prog 53 #[.func (.yield l) #[] #[], .pointer (some ⟨B1, 0, none⟩)] W fun e W' => (∃ v, e = .returned v) ∧
      ((∃ zs, zs.length = 1 ∧ J zs W') ∨ (∃ pre, True ∧ Jx pre W')) := by
  have lB := block_lt_of_cell hB1
  obtain ⟨W2, hW2⟩ : ∃ W2, W.alloc (.cells #[.slice p m c] 33) = W2 := ⟨_, rfl⟩
  have HJ := Lib.hid (show J [] W2 from hJ [] W W2 h0 (by rw [← hW2]; exact (Below.refl _ _).alloc (Nat.le_refl _) _))
  have hb2 : Below n₀ W W2 := by rw [← hW2]; exact (Below.refl _ _).alloc hn0 _
  have cX : W2.cell? ⟨W.heap.size, 0, none⟩ = some (.slice p m c) := by
    rw [← hW2]
    have hn := heap_alloc_new W (.cells #[.slice p m c] 33)
    rw [cell_of_row _ _ _ _ _ _ hn]; rfl
  have HK := Lib.hid (hK.carry hb2)
  refine callsIn_of_wp Tryd.func53 rfl trivial ?_ rfl
  simp only [Tryd.ntmps53, List.size_toArray, List.length_cons, List.length_nil, Nat.reduceAdd, Nat.reduceSub, Array.replicate_succ, Array.replicate_zero, List.push_toArray, List.append_toArray, List.nil_append, List.cons_append]
  gi_wp2
  clear hW2
  have lX : W.heap.size < W2.heap.size := block_lt_of_cell cX
  gi_loopw [3] (fun s wr => Hid (Below n₀ W2 wr) ∧ ((s = .slice (some ⟨W.heap.size, 0, none⟩) 1 1 ∧ wr.cell? ⟨W.heap.size, 0, none⟩ = some (.slice p m c) ∧ Hid (J [] wr)) ∨ (s = .slice (some ⟨W.heap.size, 0, none⟩) 0 1 ∧ Hid (J [()] wr)))) (fun s _ => lenv s)
  case atStart => exact ⟨Lib.hid (Below.refl _ _), .inl ⟨rfl, cX, HJ⟩⟩
  case round =>
    clear cX HJ
    obtain ⟨HB, ⟨rfl, cX, HJ⟩ | ⟨rfl, HJ⟩⟩ := hrel
    · obtain ⟨fn, tmps, assign, body, hy1, hR⟩ := hY [] () wr HJ.out (by simp)
      dsimp only [encr] at hy1 hR
      gi_wp2
      refine hR.mono ?_
      rintro e W3 (⟨rfl, hJ3, hk3⟩ | ⟨rfl, hJx3⟩)
      · have HB3 := Lib.hid (HB.out.trans hk3)
        have HK3 := Lib.hid (HK.out.carry HB3.out)
        have HJ3 := Lib.hid hJ3
        clear hJ3 hk3 hR HJ HB cX HK h0 hY
        gi_wp2
        gi_loopw [3, 29] (fun t j wr => ∃ s : Nat, s ≤ m ∧ t = .slice (some ⟨W.heap.size, 0, none⟩) 0 1 ∧ j = .int .i64 s ∧ W3 = wr) (fun _ j _ => m - (intOf j).toNat)
        case atStart => exact ⟨0, Nat.zero_le _, rfl, rfl, rfl⟩
        case round =>
          obtain ⟨s, hs, rfl, rfl, rfl⟩ := hrel
          by_cases hlt : s < m
          · obtain ⟨b, o, v, rfl, hb, g0, g1, g2, hKi⟩ := HK3.out.get hlt
            obtain ⟨a', c', rfl, _, _⟩ := hKi.form
            rw [hL s hlt] at g2
            have dd : decide ((s : Int) < (m : Int)) = true := decide_eq_true (by omega)
            clear hKi
            gi_wp2
            go_roundw
            case rel => exact ⟨s + 1, by omega, rfl, by go_num, trivial⟩
            case measure => (first | (simp [intOf]; done) | (simp [intOf]; omega) | (simp only [intOf]; omega))
          · obtain rfl : s = m := by omega
            have dd : decide ((s : Int) < (s : Int)) = false := decide_eq_false (by omega)
            gi_wp2
            go_roundw
            case rel => exact ⟨HB3, .inr ⟨rfl, HJ3⟩⟩
            case measure => exact Nat.zero_lt_one
      · gi_wp2
        refine bodyPost_ret (results_none rfl _ _ _) rfl ?_
        exact ⟨⟨_, rfl⟩, .inr ⟨_, trivial, hJx3⟩⟩
    · gi_wp2
      go_end0
      exact ⟨⟨_, rfl⟩, .inl ⟨[()], rfl, HJ.out⟩⟩
theorem desc_rows (g : Nat) (k n : Int) (v : Value) (w : World) :
    CallsIn Fence.wide g Tryd.prog 46 #[.agg #[.int .i64 k, .int .i64 n, v]] w fun e w' => e = .returned (.func (.func 53) #[] #[.pointer (some ⟨w.heap.size, 0, none⟩)]) ∧ w' = w.alloc (.cells #[.int .i64 k, .int .i64 n, v] 35) := by
  refine callsIn_of_wp Tryd.func46 rfl trivial ?_ rfl
  simp only [Tryd.ntmps46, List.size_toArray, List.length_cons, List.length_nil, Nat.reduceAdd, Nat.reduceSub, Array.replicate_succ, Array.replicate_zero, List.push_toArray, List.append_toArray, List.nil_append, List.cons_append]
  gi_wp2
  go_ret
  exact ⟨rfl, rfl⟩
theorem desc_stops (g : Nat) (hg : 1 ≤ g) (B1 n₀ m c : Nat) (p : Option Addr) (f : Fo) (hL : ∀ i, i < m → (f.kids i).len = 0) (hc : m ≤ c) (hc2 : c ≤ 9223372036854775807) (w : World)
    (hB1 : w.cell? ⟨B1, 2, none⟩ = some (.slice p m c)) (hK : Kids w n₀ (.slice p m c) f) (hn0 : n₀ ≤ w.heap.size) :
    SeqStopsK Fence.wide g Tryd.prog 53 #[.pointer (some ⟨B1, 0, none⟩)] (encr (.slice p m c)) (Below n₀) (fun zs => zs.length = 1) (fun _ => True) 1 w := fun l J Jx W hW hJ _ hY h0 =>
  desc_rows1 g hg l B1 n₀ m c p f hL hc hc2 J Jx (fun pre A C h hb => hJ pre A C none h (below_grown00 hb) (fun r e => by cases e)) hY W ((hW.cell (p := ⟨B1, 2, none⟩) (block_lt_of_cell hB1)).trans hB1) (hK.carry (hW.mono hn0)) (Nat.le_trans hn0 hW.size) h0
end Go.Proofs.YtmbcfijhlpeddaaDoor
