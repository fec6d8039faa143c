/- Put together by program (merge2.py): Syl Syr Sym2 Srk. -/
import Derived.Deep.DeepCutAuto
import Derived.Deep.CutBlock
import Derived.Test.YtafmiilkdhdngaaGreatDoorR1
import Derived.Test.YtafmiilkdhdngaaGreatDoorR5
/- symMerge where the left part is a single element. -/
namespace Go.Proofs.YtafmiilkdhdngaaGreatDoor
open Go.ChangeShapes Go.WideShapes Go.ChangeAt Go.RowKit
set_option linter.unusedVariables false
set_option linter.unusedSimpArgs false
attribute [local go_sem ↓] Go.wp_at_zero Go.wp_at_succ
set_option maxRecDepth 100000 in
set_option maxHeartbeats 8000000 in
theorem sym_left (a m b g N c B : Nat) (T : TypeId) (pre Q post : List E5) (x : E5) (W : World) (hS : Srtr W B) (hne : B ≠ g) (ha : pre.length = a) (hm : a + 1 = m) (hb : m + Q.length = b) (hQ : 1 ≤ Q.length) (hN : N = b + post.length) (hsm : N ≤ 1000000) (hc : N ≤ c ∧ c ≤ maxLen)
    (hform : Slv (pre ++ ([x] ++ (Q ++ post)))) (h : RowE W g T (pre ++ ([x] ++ (Q ++ post)))) (hu : Srt.Up elt Q) :
    Calls Tryz.prog 99 #[.slice (some ⟨g, 0, none⟩) N c, .int .i64 a, .int .i64 m, .int .i64 b, .func (.func 62) #[] #[.pointer (some ⟨B, 0, none⟩)]] W fun e w' => e = .returned (.tuple #[]) ∧ But W w' g ∧ RowE w' g T (pre ++ (Srt.mrg elt [x] Q ++ post)) := by
  have w1 : IntKind.i64.wrap ((m : Int) - (a : Int)) = 1 := by rw [IntWalk.i64_in _ (by omega)]; omega
  obtain ⟨xn0, hx0⟩ : ∃ z, x = z := ⟨_, rfl⟩
  have HU := Lib.hid hu
  have HS := Lib.hid hS
  have HH := Lib.hid h
  have HSl := Lib.hid hform
  have HL := Lib.hid (show pre.length = a ∧ (a + 1 = m ∧ m + Q.length = b) ∧ N = b + post.length from ⟨ha, ⟨hm, hb⟩, hN⟩)
  have hbN : b ≤ N := by omega
  have HC0 : Hid (m ≤ m ∧ CutL Q x (m - m) (b - m)) := Lib.hid ⟨Nat.le_refl _, ⟨by omega, by omega, fun i y h1 h2 => by omega, fun i y h1 h2 => by have := (List.getElem?_eq_some_iff.1 h2).1; omega⟩⟩
  clear hS h hform hu ha hN hx0
  go_enter Tryz.func99, Tryz.ntmps99
  go_wp2_with fail
  clear w1
  go_loopw [10, 11, 12] (fun s r _ wr => ∃ ns nr : Nat, s = .int .i64 ns ∧ r = .int .i64 nr ∧ Hid (m ≤ ns ∧ CutL Q x (ns - m) (nr - m)) ∧ Hid (Below W.heap.size W wr)) (fun s r _ _ => (intOf r).toNat - (intOf s).toNat)
  case atStart => exact ⟨m, b, rfl, rfl, HC0, Lib.hid (Below.refl _ _)⟩
  case round =>
    obtain ⟨ns, nr, rfl, rfl, HC, HB⟩ := hrel
    have hCC := HC.out.2
    have hlo := HC.out.1
    have hLL := HL.out
    have c1 := hCC.b
    have c2 := hCC.c
    by_cases hlt : ns < nr
    case neg =>
      have d3 : decide ((ns : Int) < (nr : Int)) = false := decide_eq_false (by omega)
      have d3' : decide (ns < nr) = false := decide_eq_false hlt
      obtain ⟨S, hSs⟩ : ∃ S, ns - m = S := ⟨_, rfl⟩
      have hDN : CutL Q x S S := by have e : nr - m = ns - m ∨ True := .inr trivial; have e2 := hCC; rw [hSs] at e2; by_cases q : nr = ns; (rw [q, hSs] at e2; exact e2); exact ⟨Nat.le_refl _, by have := e2.b; have := e2.c; omega, e2.l, fun i y h1 h2 => e2.g i y (by omega) h2⟩
      have MS := hDN.done
      have hSl := hDN.c
      have hmx : ∀ e : E5, e ∈ Q → ∃ a n c, e.v = .slice a n c := fun e he => HSl.out e (by simp [he])
      obtain ⟨op, om, oc, hov⟩ := HSl.out x (by simp)
      have HMX := Lib.hid hmx
      have HR0 : Hid (RowE wr g T (wayl pre Q post x 0)) := Lib.hid (by have := HH.out.below HB.out; unfold wayl; simpa using this)
      have HB0 := Lib.hid (But.of_below g HB.out)
      have HFIN := Lib.hid (show pre ++ (Srt.mrg elt [x] Q ++ post) = wayl pre Q post x S by rw [MS]; unfold wayl; simp)
      have WAY := Lib.hid (fun t (ht : t < Q.length) => way_at (pre := pre) (Q := Q) (post := post) (x := x) (t := t) (p := a + t) ht (by rw [hLL.1]))
      obtain ⟨oa, ob, ok, on, ov⟩ := x
      simp only at hov
      subst hov
      clear hCC hmx MS hDN HC0 HC HU HS HH HSl
      obtain ⟨e0, he0⟩ : ∃ e0, a + S = e0 := ⟨_, rfl⟩
      have vS : IntKind.i64.wrap ((ns : Int) - 1) = (e0 : Int) := by rw [IntWalk.i64_in _ (by omega)]; omega
      have hSN : e0 < N := by omega
      clear hLL
      go_wp2_with fail
      go_loopw [13] (fun k wq => ∃ t : Nat, k = .int .i64 ((a + t : Nat) : Int) ∧ t ≤ S ∧ Hid (RowE wq g T (wayl pre Q post ⟨oa, ob, ok, on, .slice op om oc⟩ t)) ∧ Hid (But W wq g)) (fun k _ => e0 - (intOf k).toNat)
      case atStart => exact ⟨0, rfl, Nat.zero_le _, HR0, HB0⟩
      case round =>
        obtain ⟨t, rfl, ht, HR, HBB⟩ := hrel
        obtain ⟨p, hp⟩ : ∃ p, a + t = p := ⟨_, rfl⟩
        rw [hp]
        by_cases hts : t < S
        case neg =>
          obtain rfl : t = S := by omega
          have d4 : decide ((p : Int) < (e0 : Int)) = false := decide_eq_false (by omega)
          have d4' : decide (p < e0) = false := decide_eq_false (by omega)
          clear he0 hp
          go_wp2_with fail
          refine bodyPost_ret (results_none rfl _ _ _) rfl ?_
          exact ⟨rfl, HBB.out, by rw [HFIN.out]; exact HR.out⟩
        case pos =>
          have d4 : decide ((p : Int) < (e0 : Int)) = true := decide_eq_true (by omega)
          have d4' : decide (p < e0) = true := decide_eq_true (by omega)
          obtain ⟨z, H⟩ := WAY.out t (by omega)
          rw [hp] at H
          obtain ⟨za, zb, zk, zn, zv⟩ := z
          obtain ⟨zp, zm, zc, hzv⟩ := HMX.out _ H.my
          simp only at hzv
          subst hzv
          obtain ⟨J, hJ⟩ : ∃ J, p + 1 = J := ⟨_, rfl⟩
          obtain ⟨i1, i2, i3, -, -, -, -⟩ := H
          rw [hJ] at i2 i3
          have v1 : IntKind.i64.wrap ((p : Int) + 1) = (J : Int) := by rw [IntWalk.i64_in _ (by omega)]; omega
          obtain ⟨x0, x1, x2, x3, x4⟩ := HR.out.cells i1
          obtain ⟨y0, y1, y2, y3, y4⟩ := HR.out.cells i2
          have E1 := (HR.out.set p ⟨za, zb, zk, zn, .slice zp zm zc⟩).set J ⟨oa, ob, ok, on, .slice op om oc⟩
          rw [i3] at E1
          have E2 := (HBB.out.trans (s5o_but wr g (p * 5) ⟨za, zb, zk, zn, .slice zp zm zc⟩)).trans (s5o_but _ g (J * 5) ⟨oa, ob, ok, on, .slice op om oc⟩)
          obtain ⟨wn, hwn⟩ : ∃ wn, s5o (s5o wr g (p * 5) ⟨za, zb, zk, zn, .slice zp zm zc⟩) g (J * 5) ⟨oa, ob, ok, on, .slice op om oc⟩ = wn := ⟨_, rfl⟩
          have hpN : p < N := by omega
          have hJN : J < N := by omega
          have hp0 : (0 : Int) ≤ (p : Int) := by omega
          have hpI : (p : Int) < (N : Int) := by omega
          have hJ0' : (0 : Int) ≤ (J : Int) := by omega
          have hJI : (J : Int) < (N : Int) := by omega
          have hJp : ¬ J = p := by omega
          have hpJ : ¬ p = J := by omega
          have fr := HR.out.free
          have f0 := fr (J * 5)
          have f1 := fr (J * 5 + 1)
          have f2 := fr (J * 5 + 2)
          have f3 := fr (J * 5 + 3)
          have f4 := fr (J * 5 + 4)
          have g0 := fr (p * 5)
          have g1 := fr (p * 5 + 1)
          have g2 := fr (p * 5 + 2)
          have g3 := fr (p * 5 + 3)
          have g4 := fr (p * 5 + 4)
          rw [hwn] at E1 E2
          simp only [s5o] at hwn
          have HWN := Lib.hid hwn
          have E3 : Hid (RowE wn.drew g T _) := Lib.hid E1
          have E4 := Lib.hid (E2.trans (But.drew _ _))
          have HP := Lib.hid (show p + 1 = J ∧ a + t = p ∧ (p < N ∧ e0 < N ∧ t < S ∧ p < e0) from ⟨by omega, by omega, by omega, by omega, by omega, by omega⟩)
          clear E1 E2 hwn fr i1 i2 i3 hJ hp he0 HR
          go_wp2_with fail
          have hJm := HP.out
          clear hJm
          go_region
          rw [HWN.out]
          clear x0 x1 x2 x3 x4 y0 y1 y2 y3 y4 f0 f1 f2 f3 f4 g0 g1 g2 g3 g4 HWN hJp hpJ v1
          go_wp2_with fail
          go_roundw
          case rel => exact ⟨t + 1, by have := HP.out; rw [show a + (t + 1) = J by omega]; congr 1; omega, by omega, E3, E4⟩
          case measure => simp only [intOf]; have := HP.out; omega
    case pos =>
      have d3 : decide ((ns : Int) < (nr : Int)) = true := decide_eq_true (by omega)
      have d3' : decide (ns < nr) = true := decide_eq_true hlt
      obtain ⟨cc, hcc⟩ : ∃ cc, (ns + nr) / 2 = cc := ⟨_, rfl⟩
      have hk1 : ns ≤ cc ∧ cc < nr := by omega
      have k1 : cc - m < Q.length := by omega
      have u1 : IntKind.i64.wrap ((ns : Int) + (nr : Int)) = ((ns + nr : Nat) : Int) := by rw [IntWalk.i64_in _ (by omega)]; omega
      have uu : IntKind.u64.wrap ((ns : Int) + (nr : Int)) = ((ns + nr : Nat) : Int) := by rw [IntWalk.u64_in _ (by omega)]; omega
      have u2 : IntKind.i64.wrap (IntKind.u64.wrap ((ns : Int) + (nr : Int)) / 2) = (cc : Int) := by rw [uu, IntWalk.i64_in _ (by omega)]; omega
      have u3 : wrap64 (IntKind.u64.wrap ((ns : Int) + (nr : Int)) / 2) = (cc : Int) := (IntWalk.i64_left _).symm.trans u2
      have HX2 := Lib.hid u2
      have HX3 := Lib.hid u3
      clear uu u2 u3
      have hcN : cc < N := by omega
      have hoN : a < N := by omega
      have ho0 : (0 : Int) ≤ (a : Int) := by omega
      have hoI : (a : Int) < (N : Int) := by omega
      have hc0 : (0 : Int) ≤ (cc : Int) := by omega
      have hcI : (cc : Int) < (N : Int) := by omega
      obtain ⟨y, hz⟩ : ∃ z, Q[cc - m]? = some z := ⟨_, List.getElem?_eq_getElem k1⟩
      have hfz := HSl.out y (by have := List.mem_of_getElem? hz; simp [this])
      have hfo := HSl.out x (by simp)
      have iZ : (pre ++ ([x] ++ (Q ++ post)))[cc]? = some y := by
        rw [List.getElem?_append_right (by omega), hLL.1, List.getElem?_append_right (by simp; omega), List.length_singleton, List.getElem?_append_left (by omega), show cc - a - 1 = cc - m by omega]; exact hz
      have iO : (pre ++ ([x] ++ (Q ++ post)))[a]? = some x := by
        rw [List.getElem?_append_right (by omega), hLL.1, Nat.sub_self]; rfl
      have CTT := Lib.hid (fun (he : elt y x = true) => (show m ≤ cc + 1 ∧ CutL Q x (cc + 1 - m) (nr - m) from ⟨by omega, by have := hCC.left HU.out (c := cc - m) ⟨by omega, by omega⟩ hz he; rw [show cc + 1 - m = cc - m + 1 by omega]; exact this⟩))
      have CTF := Lib.hid (fun (he : elt y x = false) => (show m ≤ ns ∧ CutL Q x (ns - m) (cc - m) from ⟨by omega, by have := hCC.right HU.out (c := cc - m) ⟨by omega, by omega⟩ hz he; exact this⟩))
      have hCCb : m ≤ cc := by omega
      obtain ⟨xa, xb, xk, xn, xv⟩ := x
      obtain ⟨ya, yb, yk, yn, yv⟩ := y
      obtain ⟨xp, xm, xc, hxv⟩ := hfo
      obtain ⟨yp, ym, yc, hyv⟩ := hfz
      simp only at hxv hyv
      subst hxv hyv
      have MK := Lib.hid (fun w' (hb : Below wr.heap.size wr w') => (show w'.cell? ⟨g, cc * 5, none⟩ = some (.int .i64 ya) ∧ w'.cell? ⟨g, cc * 5 + 1, none⟩ = some (.int .i64 yb) ∧ w'.cell? ⟨g, cc * 5 + 2, none⟩ = some (.int .i64 yk) ∧ w'.cell? ⟨g, cc * 5 + 3, none⟩ = some (.int .i64 yn) ∧ w'.cell? ⟨g, cc * 5 + 4, none⟩ = some (.slice yp ym yc) ∧ w'.cell? ⟨g, a * 5, none⟩ = some (.int .i64 xa) ∧ w'.cell? ⟨g, a * 5 + 1, none⟩ = some (.int .i64 xb) ∧ w'.cell? ⟨g, a * 5 + 2, none⟩ = some (.int .i64 xk) ∧ w'.cell? ⟨g, a * 5 + 3, none⟩ = some (.int .i64 xn) ∧ w'.cell? ⟨g, a * 5 + 4, none⟩ = some (.slice xp xm xc) ∧ Below wr.heap.size wr w' from by
        obtain ⟨x0, x1, x2, x3, x4⟩ := (HH.out.below (HB.out.trans (hb.mono HB.out.size))).cells iO
        obtain ⟨y0, y1, y2, y3, y4⟩ := (HH.out.below (HB.out.trans (hb.mono HB.out.size))).cells iZ
        exact ⟨y0, y1, y2, y3, y4, x0, x1, x2, x3, x4, hb⟩))
      have KP := Lib.hid (fun (wa w' : World) (hS : wa.cell? ⟨g, cc * 5, none⟩ = some (.int .i64 ya) ∧ wa.cell? ⟨g, cc * 5 + 1, none⟩ = some (.int .i64 yb) ∧ wa.cell? ⟨g, cc * 5 + 2, none⟩ = some (.int .i64 yk) ∧ wa.cell? ⟨g, cc * 5 + 3, none⟩ = some (.int .i64 yn) ∧ wa.cell? ⟨g, cc * 5 + 4, none⟩ = some (.slice yp ym yc) ∧ wa.cell? ⟨g, a * 5, none⟩ = some (.int .i64 xa) ∧ wa.cell? ⟨g, a * 5 + 1, none⟩ = some (.int .i64 xb) ∧ wa.cell? ⟨g, a * 5 + 2, none⟩ = some (.int .i64 xk) ∧ wa.cell? ⟨g, a * 5 + 3, none⟩ = some (.int .i64 xn) ∧ wa.cell? ⟨g, a * 5 + 4, none⟩ = some (.slice xp xm xc) ∧ Below wr.heap.size wr wa) (hb : Below wa.heap.size wa w') => MK.out w' (hS.2.2.2.2.2.2.2.2.2.2.trans (hb.mono hS.2.2.2.2.2.2.2.2.2.2.size)))
      have CL := Lib.hid (fun w' (hb : Below wr.heap.size wr w') => (show Calls Tryz.prog 62 #[.agg #[.int .i64 ya, .int .i64 yb, .int .i64 yk, .int .i64 yn, .slice yp ym yc], .agg #[.int .i64 xa, .int .i64 xb, .int .i64 xk, .int .i64 xn, .slice xp xm xc], .pointer (some ⟨B, 0, none⟩)] w' fun e w'' => e = .returned (.int .i64 (cmpK ya yb xa xb)) ∧ Below w'.heap.size w' w'' from e_clo B ⟨ya, yb, yk, yn, .slice yp ym yc⟩ ⟨xa, xb, xk, xn, .slice xp xm xc⟩ w' (HS.out.below (HB.out.trans (hb.mono HB.out.size)))))
      have hk := cmpK_lt ya yb xa xb
      generalize cmpK ya yb xa xb = z at *
      cases he : Srt.klt (ya, yb) (xa, xb)
      case false =>
        rw [he] at hk
        have hC2 := Lib.hid (CTF.out (by unfold elt; exact he))
        clear hCC hLL c1 c2 hlo hk1 k1 hz iZ iO CTT CTF he hCCb
        have HCC := Lib.hid hcc
        clear hcc
        have u2 := HX2.out
        have u3 := HX3.out
        go_wp2_with fail
        clear u1 u2 u3 HX2 HX3
        go_region_held3 (fun w' => w'.cell? ⟨g, cc * 5, none⟩ = some (.int .i64 ya) ∧ w'.cell? ⟨g, cc * 5 + 1, none⟩ = some (.int .i64 yb) ∧ w'.cell? ⟨g, cc * 5 + 2, none⟩ = some (.int .i64 yk) ∧ w'.cell? ⟨g, cc * 5 + 3, none⟩ = some (.int .i64 yn) ∧ w'.cell? ⟨g, cc * 5 + 4, none⟩ = some (.slice yp ym yc) ∧ w'.cell? ⟨g, a * 5, none⟩ = some (.int .i64 xa) ∧ w'.cell? ⟨g, a * 5 + 1, none⟩ = some (.int .i64 xb) ∧ w'.cell? ⟨g, a * 5 + 2, none⟩ = some (.int .i64 xk) ∧ w'.cell? ⟨g, a * 5 + 3, none⟩ = some (.int .i64 xn) ∧ w'.cell? ⟨g, a * 5 + 4, none⟩ = some (.slice xp xm xc) ∧ Below wr.heap.size wr w') (first | exact MK.out _ ((Below.refl _ _).drew) | assumption | (refine KP.out _ _ ?_ hb; first | assumption | exact MK.out _ ((Below.refl _ _).drew))) (first | (go_at_call 62; (with_reducible refine (CL.out _ (by go_split_ands; assumption)).mono ?_); rintro e w' ⟨rfl, hb⟩))
        rename_i hEnd
        obtain ⟨-, -, -, -, -, -, -, -, -, -, hBB⟩ := hEnd
        have HB2 := Lib.hid (HB.out.trans (hBB.mono HB.out.size))
        clear hBB MK KP CL
        go_wp2_with fail
        go_roundw
        case rel => exact ⟨ns, cc, rfl, rfl, hC2, HB2⟩
        case measure => simp only [intOf]; have := HCC.out; omega
      case true =>
        rw [he] at hk
        have hC2 := Lib.hid (CTT.out (by unfold elt; exact he))
        clear hCC hLL c1 c2 hlo hk1 k1 hz iZ iO CTT CTF he hCCb
        have HCC := Lib.hid hcc
        clear hcc
        have u2 := HX2.out
        have u3 := HX3.out
        go_wp2_with fail
        clear u1 u2 u3 HX2 HX3
        go_region_held3 (fun w' => w'.cell? ⟨g, cc * 5, none⟩ = some (.int .i64 ya) ∧ w'.cell? ⟨g, cc * 5 + 1, none⟩ = some (.int .i64 yb) ∧ w'.cell? ⟨g, cc * 5 + 2, none⟩ = some (.int .i64 yk) ∧ w'.cell? ⟨g, cc * 5 + 3, none⟩ = some (.int .i64 yn) ∧ w'.cell? ⟨g, cc * 5 + 4, none⟩ = some (.slice yp ym yc) ∧ w'.cell? ⟨g, a * 5, none⟩ = some (.int .i64 xa) ∧ w'.cell? ⟨g, a * 5 + 1, none⟩ = some (.int .i64 xb) ∧ w'.cell? ⟨g, a * 5 + 2, none⟩ = some (.int .i64 xk) ∧ w'.cell? ⟨g, a * 5 + 3, none⟩ = some (.int .i64 xn) ∧ w'.cell? ⟨g, a * 5 + 4, none⟩ = some (.slice xp xm xc) ∧ Below wr.heap.size wr w') (first | exact MK.out _ ((Below.refl _ _).drew) | assumption | (refine KP.out _ _ ?_ hb; first | assumption | exact MK.out _ ((Below.refl _ _).drew))) (first | (go_at_call 62; (with_reducible refine (CL.out _ (by go_split_ands; assumption)).mono ?_); rintro e w' ⟨rfl, hb⟩))
        rename_i hEnd
        obtain ⟨-, -, -, -, -, -, -, -, -, -, hBB⟩ := hEnd
        have HB2 := Lib.hid (HB.out.trans (hBB.mono HB.out.size))
        clear hBB MK KP CL
        go_wp2_with fail
        go_roundw
        case rel => exact ⟨cc + 1, nr, by go_num, rfl, hC2, HB2⟩
        case measure => simp only [intOf]; have := HCC.out; omega
end Go.Proofs.YtafmiilkdhdngaaGreatDoor
/- symMerge where the right part is a single element. -/
namespace Go.Proofs.YtafmiilkdhdngaaGreatDoor
open Go.ChangeShapes Go.WideShapes Go.ChangeAt Go.RowKit
set_option linter.unusedVariables false
set_option linter.unusedSimpArgs false
attribute [local go_sem ↓] Go.wp_at_zero Go.wp_at_succ
set_option maxRecDepth 100000 in
set_option maxHeartbeats 8000000 in
theorem sym_right (a m b g N c B : Nat) (T : TypeId) (pre P post : List E5) (y : E5) (W : World) (hS : Srtr W B) (hne : B ≠ g) (ha : pre.length = a) (hm : a + P.length = m) (hb : m + 1 = b) (hP : 2 ≤ P.length) (hN : N = b + post.length) (hsm : N ≤ 1000000) (hc : N ≤ c ∧ c ≤ maxLen)
    (hform : Slv (pre ++ (P ++ ([y] ++ post)))) (h : RowE W g T (pre ++ (P ++ ([y] ++ post)))) (hu : Srt.Up elt P) :
    Calls Tryz.prog 99 #[.slice (some ⟨g, 0, none⟩) N c, .int .i64 a, .int .i64 m, .int .i64 b, .func (.func 62) #[] #[.pointer (some ⟨B, 0, none⟩)]] W fun e w' => e = .returned (.tuple #[]) ∧ But W w' g ∧ RowE w' g T (pre ++ (Srt.mrg elt P [y] ++ post)) := by
  have w1 : IntKind.i64.wrap ((m : Int) - (a : Int)) = (P.length : Int) := by rw [IntWalk.i64_in _ (by omega)]; omega
  have w2 : IntKind.i64.wrap ((b : Int) - (m : Int)) = 1 := by rw [IntWalk.i64_in _ (by omega)]; omega
  have d1 : ((P.length : Int) == 1) = false := by rw [beq_eq_false_iff_ne]; omega
  have d1' : (P.length == 1) = false := by rw [beq_eq_false_iff_ne]; omega
  obtain ⟨xn0, hx0⟩ : ∃ z, y = z := ⟨_, rfl⟩
  have HU := Lib.hid hu
  have HS := Lib.hid hS
  have HH := Lib.hid h
  have HSl := Lib.hid hform
  have HL := Lib.hid (show pre.length = a ∧ (a + P.length = m ∧ m + 1 = b) ∧ N = b + post.length from ⟨ha, ⟨hm, hb⟩, hN⟩)
  have hbN : b ≤ N := by omega
  have HC0 : Hid (a ≤ a ∧ CutR P y (a - a) (m - a)) := Lib.hid ⟨Nat.le_refl _, ⟨by omega, by omega, fun i y h1 h2 => by omega, fun i y h1 h2 => by have := (List.getElem?_eq_some_iff.1 h2).1; omega⟩⟩
  clear hS h hform hu ha hN hx0
  go_enter Tryz.func99, Tryz.ntmps99
  go_wp2_with fail
  clear w1 w2 d1 d1'
  go_loopw [14, 15, 16] (fun s r _ wr => ∃ ns nr : Nat, s = .int .i64 ns ∧ r = .int .i64 nr ∧ Hid (a ≤ ns ∧ CutR P y (ns - a) (nr - a)) ∧ Hid (Below W.heap.size W wr)) (fun s r _ _ => (intOf r).toNat - (intOf s).toNat)
  case atStart => exact ⟨a, m, rfl, rfl, HC0, Lib.hid (Below.refl _ _)⟩
  case round =>
    obtain ⟨ns, nr, rfl, rfl, HC, HB⟩ := hrel
    have hCC := HC.out.2
    have hlo := HC.out.1
    have hLL := HL.out
    have c1 := hCC.b
    have c2 := hCC.c
    by_cases hlt : ns < nr
    case neg =>
      have d3 : decide ((ns : Int) < (nr : Int)) = false := decide_eq_false (by omega)
      have d3' : decide (ns < nr) = false := decide_eq_false hlt
      obtain ⟨S, hSs⟩ : ∃ S, ns - a = S := ⟨_, rfl⟩
      have hDN : CutR P y S S := by have e : nr - a = ns - a ∨ True := .inr trivial; have e2 := hCC; rw [hSs] at e2; by_cases q : nr = ns; (rw [q, hSs] at e2; exact e2); exact ⟨Nat.le_refl _, by have := e2.b; have := e2.c; omega, e2.l, fun i y h1 h2 => e2.g i y (by omega) h2⟩
      have MS := hDN.done
      have hSl := hDN.c
      have hmx : ∀ e : E5, e ∈ P → ∃ a n c, e.v = .slice a n c := fun e he => HSl.out e (by simp [he])
      obtain ⟨op, om, oc, hov⟩ := HSl.out y (by simp)
      have HMX := Lib.hid hmx
      have HR0 : Hid (RowE wr g T (wayl pre P post y P.length)) := Lib.hid (by have := HH.out.below HB.out; unfold wayl; simpa using this)
      have HB0 := Lib.hid (But.of_below g HB.out)
      have HFIN := Lib.hid (show pre ++ (Srt.mrg elt P [y] ++ post) = wayl pre P post y S by rw [MS]; unfold wayl; simp)
      have WAY := Lib.hid (fun t (ht : t < P.length) => way_at (pre := pre) (Q := P) (post := post) (x := y) (t := t) (p := a + t) ht (by rw [hLL.1]))
      obtain ⟨oa, ob, ok, on, ov⟩ := y
      simp only at hov
      subst hov
      clear hCC hmx MS hDN HC0 HC HU HS HH HSl
      obtain ⟨M, hM⟩ : ∃ M, P.length = M := ⟨_, rfl⟩
      rw [hM] at HR0 hLL hSl
      have hns : a + S = ns := by omega
      have hmN : m < N := by omega
      have HM := Lib.hid hM
      have hLL2 := hLL.2.1.1
      clear hLL hM
      go_wp2_with fail
      go_loopw [17] (fun k wq => ∃ t : Nat, k = .int .i64 ((a + t : Nat) : Int) ∧ S ≤ t ∧ t ≤ M ∧ Hid (RowE wq g T (wayl pre P post ⟨oa, ob, ok, on, .slice op om oc⟩ t)) ∧ Hid (But W wq g)) (fun k _ => (intOf k).toNat)
      case atStart => exact ⟨M, by rw [hLL2], hSl, Nat.le_refl _, HR0, HB0⟩
      case round =>
        obtain ⟨t, rfl, ht1, ht, HR, HBB⟩ := hrel
        obtain ⟨J, hJ0⟩ : ∃ J, a + t = J := ⟨_, rfl⟩
        rw [hJ0]
        by_cases hts : S < t
        case neg =>
          obtain rfl : t = S := by omega
          have d4 : decide ((J : Int) > (ns : Int)) = false := decide_eq_false (by omega)
          have d4' : decide (ns < J) = false := decide_eq_false (by omega)
          clear hns hJ0
          go_wp2_with fail
          refine bodyPost_ret (results_none rfl _ _ _) rfl ?_
          exact ⟨rfl, HBB.out, by rw [HFIN.out]; exact HR.out⟩
        case pos =>
          have d4 : decide ((J : Int) > (ns : Int)) = true := decide_eq_true (by omega)
          have d4' : decide (ns < J) = true := decide_eq_true (by omega)
          obtain ⟨t', rfl⟩ : ∃ t', t = t' + 1 := ⟨t - 1, by omega⟩
          obtain ⟨z, H⟩ := WAY.out t' (by have := HM.out; omega)
          obtain ⟨p, hp⟩ : ∃ p, a + t' = p := ⟨_, rfl⟩
          rw [hp] at H
          obtain ⟨za, zb, zk, zn, zv⟩ := z
          obtain ⟨zp, zm, zc, hzv⟩ := HMX.out _ H.my
          simp only at hzv
          subst hzv
          have hJ : p + 1 = J := by omega
          obtain ⟨-, -, -, i1, i2, i3, -⟩ := H
          rw [hJ] at i1 i3
          have v1 : IntKind.i64.wrap ((J : Int) - 1) = (p : Int) := by rw [IntWalk.i64_in _ (by omega)]; omega
          obtain ⟨x0, x1, x2, x3, x4⟩ := HR.out.cells i1
          obtain ⟨y0, y1, y2, y3, y4⟩ := HR.out.cells i2
          have E1 := (HR.out.set J ⟨za, zb, zk, zn, .slice zp zm zc⟩).set p ⟨oa, ob, ok, on, .slice op om oc⟩
          rw [i3] at E1
          have E2 := (HBB.out.trans (s5o_but wr g (J * 5) ⟨za, zb, zk, zn, .slice zp zm zc⟩)).trans (s5o_but _ g (p * 5) ⟨oa, ob, ok, on, .slice op om oc⟩)
          obtain ⟨wn, hwn⟩ : ∃ wn, s5o (s5o wr g (J * 5) ⟨za, zb, zk, zn, .slice zp zm zc⟩) g (p * 5) ⟨oa, ob, ok, on, .slice op om oc⟩ = wn := ⟨_, rfl⟩
          have hpN : p < N := by omega
          have hJN : J < N := by omega
          have hp0 : (0 : Int) ≤ (p : Int) := by omega
          have hpI : (p : Int) < (N : Int) := by omega
          have hJ0' : (0 : Int) ≤ (J : Int) := by omega
          have hJI : (J : Int) < (N : Int) := by omega
          have hJp : ¬ J = p := by omega
          have hpJ : ¬ p = J := by omega
          have fr := HR.out.free
          have f0 := fr (J * 5)
          have f1 := fr (J * 5 + 1)
          have f2 := fr (J * 5 + 2)
          have f3 := fr (J * 5 + 3)
          have f4 := fr (J * 5 + 4)
          have g0 := fr (p * 5)
          have g1 := fr (p * 5 + 1)
          have g2 := fr (p * 5 + 2)
          have g3 := fr (p * 5 + 3)
          have g4 := fr (p * 5 + 4)
          rw [hwn] at E1 E2
          simp only [s5o] at hwn
          have HWN := Lib.hid hwn
          have E3 : Hid (RowE wn.drew g T _) := Lib.hid E1
          have E4 := Lib.hid (E2.trans (But.drew _ _))
          have HP := Lib.hid (show p + 1 = J ∧ a + t' = p ∧ (p < N ∧ S ≤ t' ∧ t' < M) from ⟨by omega, by omega, by omega, by omega, by omega⟩)
          clear E1 E2 hwn fr i1 i2 i3 hJ hp hJ0 hns HR
          go_wp2_with fail
          go_region
          rw [HWN.out]
          clear x0 x1 x2 x3 x4 y0 y1 y2 y3 y4 f0 f1 f2 f3 f4 g0 g1 g2 g3 g4 HWN hJp hpJ v1
          go_wp2_with fail
          go_roundw
          case rel => exact ⟨t', by have := HP.out; rw [show a + t' = p by omega]; congr 1; omega, by omega, by omega, E3, E4⟩
          case measure => simp only [intOf]; have := HP.out; omega
    case pos =>
      have d3 : decide ((ns : Int) < (nr : Int)) = true := decide_eq_true (by omega)
      have d3' : decide (ns < nr) = true := decide_eq_true hlt
      obtain ⟨cc, hcc⟩ : ∃ cc, (ns + nr) / 2 = cc := ⟨_, rfl⟩
      have hk1 : ns ≤ cc ∧ cc < nr := by omega
      have k1 : cc - a < P.length := by omega
      have u1 : IntKind.i64.wrap ((ns : Int) + (nr : Int)) = ((ns + nr : Nat) : Int) := by rw [IntWalk.i64_in _ (by omega)]; omega
      have uu : IntKind.u64.wrap ((ns : Int) + (nr : Int)) = ((ns + nr : Nat) : Int) := by rw [IntWalk.u64_in _ (by omega)]; omega
      have u2 : IntKind.i64.wrap (IntKind.u64.wrap ((ns : Int) + (nr : Int)) / 2) = (cc : Int) := by rw [uu, IntWalk.i64_in _ (by omega)]; omega
      have u3 : wrap64 (IntKind.u64.wrap ((ns : Int) + (nr : Int)) / 2) = (cc : Int) := (IntWalk.i64_left _).symm.trans u2
      have HX2 := Lib.hid u2
      have HX3 := Lib.hid u3
      clear uu u2 u3
      have hcN : cc < N := by omega
      have hoN : m < N := by omega
      have ho0 : (0 : Int) ≤ (m : Int) := by omega
      have hoI : (m : Int) < (N : Int) := by omega
      have hc0 : (0 : Int) ≤ (cc : Int) := by omega
      have hcI : (cc : Int) < (N : Int) := by omega
      obtain ⟨x, hz⟩ : ∃ z, P[cc - a]? = some z := ⟨_, List.getElem?_eq_getElem k1⟩
      have hfz := HSl.out x (by have := List.mem_of_getElem? hz; simp [this])
      have hfo := HSl.out y (by simp)
      have iZ : (pre ++ (P ++ ([y] ++ post)))[cc]? = some x := by
        rw [List.getElem?_append_right (by omega), hLL.1, List.getElem?_append_left (by omega)]; exact hz
      have iO : (pre ++ (P ++ ([y] ++ post)))[m]? = some y := by
        rw [List.getElem?_append_right (by omega), hLL.1, List.getElem?_append_right (by omega), show m - a - P.length = 0 by omega]; rfl
      have CTT := Lib.hid (fun (he : elt y x = true) => (show a ≤ ns ∧ CutR P y (ns - a) (cc - a) from ⟨by omega, by have := hCC.right HU.out (c := cc - a) ⟨by omega, by omega⟩ hz he; exact this⟩))
      have CTF := Lib.hid (fun (he : elt y x = false) => (show a ≤ cc + 1 ∧ CutR P y (cc + 1 - a) (nr - a) from ⟨by omega, by have := hCC.left HU.out (c := cc - a) ⟨by omega, by omega⟩ hz he; rw [show cc + 1 - a = cc - a + 1 by omega]; exact this⟩))
      have hCCb : a ≤ cc := by omega
      obtain ⟨xa, xb, xk, xn, xv⟩ := x
      obtain ⟨ya, yb, yk, yn, yv⟩ := y
      obtain ⟨xp, xm, xc, hxv⟩ := hfz
      obtain ⟨yp, ym, yc, hyv⟩ := hfo
      simp only at hxv hyv
      subst hxv hyv
      have MK := Lib.hid (fun w' (hb : Below wr.heap.size wr w') => (show w'.cell? ⟨g, m * 5, none⟩ = some (.int .i64 ya) ∧ w'.cell? ⟨g, m * 5 + 1, none⟩ = some (.int .i64 yb) ∧ w'.cell? ⟨g, m * 5 + 2, none⟩ = some (.int .i64 yk) ∧ w'.cell? ⟨g, m * 5 + 3, none⟩ = some (.int .i64 yn) ∧ w'.cell? ⟨g, m * 5 + 4, none⟩ = some (.slice yp ym yc) ∧ w'.cell? ⟨g, cc * 5, none⟩ = some (.int .i64 xa) ∧ w'.cell? ⟨g, cc * 5 + 1, none⟩ = some (.int .i64 xb) ∧ w'.cell? ⟨g, cc * 5 + 2, none⟩ = some (.int .i64 xk) ∧ w'.cell? ⟨g, cc * 5 + 3, none⟩ = some (.int .i64 xn) ∧ w'.cell? ⟨g, cc * 5 + 4, none⟩ = some (.slice xp xm xc) ∧ Below wr.heap.size wr w' from by
        obtain ⟨x0, x1, x2, x3, x4⟩ := (HH.out.below (HB.out.trans (hb.mono HB.out.size))).cells iZ
        obtain ⟨y0, y1, y2, y3, y4⟩ := (HH.out.below (HB.out.trans (hb.mono HB.out.size))).cells iO
        exact ⟨y0, y1, y2, y3, y4, x0, x1, x2, x3, x4, hb⟩))
      have KP := Lib.hid (fun (wa w' : World) (hS : wa.cell? ⟨g, m * 5, none⟩ = some (.int .i64 ya) ∧ wa.cell? ⟨g, m * 5 + 1, none⟩ = some (.int .i64 yb) ∧ wa.cell? ⟨g, m * 5 + 2, none⟩ = some (.int .i64 yk) ∧ wa.cell? ⟨g, m * 5 + 3, none⟩ = some (.int .i64 yn) ∧ wa.cell? ⟨g, m * 5 + 4, none⟩ = some (.slice yp ym yc) ∧ wa.cell? ⟨g, cc * 5, none⟩ = some (.int .i64 xa) ∧ wa.cell? ⟨g, cc * 5 + 1, none⟩ = some (.int .i64 xb) ∧ wa.cell? ⟨g, cc * 5 + 2, none⟩ = some (.int .i64 xk) ∧ wa.cell? ⟨g, cc * 5 + 3, none⟩ = some (.int .i64 xn) ∧ wa.cell? ⟨g, cc * 5 + 4, none⟩ = some (.slice xp xm xc) ∧ Below wr.heap.size wr wa) (hb : Below wa.heap.size wa w') => MK.out w' (hS.2.2.2.2.2.2.2.2.2.2.trans (hb.mono hS.2.2.2.2.2.2.2.2.2.2.size)))
      have CL := Lib.hid (fun w' (hb : Below wr.heap.size wr w') => (show Calls Tryz.prog 62 #[.agg #[.int .i64 ya, .int .i64 yb, .int .i64 yk, .int .i64 yn, .slice yp ym yc], .agg #[.int .i64 xa, .int .i64 xb, .int .i64 xk, .int .i64 xn, .slice xp xm xc], .pointer (some ⟨B, 0, none⟩)] w' fun e w'' => e = .returned (.int .i64 (cmpK ya yb xa xb)) ∧ Below w'.heap.size w' w'' from e_clo B ⟨ya, yb, yk, yn, .slice yp ym yc⟩ ⟨xa, xb, xk, xn, .slice xp xm xc⟩ w' (HS.out.below (HB.out.trans (hb.mono HB.out.size)))))
      have hk := cmpK_lt ya yb xa xb
      generalize cmpK ya yb xa xb = z at *
      cases he : Srt.klt (ya, yb) (xa, xb)
      case false =>
        rw [he] at hk
        have hC2 := Lib.hid (CTF.out (by unfold elt; exact he))
        clear hCC hLL c1 c2 hlo hk1 k1 hz iZ iO CTT CTF he hCCb
        have HCC := Lib.hid hcc
        clear hcc
        have u2 := HX2.out
        have u3 := HX3.out
        go_wp2_with fail
        clear u1 u2 u3 HX2 HX3
        go_region_held3 (fun w' => w'.cell? ⟨g, m * 5, none⟩ = some (.int .i64 ya) ∧ w'.cell? ⟨g, m * 5 + 1, none⟩ = some (.int .i64 yb) ∧ w'.cell? ⟨g, m * 5 + 2, none⟩ = some (.int .i64 yk) ∧ w'.cell? ⟨g, m * 5 + 3, none⟩ = some (.int .i64 yn) ∧ w'.cell? ⟨g, m * 5 + 4, none⟩ = some (.slice yp ym yc) ∧ w'.cell? ⟨g, cc * 5, none⟩ = some (.int .i64 xa) ∧ w'.cell? ⟨g, cc * 5 + 1, none⟩ = some (.int .i64 xb) ∧ w'.cell? ⟨g, cc * 5 + 2, none⟩ = some (.int .i64 xk) ∧ w'.cell? ⟨g, cc * 5 + 3, none⟩ = some (.int .i64 xn) ∧ w'.cell? ⟨g, cc * 5 + 4, none⟩ = some (.slice xp xm xc) ∧ Below wr.heap.size wr w') (first | exact MK.out _ ((Below.refl _ _).drew) | assumption | (refine KP.out _ _ ?_ hb; first | assumption | exact MK.out _ ((Below.refl _ _).drew))) (first | (go_at_call 62; (with_reducible refine (CL.out _ (by go_split_ands; assumption)).mono ?_); rintro e w' ⟨rfl, hb⟩))
        rename_i hEnd
        obtain ⟨-, -, -, -, -, -, -, -, -, -, hBB⟩ := hEnd
        have HB2 := Lib.hid (HB.out.trans (hBB.mono HB.out.size))
        clear hBB MK KP CL
        go_wp2_with fail
        go_roundw
        case rel => exact ⟨cc + 1, nr, by go_num, rfl, hC2, HB2⟩
        case measure => simp only [intOf]; have := HCC.out; omega
      case true =>
        rw [he] at hk
        have hC2 := Lib.hid (CTT.out (by unfold elt; exact he))
        clear hCC hLL c1 c2 hlo hk1 k1 hz iZ iO CTT CTF he hCCb
        have HCC := Lib.hid hcc
        clear hcc
        have u2 := HX2.out
        have u3 := HX3.out
        go_wp2_with fail
        clear u1 u2 u3 HX2 HX3
        go_region_held3 (fun w' => w'.cell? ⟨g, m * 5, none⟩ = some (.int .i64 ya) ∧ w'.cell? ⟨g, m * 5 + 1, none⟩ = some (.int .i64 yb) ∧ w'.cell? ⟨g, m * 5 + 2, none⟩ = some (.int .i64 yk) ∧ w'.cell? ⟨g, m * 5 + 3, none⟩ = some (.int .i64 yn) ∧ w'.cell? ⟨g, m * 5 + 4, none⟩ = some (.slice yp ym yc) ∧ w'.cell? ⟨g, cc * 5, none⟩ = some (.int .i64 xa) ∧ w'.cell? ⟨g, cc * 5 + 1, none⟩ = some (.int .i64 xb) ∧ w'.cell? ⟨g, cc * 5 + 2, none⟩ = some (.int .i64 xk) ∧ w'.cell? ⟨g, cc * 5 + 3, none⟩ = some (.int .i64 xn) ∧ w'.cell? ⟨g, cc * 5 + 4, none⟩ = some (.slice xp xm xc) ∧ Below wr.heap.size wr w') (first | exact MK.out _ ((Below.refl _ _).drew) | assumption | (refine KP.out _ _ ?_ hb; first | assumption | exact MK.out _ ((Below.refl _ _).drew))) (first | (go_at_call 62; (with_reducible refine (CL.out _ (by go_split_ands; assumption)).mono ?_); rintro e w' ⟨rfl, hb⟩))
        rename_i hEnd
        obtain ⟨-, -, -, -, -, -, -, -, -, -, hBB⟩ := hEnd
        have HB2 := Lib.hid (HB.out.trans (hBB.mono HB.out.size))
        clear hBB MK KP CL
        go_wp2_with fail
        go_roundw
        case rel => exact ⟨ns, cc, rfl, rfl, hC2, HB2⟩
        case measure => simp only [intOf]; have := HCC.out; omega
end Go.Proofs.YtafmiilkdhdngaaGreatDoor
/- symMerge makes two sorted neighbours one, in place and stable. -/
namespace Go.Proofs.YtafmiilkdhdngaaGreatDoor
open Go.ChangeShapes Go.WideShapes Go.ChangeAt Go.RowKit
set_option linter.unusedVariables false
set_option linter.unusedSimpArgs false
theorem one_of {l : List E5} (h : l.length = 1) : ∃ x, l = [x] := by
  match l, h with
  | [x], _ => exact ⟨x, rfl⟩
theorem sym_merge (B : Nat) (K : Nat) : SymOk K B := by
  induction K using Nat.strongRecOn with
  | _ K ih =>
    intro a m b g N c T pre P Q post W hK hS hne ha hm hb hP hQ hN hsm hc hform h hu1 hu2
    rcases Nat.lt_or_ge 1 P.length with h2 | h2
    · rcases Nat.lt_or_ge 1 Q.length with h3 | h3
      · exact sym_big K B ih a m b g N c T pre P Q post W hK hS hne ha hm hb h2 h3 hN hsm hc hform h hu1 hu2
      · obtain ⟨y, rfl⟩ := one_of (l := Q) (by omega)
        simp only [List.length_singleton] at *
        exact sym_right a m b g N c B T pre P post y W hS hne ha (by omega) (by omega) (by omega) (by omega) hsm hc hform h hu1
    · obtain ⟨x, rfl⟩ := one_of (l := P) (by omega)
      simp only [List.length_singleton] at *
      exact sym_left a m b g N c B T pre Q post x W hS hne ha (by omega) (by omega) hQ (by omega) hsm hc hform h hu2
end Go.Proofs.YtafmiilkdhdngaaGreatDoor
/- A row sorted block by block, in numbers. -/
namespace Go.Proofs.YtafmiilkdhdngaaGreatDoor
open Go.ChangeShapes Go.WideShapes Go.ChangeAt Go.RowKit
set_option linter.unusedVariables false
set_option linter.unusedSimpArgs false
namespace Srt
variable {α : Type} {lt : α → α → Bool}
/-- Sorted s by s. -/
def bl (lt : α → α → Bool) (s : Nat) (l : List α) : List α := if h : l.length ≤ s ∨ s = 0 then isort lt l else isort lt (l.take s) ++ bl lt s (l.drop s)
termination_by l.length
decreasing_by rw [List.length_drop]; omega
theorem bl_small {s : Nat} {l : List α} (h : l.length ≤ s) : bl lt s l = isort lt l := by rw [bl, dif_pos (.inl h)]
theorem bl_nil (s : Nat) : bl lt s ([] : List α) = [] := by rw [bl_small (by simp)]; rfl
theorem bl_step {s : Nat} {R Z : List α} (hs : 1 ≤ s) (hR : R.length = s) : bl lt s (R ++ Z) = isort lt R ++ bl lt s Z := by
  by_cases hz : Z = []
  · subst hz
    rw [bl_nil, List.append_nil, List.append_nil, bl_small (by omega)]
  · have : Z.length ≠ 0 := fun e => hz (List.eq_nil_of_length_eq_zero e)
    rw [bl, dif_neg (by rw [List.length_append]; omega), List.take_left' hR, List.drop_left' hR]
/-- D is done as X: what is behind it does not matter. -/
def Dn (lt : α → α → Bool) (s : Nat) (D X : List α) : Prop := ∀ Z, bl lt s (D ++ Z) = X ++ bl lt s Z
theorem Dn.nil (s : Nat) : Dn lt s ([] : List α) [] := fun Z => by simp
theorem Dn.step {s : Nat} {D X R : List α} (h : Dn lt s D X) (hs : 1 ≤ s) (hR : R.length = s) : Dn lt s (D ++ R) (X ++ isort lt R) := fun Z => by
  rw [List.append_assoc, h, bl_step hs hR, List.append_assoc]
theorem bl_two {s : Nat} {R Z : List α} (hs : 1 ≤ s) (hR : R.length = 2 * s) : bl lt s (R ++ Z) = isort lt (R.take s) ++ (isort lt (R.drop s) ++ bl lt s Z) := by
  have e : R ++ Z = R.take s ++ (R.drop s ++ Z) := by rw [← List.append_assoc, List.take_append_drop]
  rw [e, bl_step hs (by rw [List.length_take]; omega), bl_step hs (by rw [List.length_drop]; omega)]
theorem bl_last {s : Nat} {R : List α} (hs : 1 ≤ s) (h1 : s < R.length) (h2 : R.length ≤ 2 * s) : bl lt s R = isort lt (R.take s) ++ isort lt (R.drop s) := by
  have e : R = R.take s ++ R.drop s := by rw [List.take_append_drop]
  have := bl_step (lt := lt) (R := R.take s) (Z := R.drop s) hs (by rw [List.length_take]; omega)
  rw [← e] at this
  rw [this, bl_small (l := R.drop s) (by rw [List.length_drop]; omega)]
theorem two_mrg (O : SOrd lt) (R : List α) (s : Nat) : mrg lt (isort lt (R.take s)) (isort lt (R.drop s)) = isort lt R := by
  rw [← isort_app O, List.take_append_drop]
theorem bl_len (s : Nat) (l : List α) : (bl lt s l).length = l.length := by
  rw [bl]
  split
  · exact isort_len l
  · rw [List.length_append, isort_len, bl_len s (l.drop s), List.length_take, List.length_drop]; omega
termination_by l.length
decreasing_by rw [List.length_drop]; omega
theorem mem_foldi (l : List α) : ∀ {o : List α} {z : α}, z ∈ l.foldl (fun o x => ins lt x o) o → z ∈ o ∨ z ∈ l := by
  induction l with
  | nil => intro o z h; exact .inl h
  | cons x l ih =>
    intro o z h
    rcases ih h with h | h
    · rcases mem_ins h with rfl | h
      · exact .inr (List.mem_cons_self ..)
      · exact .inl h
    · exact .inr (List.mem_cons_of_mem _ h)
theorem mem_isort {l : List α} {z : α} (h : z ∈ isort lt l) : z ∈ l := (mem_foldi l h).resolve_left (by simp)
theorem mem_bl (s : Nat) (l : List α) {z : α} (h : z ∈ bl lt s l) : z ∈ l := by
  rw [bl] at h
  split at h
  · exact mem_isort h
  · rcases List.mem_append.1 h with h | h
    · exact List.mem_of_mem_take (mem_isort h)
    · exact List.mem_of_mem_drop (mem_bl s (l.drop s) h)
termination_by l.length
decreasing_by rw [List.length_drop]; omega
end Srt
end Go.Proofs.YtafmiilkdhdngaaGreatDoor
