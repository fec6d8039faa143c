/- Put together by program (merge2.py): Syr Sym2 Srk Sbl Ownt Lay Lv. -/
import Derived.Deep.DeepCutAuto
import Derived.Deep.CutBlock
import Derived.Test.YtmbcfijhlpeddaaD11
import Derived.Test.YtmbcfijhlpeddaaP1
import Derived.Test.YtmbcfijhlpeddaaP3
/- symMerge where the right part is a single element. -/
namespace Go.Proofs.Ytmbcfijhlpeddaa
open Go.ChangeShapes Go.WideShapes Go.ChangeAt Go.RowKit
set_option linter.unusedVariables false
set_option linter.unusedSimpArgs false
attribute [local go_sem ↓] Go.wp_at_zero Go.wp_at_succ
set_option maxRecDepth 100000 in
set_option maxHeartbeats 8000000 in
theorem sym_right (a m b g N c B : Nat) (T : TypeId) (pre P post : List E5) (y : E5) (W : World) (hS : Srtr W B) (hne : B ≠ g) (ha : pre.length = a) (hm : a + P.length = m) (hb : m + 1 = b) (hP : 2 ≤ P.length) (hN : N = b + post.length) (hsm : N ≤ 1000000) (hc : N ≤ c ∧ c ≤ maxLen)
    (hform : Slv (pre ++ (P ++ ([y] ++ post)))) (h : RowE W g T (pre ++ (P ++ ([y] ++ post)))) (hu : Srt.Up elt P) :
    Calls Try.prog 60 #[.slice (some ⟨g, 0, none⟩) N c, .int .i64 a, .int .i64 m, .int .i64 b, .func (.func 47) #[] #[.pointer (some ⟨B, 0, none⟩)]] W fun e w' => e = .returned (.tuple #[]) ∧ But W w' g ∧ RowE w' g T (pre ++ (Srt.mrg elt P [y] ++ post)) := by
  have w1 : IntKind.i64.wrap ((m : Int) - (a : Int)) = (P.length : Int) := by rw [IntWalk.i64_in _ (by omega)]; omega
  have w2 : IntKind.i64.wrap ((b : Int) - (m : Int)) = 1 := by rw [IntWalk.i64_in _ (by omega)]; omega
  have d1 : ((P.length : Int) == 1) = false := by rw [beq_eq_false_iff_ne]; omega
  have d1' : (P.length == 1) = false := by rw [beq_eq_false_iff_ne]; omega
  obtain ⟨xn0, hx0⟩ : ∃ z, y = z := ⟨_, rfl⟩
  have HU := Lib.hid hu
  have HS := Lib.hid hS
  have HH := Lib.hid h
  have HSl := Lib.hid hform
  have HL := Lib.hid (show pre.length = a ∧ (a + P.length = m ∧ m + 1 = b) ∧ N = b + post.length from ⟨ha, ⟨hm, hb⟩, hN⟩)
  have hbN : b ≤ N := by omega
  have HC0 : Hid (a ≤ a ∧ CutR P y (a - a) (m - a)) := Lib.hid ⟨Nat.le_refl _, ⟨by omega, by omega, fun i y h1 h2 => by omega, fun i y h1 h2 => by have := (List.getElem?_eq_some_iff.1 h2).1; omega⟩⟩
  clear hS h hform hu ha hN hx0
  go_enter Try.func60, Try.ntmps60
  go_wp2_with fail
  clear w1 w2 d1 d1'
  go_loopw [14, 15, 16] (fun s r _ wr => ∃ ns nr : Nat, s = .int .i64 ns ∧ r = .int .i64 nr ∧ Hid (a ≤ ns ∧ CutR P y (ns - a) (nr - a)) ∧ Hid (Below W.heap.size W wr)) (fun s r _ _ => (intOf r).toNat - (intOf s).toNat)
  case atStart => exact ⟨a, m, rfl, rfl, HC0, Lib.hid (Below.refl _ _)⟩
  case round =>
    obtain ⟨ns, nr, rfl, rfl, HC, HB⟩ := hrel
    have hCC := HC.out.2
    have hlo := HC.out.1
    have hLL := HL.out
    have c1 := hCC.b
    have c2 := hCC.c
    by_cases hlt : ns < nr
    case neg =>
      have d3 : decide ((ns : Int) < (nr : Int)) = false := decide_eq_false (by omega)
      have d3' : decide (ns < nr) = false := decide_eq_false hlt
      obtain ⟨S, hSs⟩ : ∃ S, ns - a = S := ⟨_, rfl⟩
      have hDN : CutR P y S S := by have e : nr - a = ns - a ∨ True := .inr trivial; have e2 := hCC; rw [hSs] at e2; by_cases q : nr = ns; (rw [q, hSs] at e2; exact e2); exact ⟨Nat.le_refl _, by have := e2.b; have := e2.c; omega, e2.l, fun i y h1 h2 => e2.g i y (by omega) h2⟩
      have MS := hDN.done
      have hSl := hDN.c
      have hmx : ∀ e : E5, e ∈ P → ∃ a n c, e.v = .slice a n c := fun e he => HSl.out e (by simp [he])
      obtain ⟨op, om, oc, hov⟩ := HSl.out y (by simp)
      have HMX := Lib.hid hmx
      have HR0 : Hid (RowE wr g T (wayl pre P post y P.length)) := Lib.hid (by have := HH.out.below HB.out; unfold wayl; simpa using this)
      have HB0 := Lib.hid (But.of_below g HB.out)
      have HFIN := Lib.hid (show pre ++ (Srt.mrg elt P [y] ++ post) = wayl pre P post y S by rw [MS]; unfold wayl; simp)
      have WAY := Lib.hid (fun t (ht : t < P.length) => way_at (pre := pre) (Q := P) (post := post) (x := y) (t := t) (p := a + t) ht (by rw [hLL.1]))
      obtain ⟨oa, ob, ok, on, ov⟩ := y
      simp only at hov
      subst hov
      clear hCC hmx MS hDN HC0 HC HU HS HH HSl
      obtain ⟨M, hM⟩ : ∃ M, P.length = M := ⟨_, rfl⟩
      rw [hM] at HR0 hLL hSl
      have hns : a + S = ns := by omega
      have hmN : m < N := by omega
      have HM := Lib.hid hM
      have hLL2 := hLL.2.1.1
      clear hLL hM
      go_wp2_with fail
      go_loopw [17] (fun k wq => ∃ t : Nat, k = .int .i64 ((a + t : Nat) : Int) ∧ S ≤ t ∧ t ≤ M ∧ Hid (RowE wq g T (wayl pre P post ⟨oa, ob, ok, on, .slice op om oc⟩ t)) ∧ Hid (But W wq g)) (fun k _ => (intOf k).toNat)
      case atStart => exact ⟨M, by rw [hLL2], hSl, Nat.le_refl _, HR0, HB0⟩
      case round =>
        obtain ⟨t, rfl, ht1, ht, HR, HBB⟩ := hrel
        obtain ⟨J, hJ0⟩ : ∃ J, a + t = J := ⟨_, rfl⟩
        rw [hJ0]
        by_cases hts : S < t
        case neg =>
          obtain rfl : t = S := by omega
          have d4 : decide ((J : Int) > (ns : Int)) = false := decide_eq_false (by omega)
          have d4' : decide (ns < J) = false := decide_eq_false (by omega)
          clear hns hJ0
          go_wp2_with fail
          refine bodyPost_ret (results_none rfl _ _ _) rfl ?_
          exact ⟨rfl, HBB.out, by rw [HFIN.out]; exact HR.out⟩
        case pos =>
          have d4 : decide ((J : Int) > (ns : Int)) = true := decide_eq_true (by omega)
          have d4' : decide (ns < J) = true := decide_eq_true (by omega)
          obtain ⟨t', rfl⟩ : ∃ t', t = t' + 1 := ⟨t - 1, by omega⟩
          obtain ⟨z, H⟩ := WAY.out t' (by have := HM.out; omega)
          obtain ⟨p, hp⟩ : ∃ p, a + t' = p := ⟨_, rfl⟩
          rw [hp] at H
          obtain ⟨za, zb, zk, zn, zv⟩ := z
          obtain ⟨zp, zm, zc, hzv⟩ := HMX.out _ H.my
          simp only at hzv
          subst hzv
          have hJ : p + 1 = J := by omega
          obtain ⟨-, -, -, i1, i2, i3, -⟩ := H
          rw [hJ] at i1 i3
          have v1 : IntKind.i64.wrap ((J : Int) - 1) = (p : Int) := by rw [IntWalk.i64_in _ (by omega)]; omega
          obtain ⟨x0, x1, x2, x3, x4⟩ := HR.out.cells i1
          obtain ⟨y0, y1, y2, y3, y4⟩ := HR.out.cells i2
          have E1 := (HR.out.set J ⟨za, zb, zk, zn, .slice zp zm zc⟩).set p ⟨oa, ob, ok, on, .slice op om oc⟩
          rw [i3] at E1
          have E2 := (HBB.out.trans (s5o_but wr g (J * 5) ⟨za, zb, zk, zn, .slice zp zm zc⟩)).trans (s5o_but _ g (p * 5) ⟨oa, ob, ok, on, .slice op om oc⟩)
          obtain ⟨wn, hwn⟩ : ∃ wn, s5o (s5o wr g (J * 5) ⟨za, zb, zk, zn, .slice zp zm zc⟩) g (p * 5) ⟨oa, ob, ok, on, .slice op om oc⟩ = wn := ⟨_, rfl⟩
          have hpN : p < N := by omega
          have hJN : J < N := by omega
          have hp0 : (0 : Int) ≤ (p : Int) := by omega
          have hpI : (p : Int) < (N : Int) := by omega
          have hJ0' : (0 : Int) ≤ (J : Int) := by omega
          have hJI : (J : Int) < (N : Int) := by omega
          have hJp : ¬ J = p := by omega
          have hpJ : ¬ p = J := by omega
          have fr := HR.out.free
          have f0 := fr (J * 5)
          have f1 := fr (J * 5 + 1)
          have f2 := fr (J * 5 + 2)
          have f3 := fr (J * 5 + 3)
          have f4 := fr (J * 5 + 4)
          have g0 := fr (p * 5)
          have g1 := fr (p * 5 + 1)
          have g2 := fr (p * 5 + 2)
          have g3 := fr (p * 5 + 3)
          have g4 := fr (p * 5 + 4)
          rw [hwn] at E1 E2
          simp only [s5o] at hwn
          have HWN := Lib.hid hwn
          have E3 : Hid (RowE wn.drew g T _) := Lib.hid E1
          have E4 := Lib.hid (E2.trans (But.drew _ _))
          have HP := Lib.hid (show p + 1 = J ∧ a + t' = p ∧ (p < N ∧ S ≤ t' ∧ t' < M) from ⟨by omega, by omega, by omega, by omega, by omega⟩)
          clear E1 E2 hwn fr i1 i2 i3 hJ hp hJ0 hns HR
          go_wp2_with fail
          go_region
          rw [HWN.out]
          clear x0 x1 x2 x3 x4 y0 y1 y2 y3 y4 f0 f1 f2 f3 f4 g0 g1 g2 g3 g4 HWN hJp hpJ v1
          go_wp2_with fail
          go_roundw
          case rel => exact ⟨t', by have := HP.out; rw [show a + t' = p by omega]; congr 1; omega, by omega, by omega, E3, E4⟩
          case measure => simp only [intOf]; have := HP.out; omega
    case pos =>
      have d3 : decide ((ns : Int) < (nr : Int)) = true := decide_eq_true (by omega)
      have d3' : decide (ns < nr) = true := decide_eq_true hlt
      obtain ⟨cc, hcc⟩ : ∃ cc, (ns + nr) / 2 = cc := ⟨_, rfl⟩
      have hk1 : ns ≤ cc ∧ cc < nr := by omega
      have k1 : cc - a < P.length := by omega
      have u1 : IntKind.i64.wrap ((ns : Int) + (nr : Int)) = ((ns + nr : Nat) : Int) := by rw [IntWalk.i64_in _ (by omega)]; omega
      have uu : IntKind.u64.wrap ((ns : Int) + (nr : Int)) = ((ns + nr : Nat) : Int) := by rw [IntWalk.u64_in _ (by omega)]; omega
      have u2 : IntKind.i64.wrap (IntKind.u64.wrap ((ns : Int) + (nr : Int)) / 2) = (cc : Int) := by rw [uu, IntWalk.i64_in _ (by omega)]; omega
      have u3 : wrap64 (IntKind.u64.wrap ((ns : Int) + (nr : Int)) / 2) = (cc : Int) := (IntWalk.i64_left _).symm.trans u2
      have HX2 := Lib.hid u2
      have HX3 := Lib.hid u3
      clear uu u2 u3
      have hcN : cc < N := by omega
      have hoN : m < N := by omega
      have ho0 : (0 : Int) ≤ (m : Int) := by omega
      have hoI : (m : Int) < (N : Int) := by omega
      have hc0 : (0 : Int) ≤ (cc : Int) := by omega
      have hcI : (cc : Int) < (N : Int) := by omega
      obtain ⟨x, hz⟩ : ∃ z, P[cc - a]? = some z := ⟨_, List.getElem?_eq_getElem k1⟩
      have hfz := HSl.out x (by have := List.mem_of_getElem? hz; simp [this])
      have hfo := HSl.out y (by simp)
      have iZ : (pre ++ (P ++ ([y] ++ post)))[cc]? = some x := by
        rw [List.getElem?_append_right (by omega), hLL.1, List.getElem?_append_left (by omega)]; exact hz
      have iO : (pre ++ (P ++ ([y] ++ post)))[m]? = some y := by
        rw [List.getElem?_append_right (by omega), hLL.1, List.getElem?_append_right (by omega), show m - a - P.length = 0 by omega]; rfl
      have CTT := Lib.hid (fun (he : elt y x = true) => (show a ≤ ns ∧ CutR P y (ns - a) (cc - a) from ⟨by omega, by have := hCC.right HU.out (c := cc - a) ⟨by omega, by omega⟩ hz he; exact this⟩))
      have CTF := Lib.hid (fun (he : elt y x = false) => (show a ≤ cc + 1 ∧ CutR P y (cc + 1 - a) (nr - a) from ⟨by omega, by have := hCC.left HU.out (c := cc - a) ⟨by omega, by omega⟩ hz he; rw [show cc + 1 - a = cc - a + 1 by omega]; exact this⟩))
      have hCCb : a ≤ cc := by omega
      obtain ⟨xa, xb, xk, xn, xv⟩ := x
      obtain ⟨ya, yb, yk, yn, yv⟩ := y
      obtain ⟨xp, xm, xc, hxv⟩ := hfz
      obtain ⟨yp, ym, yc, hyv⟩ := hfo
      simp only at hxv hyv
      subst hxv hyv
      have MK := Lib.hid (fun w' (hb : Below wr.heap.size wr w') => (show w'.cell? ⟨g, m * 5, none⟩ = some (.int .i64 ya) ∧ w'.cell? ⟨g, m * 5 + 1, none⟩ = some (.int .i64 yb) ∧ w'.cell? ⟨g, m * 5 + 2, none⟩ = some (.int .i64 yk) ∧ w'.cell? ⟨g, m * 5 + 3, none⟩ = some (.int .i64 yn) ∧ w'.cell? ⟨g, m * 5 + 4, none⟩ = some (.slice yp ym yc) ∧ w'.cell? ⟨g, cc * 5, none⟩ = some (.int .i64 xa) ∧ w'.cell? ⟨g, cc * 5 + 1, none⟩ = some (.int .i64 xb) ∧ w'.cell? ⟨g, cc * 5 + 2, none⟩ = some (.int .i64 xk) ∧ w'.cell? ⟨g, cc * 5 + 3, none⟩ = some (.int .i64 xn) ∧ w'.cell? ⟨g, cc * 5 + 4, none⟩ = some (.slice xp xm xc) ∧ Below wr.heap.size wr w' from by
        obtain ⟨x0, x1, x2, x3, x4⟩ := (HH.out.below (HB.out.trans (hb.mono HB.out.size))).cells iZ
        obtain ⟨y0, y1, y2, y3, y4⟩ := (HH.out.below (HB.out.trans (hb.mono HB.out.size))).cells iO
        exact ⟨y0, y1, y2, y3, y4, x0, x1, x2, x3, x4, hb⟩))
      have KP := Lib.hid (fun (wa w' : World) (hS : wa.cell? ⟨g, m * 5, none⟩ = some (.int .i64 ya) ∧ wa.cell? ⟨g, m * 5 + 1, none⟩ = some (.int .i64 yb) ∧ wa.cell? ⟨g, m * 5 + 2, none⟩ = some (.int .i64 yk) ∧ wa.cell? ⟨g, m * 5 + 3, none⟩ = some (.int .i64 yn) ∧ wa.cell? ⟨g, m * 5 + 4, none⟩ = some (.slice yp ym yc) ∧ wa.cell? ⟨g, cc * 5, none⟩ = some (.int .i64 xa) ∧ wa.cell? ⟨g, cc * 5 + 1, none⟩ = some (.int .i64 xb) ∧ wa.cell? ⟨g, cc * 5 + 2, none⟩ = some (.int .i64 xk) ∧ wa.cell? ⟨g, cc * 5 + 3, none⟩ = some (.int .i64 xn) ∧ wa.cell? ⟨g, cc * 5 + 4, none⟩ = some (.slice xp xm xc) ∧ Below wr.heap.size wr wa) (hb : Below wa.heap.size wa w') => MK.out w' (hS.2.2.2.2.2.2.2.2.2.2.trans (hb.mono hS.2.2.2.2.2.2.2.2.2.2.size)))
      have CL := Lib.hid (fun w' (hb : Below wr.heap.size wr w') => (show Calls Try.prog 47 #[.agg #[.int .i64 ya, .int .i64 yb, .int .i64 yk, .int .i64 yn, .slice yp ym yc], .agg #[.int .i64 xa, .int .i64 xb, .int .i64 xk, .int .i64 xn, .slice xp xm xc], .pointer (some ⟨B, 0, none⟩)] w' fun e w'' => e = .returned (.int .i64 (cmpK ya yb xa xb)) ∧ Below w'.heap.size w' w'' from e_clo B ⟨ya, yb, yk, yn, .slice yp ym yc⟩ ⟨xa, xb, xk, xn, .slice xp xm xc⟩ w' (HS.out.below (HB.out.trans (hb.mono HB.out.size)))))
      have hk := cmpK_lt ya yb xa xb
      generalize cmpK ya yb xa xb = z at *
      cases he : Srt.klt (ya, yb) (xa, xb)
      case false =>
        rw [he] at hk
        have hC2 := Lib.hid (CTF.out (by unfold elt; exact he))
        clear hCC hLL c1 c2 hlo hk1 k1 hz iZ iO CTT CTF he hCCb
        have HCC := Lib.hid hcc
        clear hcc
        have u2 := HX2.out
        have u3 := HX3.out
        go_wp2_with fail
        clear u1 u2 u3 HX2 HX3
        go_region_held3 (fun w' => w'.cell? ⟨g, m * 5, none⟩ = some (.int .i64 ya) ∧ w'.cell? ⟨g, m * 5 + 1, none⟩ = some (.int .i64 yb) ∧ w'.cell? ⟨g, m * 5 + 2, none⟩ = some (.int .i64 yk) ∧ w'.cell? ⟨g, m * 5 + 3, none⟩ = some (.int .i64 yn) ∧ w'.cell? ⟨g, m * 5 + 4, none⟩ = some (.slice yp ym yc) ∧ w'.cell? ⟨g, cc * 5, none⟩ = some (.int .i64 xa) ∧ w'.cell? ⟨g, cc * 5 + 1, none⟩ = some (.int .i64 xb) ∧ w'.cell? ⟨g, cc * 5 + 2, none⟩ = some (.int .i64 xk) ∧ w'.cell? ⟨g, cc * 5 + 3, none⟩ = some (.int .i64 xn) ∧ w'.cell? ⟨g, cc * 5 + 4, none⟩ = some (.slice xp xm xc) ∧ Below wr.heap.size wr w') (first | exact MK.out _ ((Below.refl _ _).drew) | assumption | (refine KP.out _ _ ?_ hb; first | assumption | exact MK.out _ ((Below.refl _ _).drew))) (first | (go_at_call 47; (with_reducible refine (CL.out _ (by go_split_ands; assumption)).mono ?_); rintro e w' ⟨rfl, hb⟩))
        rename_i hEnd
        obtain ⟨-, -, -, -, -, -, -, -, -, -, hBB⟩ := hEnd
        have HB2 := Lib.hid (HB.out.trans (hBB.mono HB.out.size))
        clear hBB MK KP CL
        go_wp2_with fail
        go_roundw
        case rel => exact ⟨cc + 1, nr, by go_num, rfl, hC2, HB2⟩
        case measure => simp only [intOf]; have := HCC.out; omega
      case true =>
        rw [he] at hk
        have hC2 := Lib.hid (CTT.out (by unfold elt; exact he))
        clear hCC hLL c1 c2 hlo hk1 k1 hz iZ iO CTT CTF he hCCb
        have HCC := Lib.hid hcc
        clear hcc
        have u2 := HX2.out
        have u3 := HX3.out
        go_wp2_with fail
        clear u1 u2 u3 HX2 HX3
        go_region_held3 (fun w' => w'.cell? ⟨g, m * 5, none⟩ = some (.int .i64 ya) ∧ w'.cell? ⟨g, m * 5 + 1, none⟩ = some (.int .i64 yb) ∧ w'.cell? ⟨g, m * 5 + 2, none⟩ = some (.int .i64 yk) ∧ w'.cell? ⟨g, m * 5 + 3, none⟩ = some (.int .i64 yn) ∧ w'.cell? ⟨g, m * 5 + 4, none⟩ = some (.slice yp ym yc) ∧ w'.cell? ⟨g, cc * 5, none⟩ = some (.int .i64 xa) ∧ w'.cell? ⟨g, cc * 5 + 1, none⟩ = some (.int .i64 xb) ∧ w'.cell? ⟨g, cc * 5 + 2, none⟩ = some (.int .i64 xk) ∧ w'.cell? ⟨g, cc * 5 + 3, none⟩ = some (.int .i64 xn) ∧ w'.cell? ⟨g, cc * 5 + 4, none⟩ = some (.slice xp xm xc) ∧ Below wr.heap.size wr w') (first | exact MK.out _ ((Below.refl _ _).drew) | assumption | (refine KP.out _ _ ?_ hb; first | assumption | exact MK.out _ ((Below.refl _ _).drew))) (first | (go_at_call 47; (with_reducible refine (CL.out _ (by go_split_ands; assumption)).mono ?_); rintro e w' ⟨rfl, hb⟩))
        rename_i hEnd
        obtain ⟨-, -, -, -, -, -, -, -, -, -, hBB⟩ := hEnd
        have HB2 := Lib.hid (HB.out.trans (hBB.mono HB.out.size))
        clear hBB MK KP CL
        go_wp2_with fail
        go_roundw
        case rel => exact ⟨ns, cc, rfl, rfl, hC2, HB2⟩
        case measure => simp only [intOf]; have := HCC.out; omega
end Go.Proofs.Ytmbcfijhlpeddaa
/- symMerge makes two sorted neighbours one, in place and stable. -/
namespace Go.Proofs.Ytmbcfijhlpeddaa
open Go.ChangeShapes Go.WideShapes Go.ChangeAt Go.RowKit
set_option linter.unusedVariables false
set_option linter.unusedSimpArgs false
theorem one_of {l : List E5} (h : l.length = 1) : ∃ x, l = [x] := by
  match l, h with
  | [x], _ => exact ⟨x, rfl⟩
theorem sym_merge (B : Nat) (K : Nat) : SymOk K B := by
  induction K using Nat.strongRecOn with
  | _ K ih =>
    intro a m b g N c T pre P Q post W hK hS hne ha hm hb hP hQ hN hsm hc hform h hu1 hu2
    rcases Nat.lt_or_ge 1 P.length with h2 | h2
    · rcases Nat.lt_or_ge 1 Q.length with h3 | h3
      · exact sym_big K B ih a m b g N c T pre P Q post W hK hS hne ha hm hb h2 h3 hN hsm hc hform h hu1 hu2
      · obtain ⟨y, rfl⟩ := one_of (l := Q) (by omega)
        simp only [List.length_singleton] at *
        exact sym_right a m b g N c B T pre P post y W hS hne ha (by omega) (by omega) (by omega) (by omega) hsm hc hform h hu1
    · obtain ⟨x, rfl⟩ := one_of (l := P) (by omega)
      simp only [List.length_singleton] at *
      exact sym_left a m b g N c B T pre Q post x W hS hne ha (by omega) (by omega) hQ (by omega) hsm hc hform h hu2
end Go.Proofs.Ytmbcfijhlpeddaa
/- A row sorted block by block, in numbers. -/
namespace Go.Proofs.Ytmbcfijhlpeddaa
open Go.ChangeShapes Go.WideShapes Go.ChangeAt Go.RowKit
set_option linter.unusedVariables false
set_option linter.unusedSimpArgs false
namespace Srt
variable {α : Type} {lt : α → α → Bool}
/-- Sorted s by s. -/
def bl (lt : α → α → Bool) (s : Nat) (l : List α) : List α := if h : l.length ≤ s ∨ s = 0 then isort lt l else isort lt (l.take s) ++ bl lt s (l.drop s)
termination_by l.length
decreasing_by rw [List.length_drop]; omega
theorem bl_small {s : Nat} {l : List α} (h : l.length ≤ s) : bl lt s l = isort lt l := by rw [bl, dif_pos (.inl h)]
theorem bl_nil (s : Nat) : bl lt s ([] : List α) = [] := by rw [bl_small (by simp)]; rfl
theorem bl_step {s : Nat} {R Z : List α} (hs : 1 ≤ s) (hR : R.length = s) : bl lt s (R ++ Z) = isort lt R ++ bl lt s Z := by
  by_cases hz : Z = []
  · subst hz
    rw [bl_nil, List.append_nil, List.append_nil, bl_small (by omega)]
  · have : Z.length ≠ 0 := fun e => hz (List.eq_nil_of_length_eq_zero e)
    rw [bl, dif_neg (by rw [List.length_append]; omega), List.take_left' hR, List.drop_left' hR]
/-- D is done as X: what is behind it does not matter. -/
def Dn (lt : α → α → Bool) (s : Nat) (D X : List α) : Prop := ∀ Z, bl lt s (D ++ Z) = X ++ bl lt s Z
theorem Dn.nil (s : Nat) : Dn lt s ([] : List α) [] := fun Z => by simp
theorem Dn.step {s : Nat} {D X R : List α} (h : Dn lt s D X) (hs : 1 ≤ s) (hR : R.length = s) : Dn lt s (D ++ R) (X ++ isort lt R) := fun Z => by
  rw [List.append_assoc, h, bl_step hs hR, List.append_assoc]
theorem bl_two {s : Nat} {R Z : List α} (hs : 1 ≤ s) (hR : R.length = 2 * s) : bl lt s (R ++ Z) = isort lt (R.take s) ++ (isort lt (R.drop s) ++ bl lt s Z) := by
  have e : R ++ Z = R.take s ++ (R.drop s ++ Z) := by rw [← List.append_assoc, List.take_append_drop]
  rw [e, bl_step hs (by rw [List.length_take]; omega), bl_step hs (by rw [List.length_drop]; omega)]
theorem bl_last {s : Nat} {R : List α} (hs : 1 ≤ s) (h1 : s < R.length) (h2 : R.length ≤ 2 * s) : bl lt s R = isort lt (R.take s) ++ isort lt (R.drop s) := by
  have e : R = R.take s ++ R.drop s := by rw [List.take_append_drop]
  have := bl_step (lt := lt) (R := R.take s) (Z := R.drop s) hs (by rw [List.length_take]; omega)
  rw [← e] at this
  rw [this, bl_small (l := R.drop s) (by rw [List.length_drop]; omega)]
theorem two_mrg (O : SOrd lt) (R : List α) (s : Nat) : mrg lt (isort lt (R.take s)) (isort lt (R.drop s)) = isort lt R := by
  rw [← isort_app O, List.take_append_drop]
theorem bl_len (s : Nat) (l : List α) : (bl lt s l).length = l.length := by
  rw [bl]
  split
  · exact isort_len l
  · rw [List.length_append, isort_len, bl_len s (l.drop s), List.length_take, List.length_drop]; omega
termination_by l.length
decreasing_by rw [List.length_drop]; omega
theorem mem_foldi (l : List α) : ∀ {o : List α} {z : α}, z ∈ l.foldl (fun o x => ins lt x o) o → z ∈ o ∨ z ∈ l := by
  induction l with
  | nil => intro o z h; exact .inl h
  | cons x l ih =>
    intro o z h
    rcases ih h with h | h
    · rcases mem_ins h with rfl | h
      · exact .inr (List.mem_cons_self ..)
      · exact .inl h
    · exact .inr (List.mem_cons_of_mem _ h)
theorem mem_isort {l : List α} {z : α} (h : z ∈ isort lt l) : z ∈ l := (mem_foldi l h).resolve_left (by simp)
theorem mem_bl (s : Nat) (l : List α) {z : α} (h : z ∈ bl lt s l) : z ∈ l := by
  rw [bl] at h
  split at h
  · exact mem_isort h
  · rcases List.mem_append.1 h with h | h
    · exact List.mem_of_mem_take (mem_isort h)
    · exact List.mem_of_mem_drop (mem_bl s (l.drop s) h)
termination_by l.length
decreasing_by rw [List.length_drop]; omega
end Srt
end Go.Proofs.Ytmbcfijhlpeddaa
/- slices' stable sorting of entries in place: blocks of 20 by insertion, then symMerge, block by block. -/
namespace Go.Proofs.Ytmbcfijhlpeddaa
open Go.ChangeShapes Go.WideShapes Go.ChangeAt Go.RowKit
set_option linter.unusedVariables false
set_option linter.unusedSimpArgs false
attribute [local go_sem ↓] Go.wp_at_zero Go.wp_at_succ
/-- The first na elements are done in blocks of 20. -/
def St1 (w : World) (g : Nat) (T : TypeId) (l : List E5) (na : Nat) : Prop := ∃ D X R, l = D ++ R ∧ D.length = na ∧ X.length = na ∧ Srt.Dn elt 20 D X ∧ RowE w g T (X ++ R)
/-- The first na elements are done in blocks of 2 s, the others in blocks of s. -/
def St2 (s : Nat) (w : World) (g : Nat) (T : TypeId) (l : List E5) (na : Nat) : Prop := ∃ D X R, l = D ++ R ∧ D.length = na ∧ X.length = na ∧ Srt.Dn elt (2 * s) D X ∧ RowE w g T (X ++ Srt.bl elt s R)
theorem dn_mem {s : Nat} {D X : List E5} (h : Srt.Dn elt s D X) {z : E5} (hz : z ∈ X) : z ∈ D := by
  have := h []
  rw [Srt.bl_nil, List.append_nil, List.append_nil] at this
  exact Srt.mem_bl s D (this ▸ hz)
theorem dn_eq {s : Nat} {D X : List E5} (h : Srt.Dn elt s D X) (R : List E5) : Srt.bl elt s (D ++ R) = X ++ Srt.bl elt s R := h R
def fcl (B : Nat) : Value := .func (.func 47) #[] #[.pointer (some ⟨B, 0, none⟩)]
section
variable {B g N c : Nat} {T : TypeId} {l : List E5} {W : World}
theorem st1_step (hS : Srtr W B) (hne : B ≠ g) (hl : l.length = N) (hsm : N ≤ 1000000) (hc : N ≤ c ∧ c ≤ maxLen) (hform : Slv l) {w : World} (hB : But W w g) {na : Nat} (h : St1 w g T l na) (hn : na + 20 ≤ N) :
    Calls Try.prog 59 #[.slice (some ⟨g, 0, none⟩) N c, .int .i64 na, .int .i64 ((na + 20 : Nat) : Int), .func (.func 47) #[] #[.pointer (some ⟨B, 0, none⟩)]] w fun e w' => e = .returned (.tuple #[]) ∧ But w w' g ∧ St1 w' g T l (na + 20) := by
  obtain ⟨D, X, R, rfl, hD, hX, hdn, hr⟩ := h
  rw [List.length_append] at hl
  have hR : R = R.take 20 ++ R.drop 20 := (List.take_append_drop _ _).symm
  have l20 : (R.take 20).length = 20 := by rw [List.length_take]; omega
  have hf : ∀ e ∈ X ++ (R.take 20 ++ R.drop 20), ∃ a n c, e.v = .slice a n c := fun e he => hform e (by
    rw [← hR] at he
    rcases List.mem_append.1 he with he | he
    · exact List.mem_append_left _ (dn_mem hdn he)
    · exact List.mem_append_right _ he)
  have := ins_sort g B N c T X (R.take 20) (R.drop 20) w (hS.but hB hne) hne (by rw [l20, List.length_drop]; omega) hsm hc hf (by rw [← hR]; exact hr)
  rw [l20, hX] at this
  refine this.mono ?_
  rintro e w' ⟨rfl, hb, hr'⟩
  refine ⟨rfl, hb, D ++ R.take 20, X ++ sortE (R.take 20), R.drop 20, by rw [List.append_assoc, ← hR], by rw [List.length_append]; omega, by rw [List.length_append, sortE_len]; omega, hdn.step (by omega) l20, by rw [List.append_assoc]; exact hr'⟩
theorem st1_last (hS : Srtr W B) (hne : B ≠ g) (hl : l.length = N) (hsm : N ≤ 1000000) (hc : N ≤ c ∧ c ≤ maxLen) (hform : Slv l) {w : World} (hB : But W w g) {na : Nat} (h : St1 w g T l na) (hn : N < na + 20) :
    Calls Try.prog 59 #[.slice (some ⟨g, 0, none⟩) N c, .int .i64 na, .int .i64 N, .func (.func 47) #[] #[.pointer (some ⟨B, 0, none⟩)]] w fun e w' => e = .returned (.tuple #[]) ∧ But w w' g ∧ RowE w' g T (Srt.bl elt 20 l) := by
  obtain ⟨D, X, R, rfl, hD, hX, hdn, hr⟩ := h
  rw [List.length_append] at hl
  have hf : ∀ e ∈ X ++ (R ++ []), ∃ a n c, e.v = .slice a n c := fun e he => hform e (by
    rw [List.append_nil] at he
    rcases List.mem_append.1 he with he | he
    · exact List.mem_append_left _ (dn_mem hdn he)
    · exact List.mem_append_right _ he)
  have := ins_sort g B N c T X R [] w (hS.but hB hne) hne (by simp; omega) hsm hc hf (by rw [List.append_nil]; exact hr)
  rw [hX, show na + R.length = N by omega] at this
  refine this.mono ?_
  rintro e w' ⟨rfl, hb, hr'⟩
  rw [List.append_nil] at hr'
  exact ⟨rfl, hb, by rw [dn_eq hdn, Srt.bl_small (by omega)]; exact hr'⟩
theorem slv_two {s : Nat} {D X R : List E5} (hform : Slv (D ++ R)) (hdn : Srt.Dn elt (2 * s) D X) {L : List E5} (hL : ∀ e ∈ L, e ∈ R) : Slv (X ++ L) := fun e he => hform e (by
  rcases List.mem_append.1 he with he | he
  · exact List.mem_append_left _ (dn_mem hdn he)
  · exact List.mem_append_right _ (hL e he))
theorem st2_step {s : Nat} (hs : 1 ≤ s) (hS : Srtr W B) (hne : B ≠ g) (hl : l.length = N) (hsm : N ≤ 1000000) (hc : N ≤ c ∧ c ≤ maxLen) (hform : Slv l) {w : World} (hB : But W w g) {na : Nat} (h : St2 s w g T l na) (hn : na + 2 * s ≤ N) :
    Calls Try.prog 60 #[.slice (some ⟨g, 0, none⟩) N c, .int .i64 na, .int .i64 ((na + s : Nat) : Int), .int .i64 ((na + 2 * s : Nat) : Int), .func (.func 47) #[] #[.pointer (some ⟨B, 0, none⟩)]] w fun e w' => e = .returned (.tuple #[]) ∧ But w w' g ∧ St2 s w' g T l (na + 2 * s) := by
  obtain ⟨D, X, R, rfl, hD, hX, hdn, hr⟩ := h
  rw [List.length_append] at hl
  have hR : R = R.take (2 * s) ++ R.drop (2 * s) := (List.take_append_drop _ _).symm
  have l2 : (R.take (2 * s)).length = 2 * s := by rw [List.length_take]; omega
  have e := Srt.bl_two (lt := elt) (R := R.take (2 * s)) (Z := R.drop (2 * s)) hs l2
  rw [← hR] at e
  rw [e] at hr
  have hf := slv_two (L := Srt.bl elt s R) hform hdn (fun e he => Srt.mem_bl s R he)
  rw [e] at hf
  have := sym_merge B _ na (na + s) (na + 2 * s) g N c T X _ _ _ w (Nat.le_refl _) (hS.but hB hne) hne hX (by rw [Srt.isort_len, List.length_take]; omega) (by rw [Srt.isort_len, Srt.isort_len, List.length_take, List.length_drop]; omega) (by rw [Srt.isort_len, List.length_take]; omega) (by rw [Srt.isort_len, List.length_drop]; omega) (by rw [Srt.isort_len, Srt.isort_len, Srt.bl_len, List.length_take, List.length_drop, List.length_drop]; omega) hsm hc hf hr (Srt.isort_up elt_ord _) (Srt.isort_up elt_ord _)
  refine this.mono ?_
  rintro e w' ⟨rfl, hb, hr'⟩
  rw [Srt.two_mrg elt_ord] at hr'
  refine ⟨rfl, hb, D ++ R.take (2 * s), X ++ Srt.isort elt (R.take (2 * s)), R.drop (2 * s), by rw [List.append_assoc, ← hR], by rw [List.length_append]; omega, by rw [List.length_append, Srt.isort_len]; omega, hdn.step (by omega) l2, by rw [List.append_assoc]; exact hr'⟩
theorem st2_last {s : Nat} (hs : 1 ≤ s) (hS : Srtr W B) (hne : B ≠ g) (hl : l.length = N) (hsm : N ≤ 1000000) (hc : N ≤ c ∧ c ≤ maxLen) (hform : Slv l) {w : World} (hB : But W w g) {na : Nat} (h : St2 s w g T l na) (hn : N < na + 2 * s) (hn2 : na + s < N) :
    Calls Try.prog 60 #[.slice (some ⟨g, 0, none⟩) N c, .int .i64 na, .int .i64 ((na + s : Nat) : Int), .int .i64 N, .func (.func 47) #[] #[.pointer (some ⟨B, 0, none⟩)]] w fun e w' => e = .returned (.tuple #[]) ∧ But w w' g ∧ RowE w' g T (Srt.bl elt (2 * s) l) := by
  obtain ⟨D, X, R, rfl, hD, hX, hdn, hr⟩ := h
  rw [List.length_append] at hl
  have e := Srt.bl_last (lt := elt) (R := R) hs (by omega) (by omega)
  have e' : Srt.bl elt s R = Srt.isort elt (R.take s) ++ (Srt.isort elt (R.drop s) ++ []) := by rw [List.append_nil]; exact e
  rw [e'] at hr
  have hf := slv_two (L := Srt.bl elt s R) hform hdn (fun e he => Srt.mem_bl s R he)
  rw [e'] at hf
  have := sym_merge B _ na (na + s) N g N c T X _ _ _ w (Nat.le_refl _) (hS.but hB hne) hne hX (by rw [Srt.isort_len, List.length_take]; omega) (by rw [Srt.isort_len, Srt.isort_len, List.length_take, List.length_drop]; omega) (by rw [Srt.isort_len, List.length_take]; omega) (by rw [Srt.isort_len, List.length_drop]; omega) (by rw [Srt.isort_len, Srt.isort_len, List.length_take, List.length_drop]; simp; omega) hsm hc hf hr (Srt.isort_up elt_ord _) (Srt.isort_up elt_ord _)
  refine this.mono ?_
  rintro e w' ⟨rfl, hb, hr'⟩
  rw [Srt.two_mrg elt_ord, List.append_nil] at hr'
  exact ⟨rfl, hb, by rw [dn_eq hdn, Srt.bl_small (by omega)]; exact hr'⟩
theorem st2_none {s : Nat} (hl : l.length = N) {w : World} {na : Nat} (h : St2 s w g T l na) (hn2 : N ≤ na + s) : RowE w g T (Srt.bl elt (2 * s) l) := by
  obtain ⟨D, X, R, rfl, hD, hX, hdn, hr⟩ := h
  rw [List.length_append] at hl
  rw [dn_eq hdn, Srt.bl_small (by omega)]
  rw [Srt.bl_small (by omega)] at hr
  exact hr
end
set_option maxRecDepth 100000 in
set_option maxHeartbeats 8000000 in
theorem stable (g B N c : Nat) (T : TypeId) (l : List E5) (W : World) (hS : Srtr W B) (hne : B ≠ g) (hl : l.length = N) (hsm : N ≤ 1000000) (hc : N ≤ c ∧ c ≤ maxLen) (hform : Slv l) (h : RowE W g T l) :
    Calls Try.prog 55 #[.slice (some ⟨g, 0, none⟩) N c, .int .i64 N, .func (.func 47) #[] #[.pointer (some ⟨B, 0, none⟩)]] W fun e w' => e = .returned (.tuple #[]) ∧ But W w' g ∧ RowE w' g T (sortE l) := by
  have A1 := Lib.hid (fun w (hB : But W w g) na (h : St1 w g T l na) hn => st1_step hS hne hl hsm hc hform hB h hn)
  have A2 := Lib.hid (fun w (hB : But W w g) na (h : St1 w g T l na) hn => st1_last hS hne hl hsm hc hform hB h hn)
  have A3 := Lib.hid (fun s hs w (hB : But W w g) na (h : St2 s w g T l na) hn => st2_step hs hS hne hl hsm hc hform hB h hn)
  have A4 := Lib.hid (fun s hs w (hB : But W w g) na (h : St2 s w g T l na) hn hn2 => st2_last hs hS hne hl hsm hc hform hB h hn hn2)
  have A5 := Lib.hid (fun s w na (h : St2 s w g T l na) hn2 => st2_none hl h hn2)
  have H0 : Hid (St1 W g T l 0) := Lib.hid ⟨[], [], l, rfl, rfl, rfl, Srt.Dn.nil _, h⟩
  have EE := Lib.hid (fun s (hs : N ≤ s) => (show Srt.bl elt s l = sortE l from Srt.bl_small (by omega)))
  have Z2 := Lib.hid (fun s w (h : RowE w g T (Srt.bl elt s l)) => (show St2 s w g T l 0 from ⟨[], [], l, rfl, rfl, rfl, Srt.Dn.nil _, h⟩))
  clear h hform hl hc hS hne
  go_enter Try.func55, Try.ntmps55
  go_wp2_with fail
  go_loopw [7, 8] (fun a b wr => ∃ na : Nat, a = .int .i64 na ∧ b = .int .i64 ((na + 20 : Nat) : Int) ∧ na ≤ N ∧ Hid (St1 wr g T l na) ∧ Hid (But W wr g)) (fun a _ _ => N - (intOf a).toNat)
  case atStart => exact ⟨0, rfl, rfl, by omega, H0, Lib.hid (But.refl _ _)⟩
  case round =>
    obtain ⟨na, rfl, rfl, hna, HR, HB⟩ := hrel
    obtain ⟨nb, hnb⟩ : ∃ nb, na + 20 = nb := ⟨_, rfl⟩
    rw [hnb]
    by_cases hlt : nb ≤ N
    case pos =>
      have d1 : decide ((nb : Int) ≤ (N : Int)) = true := decide_eq_true (by omega)
      have d1' : decide (nb ≤ N) = true := decide_eq_true hlt
      have C := A1.out wr HB.out na HR.out (by omega)
      rw [hnb] at C
      have v1 : IntKind.i64.wrap ((nb : Int) + 20) = ((nb + 20 : Nat) : Int) := by rw [IntWalk.i64_in _ (by omega)]; omega
      have HN := Lib.hid hnb
      clear hnb HR
      go_wp2_with fail
      refine C.mono ?_
      rintro e w1 ⟨rfl, hb, hr⟩
      have H1 := Lib.hid hr
      have H2 := Lib.hid (HB.out.trans hb)
      clear C hb hr
      go_wp2_with fail
      go_roundw
      case rel => exact ⟨nb, rfl, rfl, hlt, H1, H2⟩
      case measure => simp only [intOf]; have := HN.out; omega
    case neg =>
      have d1 : decide ((nb : Int) ≤ (N : Int)) = false := decide_eq_false (by omega)
      have d1' : decide (nb ≤ N) = false := decide_eq_false hlt
      have C := A2.out wr HB.out na HR.out (by omega)
      clear hnb HR
      go_wp2_with fail
      refine C.mono ?_
      rintro e w1 ⟨rfl, hb, hr⟩
      have H1 := Lib.hid hr
      have H2 := Lib.hid (HB.out.trans hb)
      clear C hb hr A1 A2 H0
      go_wp2_with fail
      go_loopw [6, 7, 8] (fun s _ _ wr => ∃ bs : Nat, s = .int .i64 bs ∧ 1 ≤ bs ∧ bs ≤ 2000000 ∧ Hid (RowE wr g T (Srt.bl elt bs l)) ∧ Hid (But W wr g)) (fun s _ _ _ => N - (intOf s).toNat)
      case atStart => exact ⟨20, rfl, by omega, by omega, H1, H2⟩
      case round =>
        obtain ⟨bs, rfl, hb1, hb2, HR, HB⟩ := hrel
        by_cases hlt : bs < N
        case neg =>
          have d2 : decide ((bs : Int) < (N : Int)) = false := decide_eq_false (by omega)
          have d2' : decide (bs < N) = false := decide_eq_false hlt
          go_wp2_with fail
          go_end0
          exact ⟨rfl, HB.out, by rw [← EE.out bs (by omega)]; exact HR.out⟩
        case pos =>
          have d2 : decide ((bs : Int) < (N : Int)) = true := decide_eq_true (by omega)
          have d2' : decide (bs < N) = true := decide_eq_true hlt
          obtain ⟨ds, hds⟩ : ∃ ds, 2 * bs = ds := ⟨_, rfl⟩
          have v2 : IntKind.i64.wrap (2 * (bs : Int)) = (ds : Int) := by rw [IntWalk.i64_in _ (by omega)]; omega
          have v2' : IntKind.i64.wrap ((bs : Int) * 2) = (ds : Int) := by rw [IntWalk.i64_in _ (by omega)]; omega
          have HZ := Lib.hid (Z2.out bs wr HR.out)
          have HDS := Lib.hid hds
          clear hds HR
          go_wp2_with fail
          go_loopw [7, 8] (fun a b wr => ∃ na : Nat, a = .int .i64 na ∧ b = .int .i64 ((na + ds : Nat) : Int) ∧ na ≤ N ∧ Hid (St2 bs wr g T l na) ∧ Hid (But W wr g)) (fun a _ _ => N - (intOf a).toNat)
          case atStart => exact ⟨0, rfl, by rw [Nat.zero_add], by omega, HZ, HB⟩
          case round =>
            obtain ⟨na, rfl, rfl, hna, HR, HBB⟩ := hrel
            obtain ⟨nb, hnb⟩ : ∃ nb, na + ds = nb := ⟨_, rfl⟩
            rw [hnb]
            obtain ⟨nm, hnm⟩ : ∃ nm, na + bs = nm := ⟨_, rfl⟩
            have v3 : IntKind.i64.wrap ((na : Int) + (bs : Int)) = (nm : Int) := by rw [IntWalk.i64_in _ (by omega)]; omega
            have hdd := HDS.out
            by_cases hlt3 : nb ≤ N
            case pos =>
              have d3 : decide ((nb : Int) ≤ (N : Int)) = true := decide_eq_true (by omega)
              have d3' : decide (nb ≤ N) = true := decide_eq_true hlt3
              have C := A3.out bs hb1 wr HBB.out na HR.out (by omega)
              rw [show na + 2 * bs = nb by omega, hnm] at C
              have v4 : IntKind.i64.wrap ((nb : Int) + (ds : Int)) = ((nb + ds : Nat) : Int) := by rw [IntWalk.i64_in _ (by omega)]; omega
              have HN := Lib.hid (show na < nb by omega)
              clear hnb hnm hdd HR
              go_wp2_with fail
              refine C.mono ?_
              rintro e w1 ⟨rfl, hb, hr⟩
              have H1 := Lib.hid hr
              have H2 := Lib.hid (HBB.out.trans hb)
              clear C hb hr
              go_wp2_with fail
              go_roundw
              case rel => exact ⟨nb, rfl, rfl, hlt3, H1, H2⟩
              case measure => simp only [intOf]; have := HN.out; omega
            case neg =>
              have d3 : decide ((nb : Int) ≤ (N : Int)) = false := decide_eq_false (by omega)
              have d3' : decide (nb ≤ N) = false := decide_eq_false hlt3
              by_cases hlt4 : nm < N
              case pos =>
                have d4 : decide ((nm : Int) < (N : Int)) = true := decide_eq_true (by omega)
                have d4' : decide (nm < N) = true := decide_eq_true hlt4
                have C := A4.out bs hb1 wr HBB.out na HR.out (by omega) (by omega)
                rw [hnm] at C
                have HDD := Lib.hid hdd
                clear hnb hnm hdd HR
                go_wp2_with fail
                refine C.mono ?_
                rintro e w1 ⟨rfl, hb, hr⟩
                have H1 : Hid (RowE w1 g T (Srt.bl elt ds l)) := Lib.hid (by rw [← HDD.out]; exact hr)
                have H2 := Lib.hid (HBB.out.trans hb)
                clear C hb hr
                go_wp2_with fail
                go_roundw
                case rel => exact ⟨ds, rfl, by have := HDD.out; omega, by have := HDD.out; omega, H1, H2⟩
                case measure => simp only [intOf]; have := HDD.out; omega
              case neg =>
                have d4 : decide ((nm : Int) < (N : Int)) = false := decide_eq_false (by omega)
                have d4' : decide (nm < N) = false := decide_eq_false hlt4
                have H1 : Hid (RowE wr g T (Srt.bl elt ds l)) := Lib.hid (by rw [← hdd]; exact A5.out bs wr na HR.out (by omega))
                have HDD := Lib.hid hdd
                clear hnb hnm hdd HR
                go_wp2_with fail
                go_roundw
                case rel => exact ⟨ds, rfl, by have := HDD.out; omega, by have := HDD.out; omega, H1, HBB⟩
                case measure => simp only [intOf]; have := HDD.out; omega
end Go.Proofs.Ytmbcfijhlpeddaa
/- Rows of nodes that grow by append, whose kids may lie in memory laid later than the row. -/
namespace Go.Proofs.Ytmbcfijhlpeddaa
open Go.ChangeShapes Go.WideShapes Go.ChangeAt Go.RowKit
set_option linter.unusedVariables false
set_option linter.unusedSimpArgs false
/-- The nodes lie from place o of block b on, in the blocks S. -/
def Fo.AtS (w : World) (S : Nat → Prop) : Fo → Nat → Nat → Prop
  | nil, _, _ => True
  | cons k n ks r, b, o => S b ∧ w.cell? ⟨b, o, none⟩ = some (.int .i64 k) ∧ w.cell? ⟨b, o + 1, none⟩ = some (.int .i64 n) ∧
    (∃ a c, w.cell? ⟨b, o + 2, none⟩ = some (.slice a ks.len c) ∧ ks.len ≤ c ∧ c ≤ maxLen ∧ (ks.len = 0 ∨ ∃ b' o', a = some ⟨b', o', none⟩ ∧ ks.AtS w S b' o')) ∧ r.AtS w S b (o + 3)
theorem Fo.AtS.of : ∀ {f : Fo} {w : World} {lim b o : Nat} (_ : f.At w lim b o), f.AtS w (fun b => b < lim) b o
  | .nil, _, _, _, _, _ => trivial
  | .cons _ _ ks r, w, lim, b, o, ⟨hb, c0, c1, ⟨a, c, c2, h1, h2, h3⟩, hr⟩ => by
    refine ⟨hb, c0, c1, ⟨a, c, c2, h1, h2, ?_⟩, Fo.AtS.of hr⟩
    rcases h3 with h3 | ⟨b', o', e, h3⟩
    · exact .inl h3
    · exact .inr ⟨b', o', e, Fo.AtS.of h3⟩
theorem Fo.AtS.to : ∀ {f : Fo} {w : World} {S : Nat → Prop} {lim b o : Nat} (_ : f.AtS w S b o) (_ : ∀ b, S b → b < lim), f.At w lim b o
  | .nil, _, _, _, _, _, _, _ => trivial
  | .cons _ _ ks r, w, S, lim, b, o, ⟨hb, c0, c1, ⟨a, c, c2, h1, h2, h3⟩, hr⟩, hS => by
    refine ⟨hS _ hb, c0, c1, ⟨a, c, c2, h1, h2, ?_⟩, Fo.AtS.to hr hS⟩
    rcases h3 with h3 | ⟨b', o', e, h3⟩
    · exact .inl h3
    · exact .inr ⟨b', o', e, Fo.AtS.to h3 hS⟩
theorem Fo.AtS.carry : ∀ {f : Fo} {w w' : World} {S S' : Nat → Prop} {b o : Nat} (_ : f.AtS w S b o) (_ : ∀ b, S b → S' b ∧ w'.heap[b]? = w.heap[b]?), f.AtS w' S' b o
  | .nil, _, _, _, _, _, _, _, _ => trivial
  | .cons _ _ ks r, w, w', S, S', b, o, ⟨hb, c0, c1, ⟨a, c, c2, h1, h2, h3⟩, hr⟩, hS => by
    have hw := (hS b hb).2
    refine ⟨(hS b hb).1, (World.cell?_of_block (a := ⟨b, o, none⟩) hw).trans c0, (World.cell?_of_block (a := ⟨b, o + 1, none⟩) hw).trans c1, ⟨a, c, (World.cell?_of_block (a := ⟨b, o + 2, none⟩) hw).trans c2, h1, h2, ?_⟩, Fo.AtS.carry hr hS⟩
    rcases h3 with h3 | ⟨b', o', e, h3⟩
    · exact .inl h3
    · exact .inr ⟨b', o', e, Fo.AtS.carry h3 hS⟩
def KidsS (w : World) (S : Nat → Prop) (v : Value) (f : Fo) : Prop := ∃ a c, v = .slice a f.len c ∧ f.len ≤ c ∧ c ≤ maxLen ∧ (f.len = 0 ∨ ∃ b o, a = some ⟨b, o, none⟩ ∧ f.AtS w S b o)
theorem KidsS.of {w : World} {lim : Nat} {v : Value} {f : Fo} (h : Kids w lim v f) : KidsS w (fun b => b < lim) v f := by
  obtain ⟨a, c, rfl, h1, h2, h3⟩ := h
  exact ⟨a, c, rfl, h1, h2, h3.imp id (fun ⟨b, o, e, h⟩ => ⟨b, o, e, .of h⟩)⟩
theorem KidsS.to {w : World} {S : Nat → Prop} {lim : Nat} {v : Value} {f : Fo} (h : KidsS w S v f) (hS : ∀ b, S b → b < lim) : Kids w lim v f := by
  obtain ⟨a, c, rfl, h1, h2, h3⟩ := h
  exact ⟨a, c, rfl, h1, h2, h3.imp id (fun ⟨b, o, e, h⟩ => ⟨b, o, e, h.to hS⟩)⟩
theorem KidsS.carry {w w' : World} {S S' : Nat → Prop} {v : Value} {f : Fo} (h : KidsS w S v f) (hS : ∀ b, S b → S' b ∧ w'.heap[b]? = w.heap[b]?) : KidsS w' S' v f := by
  obtain ⟨a, c, rfl, h1, h2, h3⟩ := h
  exact ⟨a, c, rfl, h1, h2, h3.imp id (fun ⟨b, o, e, h⟩ => ⟨b, o, e, h.carry hS⟩)⟩
/-- Cells that hold these nodes, three to a node. -/
def NodsS (w : World) (S : Nat → Prop) : List Value → List Nd → Prop
  | xs, [] => xs = []
  | xs, d :: l => ∃ v ys, xs = .int .i64 d.k :: .int .i64 d.n :: v :: ys ∧ KidsS w S v d.ks ∧ NodsS w S ys l
theorem NodsS.len : ∀ {w : World} {S : Nat → Prop} {xs : List Value} {l : List Nd}, NodsS w S xs l → xs.length = l.length * 3
  | _, _, _, [], h => by rw [show _ = [] from h]; rfl
  | _, _, _, d :: l, ⟨v, ys, e, _, h⟩ => by rw [e]; simp [NodsS.len h]; omega
theorem NodsS.append : ∀ {w : World} {S : Nat → Prop} {xs ys : List Value} {l m : List Nd}, NodsS w S xs l → NodsS w S ys m → NodsS w S (xs ++ ys) (l ++ m)
  | _, _, _, _, [], _, h, h2 => by rw [show _ = [] from h]; exact h2
  | _, _, _, _, d :: l, m, ⟨v, zs, e, hk, h⟩, h2 => by rw [e]; exact ⟨v, _, rfl, hk, NodsS.append h h2⟩
theorem NodsS.carry : ∀ {w w' : World} {S S' : Nat → Prop} {xs : List Value} {l : List Nd}, NodsS w S xs l → (∀ b, S b → S' b ∧ w'.heap[b]? = w.heap[b]?) → NodsS w' S' xs l
  | _, _, _, _, _, [], h, _ => h
  | _, _, _, _, _, d :: l, ⟨v, ys, e, hk, h⟩, hb => ⟨v, ys, e, hk.carry hb, h.carry hb⟩
theorem NodsS.one : ∀ {w : World} {S : Nat → Prop} {xs : List Value} {l : List Nd}, NodsS w S xs l → ∀ u ∈ xs, u.oneCell' = true
  | _, _, _, [], h, u, hu => by rw [show _ = [] from h] at hu; cases hu
  | _, _, _, d :: l, ⟨v, ys, e, hk, h⟩, u, hu => by
    obtain ⟨a, c, rfl, _⟩ := hk
    rw [e] at hu
    simp only [List.mem_cons] at hu
    rcases hu with rfl | rfl | rfl | hu
    · rfl
    · rfl
    · rfl
    · exact NodsS.one h u hu
/-- The nodes of a row. -/
def Fo.top : Fo → List Nd
  | .nil => []
  | .cons k n ks r => ⟨k, n, ks⟩ :: r.top
theorem Fo.top_len : ∀ f : Fo, f.top.length = f.len
  | .nil => rfl
  | .cons _ _ _ r => by simp [Fo.top, Fo.len, Fo.top_len r]
theorem Fo.top_at : ∀ (f : Fo) (i : Nat), i < f.len → f.top[i]? = some ⟨f.k i, f.n i, f.kids i⟩
  | .nil, _, h => by simp [Fo.len] at h
  | .cons _ _ _ r, 0, _ => rfl
  | .cons _ _ _ r, i + 1, h => by
    have := Fo.top_at r i (by simp [Fo.len] at h; omega)
    simpa [Fo.top, Fo.k, Fo.n, Fo.kids] using this
theorem nodsS_at {w : World} {S S' : Nat → Prop} {g : Nat} (hS : ∀ b, S b → S' b) (hg : S' g) : ∀ (f : Fo) (xs : List Value) (o : Nat), NodsS w S xs f.top → (∀ j u, xs[j]? = some u → w.cell? ⟨g, o + j, none⟩ = some u) → f.AtS w S' g o
  | .nil, _, _, _, _ => trivial
  | .cons k n ks r, xs, o, ⟨v, ys, e, hk, h⟩, hc => by
    subst e
    obtain ⟨a, c, rfl, h1, h2, h3⟩ := hk
    refine ⟨hg, hc 0 _ rfl, hc 1 _ rfl, ⟨a, c, hc 2 _ rfl, h1, h2, h3.imp id (fun ⟨b', o', e', h'⟩ => ⟨b', o', e', h'.carry (fun b hb => ⟨hS b hb, rfl⟩)⟩)⟩, nodsS_at hS hg r ys (o + 3) h (fun j u hu => ?_)⟩
    have := hc (j + 3) u (by simpa using hu)
    rw [show o + 3 + j = o + (j + 3) by omega]
    exact this
theorem top_take (f : Fo) (i : Nat) (h : i < f.len) : f.top.take (i + 1) = f.top.take i ++ [⟨f.k i, f.n i, f.kids i⟩] := by
  rw [List.take_add_one, Fo.top_at f i h]; rfl
theorem top_take_all (f : Fo) : f.top.take f.len = f.top := by rw [← Fo.top_len]; exact List.take_length
/-- The blocks of the world, but for a row's own. -/
def offB (w : World) (lim B : Nat) (v : Value) (b : Nat) : Prop := b < w.heap.size ∧ v.ownBlock ≠ some b ∧ (b < lim ∨ B ≤ b)
/-- A row of nodes of the call's own; the kids lie anywhere but in it. -/
def OwnT (w : World) (lim B : Nat) (v : Value) (l : List Nd) : Prop := ∃ xs, w.ownsRow B 34 3 v l.length xs ∧ NodsS w (offB w lim B v) xs l
theorem OwnT.nil (w : World) (lim B : Nat) : OwnT w lim B (.slice none 0 0) [] := ⟨[], World.ownsRow_nil w B 34 3, rfl⟩
/-- What leaves the row's block, and all others that there are, as they are. -/
theorem OwnT.below {w w' : World} {lim B : Nat} {v : Value} {l : List Nd} (h : OwnT w lim B v l) (hb : Below w.heap.size w w') : OwnT w' lim B v l := by
  obtain ⟨xs, h1, h2⟩ := h
  exact ⟨xs, World.ownsRow.kept h1 (row := none) ⟨hb.os, hb.tape, hb.output, hb.size, fun i hi _ => hb.block i hi⟩ (by
    by_cases hn : v.ownBlock = none
    · exact .inl hn
    · exact .inr hn), h2.carry (fun b ⟨h3, h4⟩ => ⟨⟨Nat.lt_of_lt_of_le h3 hb.size, h4⟩, hb.block b h3⟩)⟩
/-- A store into a block between. -/
theorem OwnT.keep {w w' : World} {lim B X : Nat} {v : Value} {l : List Nd} (h : OwnT w lim B v l) (hb : But w w' X) (hlX : lim ≤ X) (hXB : X < B) : OwnT w' lim B v l := by
  obtain ⟨xs, h1, h2⟩ := h
  have hz := hb.z
  have hb0 := hb.b 0 (Nat.zero_le _) (Nat.zero_le _)
  refine ⟨xs, World.ownsRow.kept h1 (row := some X) ⟨hb0.os, hb0.tape, hb0.output, hz, fun i hi hne => hb.o i hi (fun e => hne (by rw [e]))⟩ (by
    by_cases hn : v.ownBlock = none
    · exact .inl hn
    · exact .inr (fun e => by have := (World.ownsRow.lt h1 X e).1; omega)), h2.carry (fun b ⟨h3, h4, h5⟩ => ⟨⟨Nat.lt_of_lt_of_le h3 hz, h4, h5⟩, hb.o b h3 (by omega)⟩)⟩
/-- 'append(l, m...)' of one node at least onto such a row, at the operation. -/
theorem wp_append_t {o : Oper} {a : Act} {K : Act → World → Prop} {Q : Exit → Act → World → Prop} {W : World} {lim B : Nat} {v : Value} {l l2 : List Nd} {ad : Addr} {m c : Nat} {news : List Value} (s x : Operand)
    (ho : o.op = .call { callee := .builtin .append, args := #[s, x], argTypes := #[32, 32] }) (hs : a.eval s = v) (hown : OwnT W lim B v l) (hx : a.eval x = .slice (some ad) m c) (hm : l2.length = m) (hn : NodsS W (offB W lim B v) news l2) (hc : ∀ j u, news[j]? = some u → W.cell? (ad.add j) = some u)
    (hB : B ≤ W.heap.size) (h0 : 0 < m) (hlen : l.length + m ≤ 1099511627776)
    (h : ∀ v' w', OwnT w' lim B v' (l ++ l2) → W.grownBy w' v.ownBlock → K (a.put o.dst v') w') : o.wp Try.prog a W K Q := by
  obtain ⟨i0, hi⟩ : ∃ i, Try.prog.info? 34 = some i := by
    cases h0 : Try.prog.info? 34 with
    | none => have := info_desc; rw [h0] at this; cases this
    | some i => exact ⟨i, rfl⟩
  have h1 := info_desc
  rw [hi] at h1
  simp only [Option.map_some, Option.some.injEq, Prod.mk.injEq] at h1
  obtain ⟨hz, hsz, hby⟩ := h1
  obtain ⟨z, hz1, hz2⟩ : ∃ z, i0.zero = some z ∧ z.cells.size = 3 := by
    cases h0 : i0.zero with
    | none => rw [h0] at hz; cases hz
    | some z => rw [h0] at hz; simp at hz; exact ⟨z, rfl, hz⟩
  obtain ⟨xs, ho1, ho2⟩ := hown
  refine wp_append_lies _ s x 32 ho B 34 i0 z 3 40 Try.underlying32 hi hz1 hsz hby hz2 (by decide) v l.length xs hs ho1 ad m c news hx (by rw [hn.len, hm]) hc hn.one h0 (by unfold maxLen; omega) (by omega) hB _ rfl ?_
  intro g cap w' h2 h3 h4 _
  refine h _ w' ⟨_, by rw [List.length_append, hm]; exact h2, (ho2.append hn).carry (fun b ⟨hb1, hb2, hb3⟩ => ⟨⟨Nat.lt_of_lt_of_le hb1 h3.size, fun e => ?_, hb3⟩, h3.block b hb1 (fun e => hb2 e.symm)⟩)⟩ h3
  have e' : g = b := by simpa [Value.ownBlock] using e
  subst e'
  rcases h4 with h4 | h4
  · exact hb2 h4
  · omega
/-- At the end: the row's value, with all that is below it. -/
theorem OwnT.kidsS {w : World} {lim B : Nat} {v : Value} {f : Fo} (h : OwnT w lim B v f.top) : KidsS w (fun b => b < w.heap.size ∧ (b < lim ∨ B ≤ b)) v f := by
  obtain ⟨xs, ⟨h0, h1⟩, h2⟩ := h
  rw [Fo.top_len] at h1
  rcases h1 with ⟨rfl, hn⟩ | ⟨g, cap, cur, rfl, hb, hh, hn, hm, hs, ht⟩
  · exact ⟨none, 0, by rw [hn], by omega, by unfold maxLen; omega, .inl (by omega)⟩
  · have hg : g < w.heap.size := Nat.lt_of_not_le fun hn => by rw [Array.getElem?_eq_none hn] at hh; cases hh
    refine ⟨_, cap, rfl, by omega, hm, .inr ⟨g, 0, rfl, nodsS_at (fun b hb => ⟨hb.1, hb.2.2⟩) ⟨hg, .inr hb⟩ f xs 0 h2 (fun j u hu => ?_)⟩⟩
    rw [Fo.top_len] at h0
    have hj : j < f.len * 3 := by rw [← h0]; exact (List.getElem?_eq_some_iff.1 hu).1
    rw [Nat.zero_add, cell_of_row w g j _ _ _ hh, ← hu, ← ht, List.getElem?_take, if_pos hj]
    simp
theorem OwnT.kids {w : World} {lim B : Nat} {v : Value} {f : Fo} (h : OwnT w lim B v f.top) : Kids w w.heap.size v f := h.kidsS.to (fun _ hb => hb.1)
theorem OwnT.ownLe {w : World} {lim B : Nat} {v : Value} {l : List Nd} (h : OwnT w lim B v l) : ∀ i, v.ownBlock = some i → B ≤ i := fun i hi => by
  obtain ⟨xs, h1, _⟩ := h
  exact (World.ownsRow.lt h1 i hi).1
theorem OwnT.ownLt {w : World} {lim B : Nat} {v : Value} {l : List Nd} (h : OwnT w lim B v l) : ∀ i, v.ownBlock = some i → i < w.heap.size := fun i hi => by
  obtain ⟨xs, h1, _⟩ := h
  exact (World.ownsRow.lt h1 i hi).2
theorem OwnT.form {w : World} {lim B : Nat} {v : Value} {l : List Nd} (h : OwnT w lim B v l) : ∃ a n c, v = .slice a n c := by
  obtain ⟨xs, ⟨_, h1⟩, _⟩ := h
  rcases h1 with ⟨rfl, hn⟩ | ⟨g, cap, cur, rfl, _⟩
  · exact ⟨none, 0, 0, rfl⟩
  · exact ⟨_, _, cap, rfl⟩
end Go.Proofs.Ytmbcfijhlpeddaa
/- Nodes level by level: the layout that package desc's Clone makes, and another node put into it: numbers. -/
namespace Go.Proofs.Ytmbcfijhlpeddaa
open Go.ChangeShapes Go.WideShapes Go.ChangeAt Go.RowKit
set_option linter.unusedVariables false
set_option linter.unusedSimpArgs false
/-- How many are below some nodes. -/
def kin : List Nd → Nat
  | [] => 0
  | d :: q => d.ks.cnt + kin q
theorem kin_append : ∀ a b : List Nd, kin (a ++ b) = kin a + kin b
  | [], b => by simp [kin]
  | d :: a, b => by simp [kin, kin_append a b]; omega
theorem Fo.top_kin : ∀ f : Fo, f.cnt = f.len + kin f.top
  | .nil => rfl
  | .cons _ _ ks r => by have := Fo.top_kin r; simp only [Fo.cnt, Fo.len, Fo.top, kin]; omega
/-- Where the kids of the j-th node begin. -/
def pos : Nat → List Nd → Nat → Nat
  | m, _, 0 => m
  | m, [], _ + 1 => m
  | m, d :: q, j + 1 => pos (m + d.ks.len) q j
theorem pos_zero (m : Nat) (q : List Nd) : pos m q 0 = m := by cases q <;> rfl
theorem pos_succ : ∀ (q : List Nd) (m j : Nat) (d : Nd), q[j]? = some d → pos m q (j + 1) = pos m q j + d.ks.len
  | [], _, _, _, h => by simp at h
  | x :: q, m, 0, d, h => by
    obtain rfl : x = d := by simpa using h
    show pos (m + x.ks.len) q 0 = pos m (x :: q) 0 + x.ks.len
    rw [pos_zero, pos_zero]
  | x :: q, m, j + 1, d, h => by
    have := pos_succ q (m + x.ks.len) j d (by simpa using h)
    exact this
theorem pos_append : ∀ (q r : List Nd) (m j : Nat), j ≤ q.length → pos m (q ++ r) j = pos m q j
  | q, r, m, 0, _ => by rw [pos_zero, pos_zero]
  | [], r, m, j + 1, h => by simp at h
  | x :: q, r, m, j + 1, h => pos_append q r (m + x.ks.len) j (by simpa using h)
theorem pos_next (q : List Nd) (m j : Nat) : pos m q j ≤ pos m q (j + 1) := by
  induction q generalizing m j with
  | nil => cases j <;> exact Nat.le_refl _
  | cons x q ih =>
    cases j with
    | zero => show m ≤ pos (m + x.ks.len) q 0; rw [pos_zero]; omega
    | succ j => exact ih (m + x.ks.len) j
theorem pos_le (q : List Nd) (m : Nat) {j i : Nat} (h : j ≤ i) : pos m q j ≤ pos m q i := by
  induction i with
  | zero => obtain rfl : j = 0 := by omega
            exact Nat.le_refl _
  | succ i ih =>
    by_cases hj : j = i + 1
    · subst hj; exact Nat.le_refl _
    · exact Nat.le_trans (ih (by omega)) (pos_next q m i)
theorem pos_ge (q : List Nd) (m j : Nat) : m ≤ pos m q j := by have := pos_le q m (Nat.zero_le j); rwa [pos_zero] at this
/-- Who has kids lies ahead of them. -/
def Rises (m : Nat) (q : List Nd) : Prop := ∀ j d, q[j]? = some d → 0 < d.ks.len → j < pos m q j
/-- e is j, or lies below it. -/
inductive Sub (m : Nat) (q : List Nd) (j : Nat) : Nat → Prop where
  | refl : Sub m q j j
  | step {p e : Nat} (d : Nd) (h : Sub m q j p) (hp : q[p]? = some d) (h1 : pos m q p ≤ e) (h2 : e < pos m q p + d.ks.len) : Sub m q j e
theorem Sub.le {m : Nat} {q : List Nd} (hR : Rises m q) {j e : Nat} (h : Sub m q j e) : j ≤ e := by
  induction h with
  | refl => exact Nat.le_refl _
  | step d _ hp h1 h2 ih => have := hR _ d hp (by omega); omega
theorem Sub.front {m : Nat} {q : List Nd} {j c e : Nat} {d : Nd} (hj : q[j]? = some d) (h1 : pos m q j ≤ c) (h2 : c < pos m q j + d.ks.len) (h : Sub m q c e) : Sub m q j e := by
  induction h with
  | refl => exact .step d .refl hj h1 h2
  | step d' _ hp g1 g2 ih => exact .step d' ih hp g1 g2
theorem parent_one {m : Nat} {q : List Nd} {p p' e : Nat} {d d' : Nd} (hp : q[p]? = some d) (hp' : q[p']? = some d') (h1 : pos m q p ≤ e) (h2 : e < pos m q p + d.ks.len) (h1' : pos m q p' ≤ e) (h2' : e < pos m q p' + d'.ks.len) : p = p' := by
  rcases Nat.lt_trichotomy p p' with h | h | h
  · have := pos_le q m (show p + 1 ≤ p' from h); rw [pos_succ q m p d hp] at this; omega
  · exact h
  · have := pos_le q m (show p' + 1 ≤ p from h); rw [pos_succ q m p' d' hp'] at this; omega
theorem Sub.comp {m : Nat} {q : List Nd} {a b e : Nat} (ha : Sub m q a e) : Sub m q b e → Sub m q a b ∨ Sub m q b a := by
  induction ha with
  | refl => exact fun h => .inr h
  | step d h0 hp h1 h2 ih =>
    intro hb
    cases hb with
    | refl => exact .inl (.step d h0 hp h1 h2)
    | step d' h' hp' h1' h2' =>
      obtain rfl := parent_one hp hp' h1 h2 h1' h2'
      exact ih h'
theorem sibs_kids {m : Nat} {q : List Nd} (hR : Rises m q) {p : Nat} {d : Nd} (hp : q[p]? = some d) {a b e : Nat} (a1 : pos m q p ≤ a) (a2 : a < pos m q p + d.ks.len) (b1 : pos m q p ≤ b) (b2 : b < pos m q p + d.ks.len) (hne : a ≠ b) (ha : Sub m q a e) (hb : Sub m q b e) : False := by
  have key : ∀ x y, pos m q p ≤ x → pos m q p ≤ y → y < pos m q p + d.ks.len → x ≠ y → Sub m q x y → False := by
    intro x y x1 y1 y2 hxy h
    cases h with
    | refl => exact hxy rfl
    | step d' h' hp' h1' h2' =>
      obtain rfl := parent_one hp hp' y1 y2 h1' h2'
      have := h'.le hR
      have := hR _ d hp (by omega)
      omega
  rcases ha.comp hb with h | h
  · exact key a b a1 b1 b2 hne h
  · exact key b a b1 a1 a2 (Ne.symm hne) h
theorem sibs_top {m : Nat} {q : List Nd} {a b e : Nat} (a2 : a < m) (b2 : b < m) (hne : a ≠ b) (ha : Sub m q a e) (hb : Sub m q b e) : False := by
  have key : ∀ x y, y < m → x ≠ y → Sub m q x y → False := by
    intro x y y2 hxy h
    cases h with
    | refl => exact hxy rfl
    | step d' h' hp' h1' h2' => have := pos_ge q m; rename_i p; have := pos_ge q m p; omega
  rcases ha.comp hb with h | h
  · exact key a b b2 hne h
  · exact key b a a2 (Ne.symm hne) h
/-- A row's nodes stand from place s on. -/
def Ly (q : List Nd) (f : Fo) (s : Nat) : Prop := ∀ t, t < f.len → q[s + t]? = some ⟨f.k t, f.n t, f.kids t⟩
theorem Ly.tail {q : List Nd} {k n : Int} {ks r : Fo} {s : Nat} (h : Ly q (.cons k n ks r) s) : Ly q r (s + 1) := fun t ht => by
  have := h (t + 1) (by show t + 1 < r.len + 1; omega)
  rw [show s + 1 + t = s + (t + 1) by omega]
  exact this
/-- The value of a row of kids in block F. -/
def kidv (F s : Nat) : Nat → Value
  | 0 => .slice none 0 0
  | l + 1 => .slice (some ⟨F, s * 3, none⟩) (l + 1) (l + 1)
theorem kidv_kids {w : World} {lim F s : Nat} {f : Fo} (hm : f.len ≤ maxLen) (h : f.At w lim F (s * 3)) : Kids w lim (kidv F s f.len) f := by
  cases hf : f.len with
  | zero => exact ⟨none, 0, by rw [hf]; rfl, by omega, by unfold maxLen; omega, .inl hf⟩
  | succ l => exact ⟨some ⟨F, s * 3, none⟩, l + 1, by rw [hf]; rfl, by omega, by omega, .inr ⟨F, s * 3, rfl, h⟩⟩
/-- One node in its place. -/
def NodeAt (w : World) (lim F s : Nat) (k n : Int) (ks : Fo) : Prop := w.cell? ⟨F, s * 3, none⟩ = some (.int .i64 k) ∧ w.cell? ⟨F, s * 3 + 1, none⟩ = some (.int .i64 n) ∧ ∃ v, w.cell? ⟨F, s * 3 + 2, none⟩ = some v ∧ Kids w lim v ks
theorem at_of_nodes {w : World} {lim F : Nat} (hF : F < lim) : ∀ (f : Fo) (s : Nat), (∀ t, t < f.len → NodeAt w lim F (s + t) (f.k t) (f.n t) (f.kids t)) → f.At w lim F (s * 3)
  | .nil, _, _ => trivial
  | .cons k n ks r, s, h => by
    obtain ⟨c0, c1, v, c2, a, c, rfl, h1, h2, h3⟩ := h 0 (by show 0 < r.len + 1; omega)
    refine ⟨hF, c0, c1, ⟨a, c, c2, h1, h2, h3⟩, ?_⟩
    have := at_of_nodes hF r (s + 1) (fun t ht => by
      have := h (t + 1) (by show t + 1 < r.len + 1; omega)
      rw [show s + 1 + t = s + (t + 1) by omega]
      exact this)
    rw [show s * 3 + 3 = (s + 1) * 3 by omega]
    exact this
/-- All nodes lie in block F, but for those that are not ok. -/
def Laid (w : World) (F m : Nat) (q : List Nd) (ok : Nat → Prop) : Prop := ∀ j d, ok j → q[j]? = some d → w.cell? ⟨F, j * 3, none⟩ = some (.int .i64 d.k) ∧ w.cell? ⟨F, j * 3 + 1, none⟩ = some (.int .i64 d.n) ∧ w.cell? ⟨F, j * 3 + 2, none⟩ = some (kidv F (pos m q j) d.ks.len)
/-- Each one's kids stand where they begin. -/
def Full (m : Nat) (q : List Nd) : Prop := ∀ j d, q[j]? = some d → Ly q d.ks (pos m q j) ∧ d.ks.len ≤ maxLen
theorem laid_at {w : World} {lim F m : Nat} {q : List Nd} {ok : Nat → Prop} (hF : F < lim) (hL : Laid w F m q ok) (hf : Full m q) : ∀ (f : Fo) (s : Nat), Ly q f s → (∀ t, t < f.len → ∀ x, Sub m q (s + t) x → ok x) → f.At w lim F (s * 3)
  | .nil, _, _, _ => trivial
  | .cons k n ks r, s, h, hok => by
    have h0 : q[s]? = some ⟨k, n, ks⟩ := h 0 (by show 0 < r.len + 1; omega)
    obtain ⟨c0, c1, c2⟩ := hL s _ (hok 0 (by show 0 < r.len + 1; omega) _ .refl) h0
    obtain ⟨l1, l2⟩ := hf s _ h0
    have hk := laid_at hF hL hf ks (pos m q s) l1 (fun t ht x hx => hok 0 (by show 0 < r.len + 1; omega) x (Sub.front h0 (Nat.le_add_right _ _) (Nat.add_lt_add_left ht _) hx))
    obtain ⟨a, c, e, h1, h2, h3⟩ := kidv_kids l2 hk
    refine ⟨hF, c0, c1, ⟨a, c, by rw [c2]; exact congrArg some e, h1, h2, h3⟩, ?_⟩
    have := laid_at hF hL hf r (s + 1) h.tail (fun t ht x hx => hok (t + 1) (by show t + 1 < r.len + 1; omega) x (by rw [show s + (t + 1) = s + 1 + t by omega]; exact hx))
    rw [show s * 3 + 3 = (s + 1) * 3 by omega]
    exact this
end Go.Proofs.Ytmbcfijhlpeddaa
/- Nodes level by level: how the list of all nodes grows: numbers. -/
namespace Go.Proofs.Ytmbcfijhlpeddaa
open Go.ChangeShapes Go.WideShapes Go.ChangeAt Go.RowKit
set_option linter.unusedVariables false
set_option linter.unusedSimpArgs false
theorem Ly.append {q r : List Nd} {f : Fo} {s : Nat} (h : Ly q f s) : Ly (q ++ r) f s := fun t ht => by
  have := h t ht
  rw [List.getElem?_append_left (List.getElem?_eq_some_iff.1 this).1]
  exact this
theorem Ly.of_top (q : List Nd) (f : Fo) : Ly (q ++ f.top) f q.length := fun t ht => by
  rw [List.getElem?_append_right (by omega), show q.length + t - q.length = t by omega]
  exact Fo.top_at f t ht
/-- The list q of nodes, behind i of them. -/
structure Lv (f : Fo) (q : List Nd) (i : Nat) : Prop where
  top : Ly q f 0
  le : i ≤ q.length
  cnt : q.length + kin (q.drop i) = f.cnt
  nx : pos f.len q i = q.length
  ly : ∀ j d, j < i → q[j]? = some d → Ly q d.ks (pos f.len q j)
  up : ∀ j, j < i → j < pos f.len q j
theorem Lv.start (f : Fo) : Lv f f.top 0 := by
  refine ⟨fun t ht => ?_, Nat.zero_le _, ?_, ?_, fun j d h => by omega, fun j h => by omega⟩
  · rw [Nat.zero_add]; exact Fo.top_at f t ht
  · rw [List.drop_zero, Fo.top_len]; exact (Fo.top_kin f).symm
  · rw [pos_zero, Fo.top_len]
theorem drop_at {q : List Nd} {i : Nat} {d : Nd} (hd : q[i]? = some d) : q.drop i = d :: q.drop (i + 1) := by
  obtain ⟨h1, h2⟩ := List.getElem?_eq_some_iff.1 hd
  rw [← h2]; exact List.drop_eq_getElem_cons h1
theorem Lv.room {f : Fo} {q : List Nd} {i : Nat} (h : Lv f q i) {d : Nd} (hd : q[i]? = some d) : q.length + d.ks.len ≤ f.cnt := by
  have h1 := h.cnt
  have h2 := Fo.top_kin d.ks
  rw [drop_at hd, kin] at h1
  omega
theorem Lv.step {f : Fo} {q : List Nd} {i : Nat} (h : Lv f q i) {d : Nd} (hd : q[i]? = some d) : Lv f (q ++ d.ks.top) (i + 1) := by
  have hlt := (List.getElem?_eq_some_iff.1 hd).1
  have hdi : (q ++ d.ks.top)[i]? = some d := by rw [List.getElem?_append_left hlt]; exact hd
  have hp : pos f.len (q ++ d.ks.top) i = q.length := by rw [pos_append _ _ _ _ h.le]; exact h.nx
  refine ⟨h.top.append, by simp; omega, ?_, ?_, fun j e hj he => ?_, fun j hj => ?_⟩
  · have h1 := h.cnt
    have h2 := Fo.top_kin d.ks
    rw [drop_at hd, kin] at h1
    rw [List.drop_append_of_le_length (by omega), kin_append, List.length_append, Fo.top_len]
    omega
  · rw [pos_succ _ _ _ _ hdi, hp, List.length_append, Fo.top_len]
  · by_cases e1 : j = i
    · subst e1
      rw [hdi] at he; cases he
      rw [hp]
      exact Ly.of_top q _
    · have hj2 : j < q.length := by omega
      rw [List.getElem?_append_left hj2] at he
      rw [pos_append _ _ _ _ (by omega)]
      exact (h.ly j e (by omega) he).append
  · by_cases e1 : j = i
    · subst e1; rw [hp]; exact hlt
    · rw [pos_append _ _ _ _ (by omega)]
      exact h.up j (by omega)
theorem Lv.lens {f : Fo} {q : List Nd} {i : Nat} (h : Lv f q i) : q.length ≤ f.cnt := by have := h.cnt; omega
theorem Ly.len {q : List Nd} {f : Fo} {s : Nat} (h : Ly q f s) : f.len ≤ q.length := by
  cases hf : f.len with
  | zero => omega
  | succ l =>
    have := (List.getElem?_eq_some_iff.1 (h l (by omega))).1
    omega
theorem Lv.done {f : Fo} {q : List Nd} (h : Lv f q q.length) (hC : f.cnt ≤ 1048576) : q.length = f.cnt ∧ Full f.len q ∧ Rises f.len q := by
  have h1 := h.cnt
  rw [List.drop_length] at h1
  refine ⟨by simpa [kin] using h1, fun j d hj => ?_, fun j d hj _ => h.up j (List.getElem?_eq_some_iff.1 hj).1⟩
  have := h.ly j d (List.getElem?_eq_some_iff.1 hj).1 hj
  have h2 := this.len
  have h3 := h.lens
  exact ⟨this, by unfold maxLen; omega⟩
end Go.Proofs.Ytmbcfijhlpeddaa
