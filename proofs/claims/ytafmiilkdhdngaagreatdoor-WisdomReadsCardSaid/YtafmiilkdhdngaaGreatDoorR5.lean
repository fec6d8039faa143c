/- Put together by program (merge2.py): Sym Syo. -/
import Derived.Deep.DeepCutAuto
import Derived.Deep.CutBlock
import Derived.Test.YtafmiilkdhdngaaGreatDoorR4
/- symMerge in place. -/
namespace Go.Proofs.YtafmiilkdhdngaaGreatDoor
open Go.ChangeShapes Go.WideShapes Go.ChangeAt Go.RowKit
set_option linter.unusedVariables false
set_option linter.unusedSimpArgs false
attribute [local go_sem ↓] Go.wp_at_zero Go.wp_at_succ
set_option maxRecDepth 100000 in
set_option maxHeartbeats 8000000 in
theorem sym_big (K B : Nat) (ih : ∀ k, k < K → SymOk k B) (a m b g N c : Nat) (T : TypeId) (pre P Q post : List E5) (W : World) (hK : P.length + Q.length ≤ K) (hS : Srtr W B) (hne : B ≠ g) (ha : pre.length = a) (hm : pre.length + P.length = m) (hb : pre.length + P.length + Q.length = b) (hP : 2 ≤ P.length) (hQ : 2 ≤ Q.length) (hN : N = pre.length + P.length + Q.length + post.length) (hsm : N ≤ 1000000) (hc : N ≤ c ∧ c ≤ maxLen)
    (hform : Slv (pre ++ (P ++ (Q ++ post)))) (h : RowE W g T (pre ++ (P ++ (Q ++ post)))) (hu1 : Srt.Up elt P) (hu2 : Srt.Up elt Q) :
    Calls Tryz.prog 99 #[.slice (some ⟨g, 0, none⟩) N c, .int .i64 a, .int .i64 m, .int .i64 b, .func (.func 62) #[] #[.pointer (some ⟨B, 0, none⟩)]] W fun e w' => e = .returned (.tuple #[]) ∧ But W w' g ∧ RowE w' g T (pre ++ (Srt.mrg elt P Q ++ post)) := by
  have w1 : IntKind.i64.wrap ((m : Int) - (a : Int)) = (P.length : Int) := by rw [IntWalk.i64_in _ (by omega)]; omega
  have w2 : IntKind.i64.wrap ((b : Int) - (m : Int)) = (Q.length : Int) := by rw [IntWalk.i64_in _ (by omega)]; omega
  have d1 : ((P.length : Int) == 1) = false := by rw [beq_eq_false_iff_ne]; omega
  have d2 : ((Q.length : Int) == 1) = false := by rw [beq_eq_false_iff_ne]; omega
  have d1' : (P.length == 1) = false := by rw [beq_eq_false_iff_ne]; omega
  have d2' : (Q.length == 1) = false := by rw [beq_eq_false_iff_ne]; omega
  obtain ⟨mid, hmid⟩ : ∃ mid, (a + b) / 2 = mid := ⟨_, rfl⟩
  obtain ⟨p, hp⟩ : ∃ p, mid + m = p + 1 := ⟨mid + m - 1, by omega⟩
  obtain ⟨n, hn⟩ : ∃ n, p + 1 = n := ⟨_, rfl⟩
  have hbN : b ≤ N := by omega
  have v1 : IntKind.i64.wrap ((a : Int) + (b : Int)) = ((a + b : Nat) : Int) := by rw [IntWalk.i64_in _ (by omega)]; omega
  have vu : IntKind.u64.wrap ((a : Int) + (b : Int)) = ((a + b : Nat) : Int) := by rw [IntWalk.u64_in _ (by omega)]; omega
  have vm0 : IntKind.i64.wrap (IntKind.u64.wrap ((a : Int) + (b : Int)) / 2) = (mid : Int) := by rw [vu, IntWalk.i64_in _ (by omega)]; omega
  have vm : wrap64 (IntKind.u64.wrap ((a : Int) + (b : Int)) / 2) = (mid : Int) := (IntWalk.i64_left _).symm.trans vm0
  have HVM0 := Lib.hid vm0
  have HVM := Lib.hid vm
  clear vu vm0 vm
  have vn : IntKind.i64.wrap ((mid : Int) + (m : Int)) = (n : Int) := by rw [IntWalk.i64_in _ (by omega)]; omega
  have vp : IntKind.i64.wrap ((n : Int) - 1) = (p : Int) := by rw [IntWalk.i64_in _ (by omega)]; omega
  obtain ⟨s0, hs0⟩ : ∃ s0, (if mid < m then p + 1 - b else a) = s0 := ⟨_, rfl⟩
  obtain ⟨r0, hr0⟩ : ∃ r0, (if mid < m then mid else m) = r0 := ⟨_, rfl⟩
  have NU : Nums a m b P.length Q.length mid p s0 r0 := ⟨by omega, by omega, hmid, hp, hP, hQ, hs0.symm, hr0.symm⟩
  have HNU := Lib.hid NU
  have HU1 := Lib.hid hu1
  have HU2 := Lib.hid hu2
  have HS := Lib.hid hS
  have HH := Lib.hid h
  have IH := Lib.hid ih
  have HSl := Lib.hid hform
  have HC0 : Hid (Cut P Q a m p s0 r0 s0 r0) := Lib.hid ⟨Nat.le_refl _, NU.bd.2.1, Nat.le_refl _, fun c x y h1 h2 => by omega, fun c x y h1 h2 => by omega⟩
  have HL := Lib.hid (show pre.length = a ∧ a + P.length = m ∧ m + Q.length = b ∧ N = b + post.length ∧ P.length + Q.length ≤ K from ⟨ha, by omega, by omega, by omega, hK⟩)
  by_cases hmm : mid < m
  · have vs : IntKind.i64.wrap ((n : Int) - (b : Int)) = (s0 : Int) := by rw [if_pos hmm] at hs0; rw [IntWalk.i64_in _ (by omega)]; omega
    have dm : decide ((m : Int) > (mid : Int)) = true := decide_eq_true (by omega)
    have dm' : decide (mid < m) = true := decide_eq_true hmm
    obtain rfl : mid = r0 := by rw [if_pos hmm] at hr0; exact hr0
    clear ih hS h hform hu1 hu2 ha hm hb hN hK hP hQ hmid hp NU hmm
    have HN1 := Lib.hid hn
    clear hn hs0 hr0
    have vm0 := HVM0.out
    have vm := HVM.out
    go_enter Tryz.func99, Tryz.ntmps99
    go_wp2_with fail
    clear vm vm0 v1 vn vp w1 w2 HVM HVM0
    go_loopw [20, 21, 23] (fun s r _ wr => ∃ ns nr : Nat, s = .int .i64 ns ∧ r = .int .i64 nr ∧ Hid (Cut P Q a m p s0 mid ns nr) ∧ Hid (Below W.heap.size W wr)) (fun s r _ _ => (intOf r).toNat - (intOf s).toNat)
    case atStart => exact ⟨s0, mid, rfl, rfl, HC0, Lib.hid (Below.refl _ _)⟩
    case round =>
      obtain ⟨ns, nr, rfl, rfl, HC, HB⟩ := hrel
      have hCb := HC.out
      have hbd := HNU.out.bd
      have hLL := HL.out
      have e1 := HNU.out.em
      have e2 := HNU.out.eb
      have e3 := HNU.out.ep
      have i2 := HNU.out.i2
      have j2 := HNU.out.j2
      have c1 := hCb.b1
      have c2 := hCb.b2
      have c3 := hCb.b3
      by_cases hlt : ns < nr
      case neg =>
        obtain rfl : ns = nr := by omega
        have d3 : decide ((ns : Int) < (ns : Int)) = false := decide_eq_false (by omega)
        have bd := HNU.out.bd
        obtain ⟨en, hen⟩ : ∃ en, p + 1 - ns = en := ⟨_, rfl⟩
        have wE : IntKind.i64.wrap ((n : Int) - (ns : Int)) = (en : Int) := by have := HN1.out; rw [IntWalk.i64_in _ (by omega)]; omega
        obtain ⟨R1, R2, hSR⟩ := sym_rest K B IH.out a m b mid p s0 mid ns g N c T pre P Q post W hCb HNU.out HU1.out HU2.out (by omega) HS.out hne hLL.1 (by omega) hsm hc HSl.out
        rw [hen] at hSR
        obtain ⟨R3, hR3⟩ : ∃ R3, pre ++ (Srt.mrg elt P Q ++ post) = R3 := ⟨_, rfl⟩
        rw [hR3] at hSR
        have HR3 := Lib.hid hR3
        clear hR3
        obtain ⟨q1, q2, q3, q4, q5, q6⟩ := hSR
        have RT := Lib.hid q1
        have RN := Lib.hid q2
        have S1 := Lib.hid q3
        have N1 := Lib.hid q4
        have S2 := Lib.hid q5
        have N2 := Lib.hid q6
        have HR0 := Lib.hid (HH.out.below HB.out)
        have HB0 := Lib.hid (But.of_below g HB.out)
        generalize pre ++ (P ++ (Q ++ post)) = R0 at *
        clear q1 q2 q3 q4 q5 q6 hCb hbd hLL e1 e2 e3 i2 j2 c1 c2 c3 bd hen HC IH HS HU1 HU2 HSl HC0 HNU HL HH HB
        go_upto_region 39 with fail
        go_cut [185] from 178 to 185 (fun x wx => x = .bool (decide (ns < m ∧ m < en)) ∧ Hid (RowE wx g T R0) ∧ Hid (But W wx g))
        case first =>
          by_cases k1 : ns < m
          · have z1 : decide ((ns : Int) < (m : Int)) = true := decide_eq_true (by omega)
            have z1' : decide (ns < m) = true := decide_eq_true k1
            have E := Lib.hid (show decide (ns < m ∧ m < en) = decide (m < en) from decide_eq_decide.2 (by omega))
            (try go_wp2_with fail)
            go_meet
            case rel => exact ⟨by rw [E.out], HR0, HB0⟩
          · have z1 : decide ((ns : Int) < (m : Int)) = false := decide_eq_false (by omega)
            have z1' : decide (ns < m) = false := decide_eq_false k1
            have E := Lib.hid (show decide (ns < m ∧ m < en) = false from decide_eq_false (by omega))
            (try go_wp2_with fail)
            go_meet
            case rel => exact ⟨by rw [E.out], HR0, HB0⟩
        case rest =>
          obtain ⟨rfl, g0, g1⟩ := hcut
          clear HR0 HB0
          go_upto_if 185 with fail
          go_cut [] (fun wx => Hid (RowE wx g T R1) ∧ Hid (But W wx g))
          case first =>
            by_cases kk : ns < m ∧ m < en
            · have z1 : decide (ns < m ∧ m < en) = true := decide_eq_true kk
              have CC := RT.out _ g0.out kk.1 kk.2
              rw [z1]
              go_wp2_with fail
              refine CC.mono ?_
              rintro e w1 ⟨rfl, hb, hr⟩
              have h1 := Lib.hid hr
              have h2 := Lib.hid (g1.out.trans hb)
              clear CC hb hr
              (try go_wp2_with fail)
              go_meet
              case rel => exact ⟨h1, h2⟩
            · have z1 : decide (ns < m ∧ m < en) = false := decide_eq_false kk
              rw [z1]
              have h1 := Lib.hid (show RowE wc g T R1 by rw [← RN.out kk]; exact g0.out)
              (try go_wp2_with fail)
              go_meet
              case rel => exact ⟨h1, g1⟩
          case rest =>
            obtain ⟨g2, g3⟩ := hcut
            clear g0 g1 RT RN
            go_upto_region 41 with fail
            go_cut [199] from 192 to 199 (fun x wx => x = .bool (decide (a < ns ∧ ns < mid)) ∧ Hid (RowE wx g T R1) ∧ Hid (But W wx g))
            case first =>
              by_cases k1 : a < ns
              · have z1 : decide ((a : Int) < (ns : Int)) = true := decide_eq_true (by omega)
                have z1' : decide (a < ns) = true := decide_eq_true k1
                have E := Lib.hid (show decide (a < ns ∧ ns < mid) = decide (ns < mid) from decide_eq_decide.2 (by omega))
                (try go_wp2_with fail)
                go_meet
                case rel => exact ⟨by rw [E.out], g2, g3⟩
              · have z1 : decide ((a : Int) < (ns : Int)) = false := decide_eq_false (by omega)
                have z1' : decide (a < ns) = false := decide_eq_false k1
                have E := Lib.hid (show decide (a < ns ∧ ns < mid) = false from decide_eq_false (by omega))
                (try go_wp2_with fail)
                go_meet
                case rel => exact ⟨by rw [E.out], g2, g3⟩
            case rest =>
              obtain ⟨rfl, g4, g5⟩ := hcut
              clear g2 g3
              go_upto_if 199 with fail
              go_cut [] (fun wx => Hid (RowE wx g T R2) ∧ Hid (But W wx g))
              case first =>
                by_cases kk : a < ns ∧ ns < mid
                · have z1 : decide (a < ns ∧ ns < mid) = true := decide_eq_true kk
                  have CC := S1.out _ g5.out g4.out kk.1 kk.2
                  rw [z1]
                  go_wp2_with fail
                  refine CC.mono ?_
                  rintro e w1 ⟨rfl, hb, hr⟩
                  have h1 := Lib.hid hr
                  have h2 := Lib.hid (g5.out.trans hb)
                  clear CC hb hr
                  (try go_wp2_with fail)
                  go_meet
                  case rel => exact ⟨h1, h2⟩
                · have z1 : decide (a < ns ∧ ns < mid) = false := decide_eq_false kk
                  rw [z1]
                  have h1 := Lib.hid (show RowE wc g T R2 by rw [← N1.out kk]; exact g4.out)
                  (try go_wp2_with fail)
                  go_meet
                  case rel => exact ⟨h1, g5⟩
              case rest =>
                obtain ⟨g6, g7⟩ := hcut
                clear g4 g5 S1 N1
                go_upto_region 43 with fail
                go_cut [213] from 206 to 213 (fun x wx => x = .bool (decide (mid < en ∧ en < b)) ∧ Hid (RowE wx g T R2) ∧ Hid (But W wx g))
                case first =>
                  by_cases k1 : mid < en
                  · have z1 : decide ((mid : Int) < (en : Int)) = true := decide_eq_true (by omega)
                    have z1' : decide (mid < en) = true := decide_eq_true k1
                    have E := Lib.hid (show decide (mid < en ∧ en < b) = decide (en < b) from decide_eq_decide.2 (by omega))
                    (try go_wp2_with fail)
                    go_meet
                    case rel => exact ⟨by rw [E.out], g6, g7⟩
                  · have z1 : decide ((mid : Int) < (en : Int)) = false := decide_eq_false (by omega)
                    have z1' : decide (mid < en) = false := decide_eq_false k1
                    have E := Lib.hid (show decide (mid < en ∧ en < b) = false from decide_eq_false (by omega))
                    (try go_wp2_with fail)
                    go_meet
                    case rel => exact ⟨by rw [E.out], g6, g7⟩
                case rest =>
                  obtain ⟨rfl, g8, g9⟩ := hcut
                  clear g6 g7
                  by_cases kk : mid < en ∧ en < b
                  · have z1 : decide (mid < en ∧ en < b) = true := decide_eq_true kk
                    have CC := S2.out _ g9.out g8.out kk.1 kk.2
                    rw [z1]
                    go_wp2_with fail
                    refine CC.mono ?_
                    rintro e w1 ⟨rfl, hb, hr⟩
                    have h1 := Lib.hid hr
                    have h2 := Lib.hid (g9.out.trans hb)
                    clear CC hb hr
                    (try go_wp2_with fail)
                    go_end0
                    exact ⟨rfl, h2.out, by rw [HR3.out]; exact h1.out⟩
                  · have z1 : decide (mid < en ∧ en < b) = false := decide_eq_false kk
                    rw [z1]
                    have h1 := Lib.hid (show RowE wc g T R3 by rw [← N2.out kk]; exact g8.out)
                    (try go_wp2_with fail)
                    go_end0
                    exact ⟨rfl, g9.out, by rw [HR3.out]; exact h1.out⟩
      case pos =>
        have d3 : decide ((ns : Int) < (nr : Int)) = true := decide_eq_true (by omega)
        have d3' : decide (ns < nr) = true := decide_eq_true hlt
        obtain ⟨cc, hcc⟩ : ∃ cc, (ns + nr) / 2 = cc := ⟨_, rfl⟩
        obtain ⟨q, hq⟩ : ∃ q, p - cc = q := ⟨_, rfl⟩
        have hk1 : ns ≤ cc ∧ cc < nr := by omega
        have hqm : m ≤ q ∧ q < b := by omega
        have k1 : cc - a < P.length := by omega
        have k2 : q - m < Q.length := by omega
        have u1 : IntKind.i64.wrap ((ns : Int) + (nr : Int)) = ((ns + nr : Nat) : Int) := by rw [IntWalk.i64_in _ (by omega)]; omega
        have uu : IntKind.u64.wrap ((ns : Int) + (nr : Int)) = ((ns + nr : Nat) : Int) := by rw [IntWalk.u64_in _ (by omega)]; omega
        have u2 : IntKind.i64.wrap (IntKind.u64.wrap ((ns : Int) + (nr : Int)) / 2) = (cc : Int) := by rw [uu, IntWalk.i64_in _ (by omega)]; omega
        have u3 : wrap64 (IntKind.u64.wrap ((ns : Int) + (nr : Int)) / 2) = (cc : Int) := (IntWalk.i64_left _).symm.trans u2
        have HX2 := Lib.hid u2
        have HX3 := Lib.hid u3
        clear uu u2 u3
        have u4 : IntKind.i64.wrap ((p : Int) - (cc : Int)) = (q : Int) := by rw [IntWalk.i64_in _ (by omega)]; omega
        have hqN : q < N := by omega
        have hcN : cc < N := by omega
        have hq0 : (0 : Int) ≤ (q : Int) := by omega
        have hqI : (q : Int) < (N : Int) := by omega
        have hc0 : (0 : Int) ≤ (cc : Int) := by omega
        have hcI : (cc : Int) < (N : Int) := by omega
        obtain ⟨x, hx⟩ : ∃ x, P[cc - a]? = some x := ⟨_, List.getElem?_eq_getElem k1⟩
        obtain ⟨y, hy⟩ : ∃ y, Q[q - m]? = some y := ⟨_, List.getElem?_eq_getElem k2⟩
        have hfx := HSl.out x (by have := List.mem_of_getElem? hx; simp [this])
        have hfy := HSl.out y (by have := List.mem_of_getElem? hy; simp [this])
        have iX : (pre ++ (P ++ (Q ++ post)))[cc]? = some x := by
          rw [List.getElem?_append_right (by omega), hLL.1, List.getElem?_append_left (by omega)]; exact hx
        have iY : (pre ++ (P ++ (Q ++ post)))[q]? = some y := by
          rw [List.getElem?_append_right (by omega), hLL.1, List.getElem?_append_right (by omega), List.getElem?_append_left (by omega), show q - a - P.length = q - m by omega]; exact hy
        have CLT := Lib.hid (fun (he : elt y x = false) => hCb.left HU1.out HU2.out hk1 hbd.1 ⟨by omega, by omega⟩ hx (by rw [hq]; exact hy) he (b := b) (mid := mid))
        have CRT := Lib.hid (fun (he : elt y x = true) => hCb.right HU1.out HU2.out hk1 hbd.1 hx (by rw [hq]; exact hy) he (b := b) (mid := mid))
        obtain ⟨xa, xb, xk, xn, xv⟩ := x
        obtain ⟨ya, yb, yk, yn, yv⟩ := y
        obtain ⟨xp, xm, xc, hxv⟩ := hfx
        obtain ⟨yp, ym, yc, hyv⟩ := hfy
        simp only at hxv hyv
        subst hxv hyv
        have MK := Lib.hid (fun w' (hb : Below wr.heap.size wr w') => (show w'.cell? ⟨g, q * 5, none⟩ = some (.int .i64 ya) ∧ w'.cell? ⟨g, q * 5 + 1, none⟩ = some (.int .i64 yb) ∧ w'.cell? ⟨g, q * 5 + 2, none⟩ = some (.int .i64 yk) ∧ w'.cell? ⟨g, q * 5 + 3, none⟩ = some (.int .i64 yn) ∧ w'.cell? ⟨g, q * 5 + 4, none⟩ = some (.slice yp ym yc) ∧ w'.cell? ⟨g, cc * 5, none⟩ = some (.int .i64 xa) ∧ w'.cell? ⟨g, cc * 5 + 1, none⟩ = some (.int .i64 xb) ∧ w'.cell? ⟨g, cc * 5 + 2, none⟩ = some (.int .i64 xk) ∧ w'.cell? ⟨g, cc * 5 + 3, none⟩ = some (.int .i64 xn) ∧ w'.cell? ⟨g, cc * 5 + 4, none⟩ = some (.slice xp xm xc) ∧ Below wr.heap.size wr w' from by
          obtain ⟨x0, x1, x2, x3, x4⟩ := (HH.out.below (HB.out.trans (hb.mono HB.out.size))).cells iX
          obtain ⟨y0, y1, y2, y3, y4⟩ := (HH.out.below (HB.out.trans (hb.mono HB.out.size))).cells iY
          exact ⟨y0, y1, y2, y3, y4, x0, x1, x2, x3, x4, hb⟩))
        have KP := Lib.hid (fun (wa w' : World) (hS : wa.cell? ⟨g, q * 5, none⟩ = some (.int .i64 ya) ∧ wa.cell? ⟨g, q * 5 + 1, none⟩ = some (.int .i64 yb) ∧ wa.cell? ⟨g, q * 5 + 2, none⟩ = some (.int .i64 yk) ∧ wa.cell? ⟨g, q * 5 + 3, none⟩ = some (.int .i64 yn) ∧ wa.cell? ⟨g, q * 5 + 4, none⟩ = some (.slice yp ym yc) ∧ wa.cell? ⟨g, cc * 5, none⟩ = some (.int .i64 xa) ∧ wa.cell? ⟨g, cc * 5 + 1, none⟩ = some (.int .i64 xb) ∧ wa.cell? ⟨g, cc * 5 + 2, none⟩ = some (.int .i64 xk) ∧ wa.cell? ⟨g, cc * 5 + 3, none⟩ = some (.int .i64 xn) ∧ wa.cell? ⟨g, cc * 5 + 4, none⟩ = some (.slice xp xm xc) ∧ Below wr.heap.size wr wa) (hb : Below wa.heap.size wa w') => MK.out w' (hS.2.2.2.2.2.2.2.2.2.2.trans (hb.mono hS.2.2.2.2.2.2.2.2.2.2.size)))
        have CL := Lib.hid (fun w' (hb : Below wr.heap.size wr w') => (show Calls Tryz.prog 62 #[.agg #[.int .i64 ya, .int .i64 yb, .int .i64 yk, .int .i64 yn, .slice yp ym yc], .agg #[.int .i64 xa, .int .i64 xb, .int .i64 xk, .int .i64 xn, .slice xp xm xc], .pointer (some ⟨B, 0, none⟩)] w' fun e w'' => e = .returned (.int .i64 (cmpK ya yb xa xb)) ∧ Below w'.heap.size w' w'' from e_clo B ⟨ya, yb, yk, yn, .slice yp ym yc⟩ ⟨xa, xb, xk, xn, .slice xp xm xc⟩ w' (HS.out.below (HB.out.trans (hb.mono HB.out.size)))))
        have hk := cmpK_lt ya yb xa xb
        generalize cmpK ya yb xa xb = z at *
        cases he : Srt.klt (ya, yb) (xa, xb)
        case false =>
          rw [he] at hk
          have hC2 := Lib.hid (CLT.out (by unfold elt; exact he))
          clear hCb hbd hLL e1 e2 e3 i2 j2 c1 c2 c3 hk1 hqm k1 k2 hx hy iX iY CLT CRT he hq
          have HCC := Lib.hid hcc
          clear hcc
          have u2 := HX2.out
          have u3 := HX3.out
          go_wp2_with fail
          clear u1 u2 u3 HX2 HX3
          go_region_held3 (fun w' => w'.cell? ⟨g, q * 5, none⟩ = some (.int .i64 ya) ∧ w'.cell? ⟨g, q * 5 + 1, none⟩ = some (.int .i64 yb) ∧ w'.cell? ⟨g, q * 5 + 2, none⟩ = some (.int .i64 yk) ∧ w'.cell? ⟨g, q * 5 + 3, none⟩ = some (.int .i64 yn) ∧ w'.cell? ⟨g, q * 5 + 4, none⟩ = some (.slice yp ym yc) ∧ w'.cell? ⟨g, cc * 5, none⟩ = some (.int .i64 xa) ∧ w'.cell? ⟨g, cc * 5 + 1, none⟩ = some (.int .i64 xb) ∧ w'.cell? ⟨g, cc * 5 + 2, none⟩ = some (.int .i64 xk) ∧ w'.cell? ⟨g, cc * 5 + 3, none⟩ = some (.int .i64 xn) ∧ w'.cell? ⟨g, cc * 5 + 4, none⟩ = some (.slice xp xm xc) ∧ Below wr.heap.size wr w') (first | exact MK.out _ ((Below.refl _ _).drew) | assumption | (refine KP.out _ _ ?_ hb; first | assumption | exact MK.out _ ((Below.refl _ _).drew))) (first | (go_at_call 62; (with_reducible refine (CL.out _ (by go_split_ands; assumption)).mono ?_); rintro e w' ⟨rfl, hb⟩))
          rename_i hEnd
          obtain ⟨-, -, -, -, -, -, -, -, -, -, hBB⟩ := hEnd
          have HB2 := Lib.hid (HB.out.trans (hBB.mono HB.out.size))
          clear hBB MK KP CL
          go_wp2_with fail
          go_roundw
          case rel => exact ⟨cc + 1, nr, by go_num, rfl, hC2, HB2⟩
          case measure => simp only [intOf]; have := HCC.out; omega
        case true =>
          rw [he] at hk
          have hC2 := Lib.hid (CRT.out (by unfold elt; exact he))
          clear hCb hbd hLL e1 e2 e3 i2 j2 c1 c2 c3 hk1 hqm k1 k2 hx hy iX iY CLT CRT he hq
          have HCC := Lib.hid hcc
          clear hcc
          have u2 := HX2.out
          have u3 := HX3.out
          go_wp2_with fail
          clear u1 u2 u3 HX2 HX3
          go_region_held3 (fun w' => w'.cell? ⟨g, q * 5, none⟩ = some (.int .i64 ya) ∧ w'.cell? ⟨g, q * 5 + 1, none⟩ = some (.int .i64 yb) ∧ w'.cell? ⟨g, q * 5 + 2, none⟩ = some (.int .i64 yk) ∧ w'.cell? ⟨g, q * 5 + 3, none⟩ = some (.int .i64 yn) ∧ w'.cell? ⟨g, q * 5 + 4, none⟩ = some (.slice yp ym yc) ∧ w'.cell? ⟨g, cc * 5, none⟩ = some (.int .i64 xa) ∧ w'.cell? ⟨g, cc * 5 + 1, none⟩ = some (.int .i64 xb) ∧ w'.cell? ⟨g, cc * 5 + 2, none⟩ = some (.int .i64 xk) ∧ w'.cell? ⟨g, cc * 5 + 3, none⟩ = some (.int .i64 xn) ∧ w'.cell? ⟨g, cc * 5 + 4, none⟩ = some (.slice xp xm xc) ∧ Below wr.heap.size wr w') (first | exact MK.out _ ((Below.refl _ _).drew) | assumption | (refine KP.out _ _ ?_ hb; first | assumption | exact MK.out _ ((Below.refl _ _).drew))) (first | (go_at_call 62; (with_reducible refine (CL.out _ (by go_split_ands; assumption)).mono ?_); rintro e w' ⟨rfl, hb⟩))
          rename_i hEnd
          obtain ⟨-, -, -, -, -, -, -, -, -, -, hBB⟩ := hEnd
          have HB2 := Lib.hid (HB.out.trans (hBB.mono HB.out.size))
          clear hBB MK KP CL
          go_wp2_with fail
          go_roundw
          case rel => exact ⟨ns, cc, rfl, rfl, hC2, HB2⟩
          case measure => simp only [intOf]; have := HCC.out; omega
  · have dm : decide ((m : Int) > (mid : Int)) = false := decide_eq_false (by omega)
    have dm' : decide (mid < m) = false := decide_eq_false hmm
    obtain rfl : a = s0 := by rw [if_neg hmm] at hs0; exact hs0
    obtain rfl : m = r0 := by rw [if_neg hmm] at hr0; exact hr0
    clear ih hS h hform hu1 hu2 ha hm hb hN hK hP hQ hmid hp NU hmm
    have HN1 := Lib.hid hn
    clear hn hs0 hr0
    have vm0 := HVM0.out
    have vm := HVM.out
    go_enter Tryz.func99, Tryz.ntmps99
    go_wp2_with fail
    clear vm vm0 v1 vn vp w1 w2 HVM HVM0
    go_loopw [20, 21, 23] (fun s r _ wr => ∃ ns nr : Nat, s = .int .i64 ns ∧ r = .int .i64 nr ∧ Hid (Cut P Q a m p a m ns nr) ∧ Hid (Below W.heap.size W wr)) (fun s r _ _ => (intOf r).toNat - (intOf s).toNat)
    case atStart => exact ⟨a, m, rfl, rfl, HC0, Lib.hid (Below.refl _ _)⟩
    case round =>
      obtain ⟨ns, nr, rfl, rfl, HC, HB⟩ := hrel
      have hCb := HC.out
      have hbd := HNU.out.bd
      have hLL := HL.out
      have e1 := HNU.out.em
      have e2 := HNU.out.eb
      have e3 := HNU.out.ep
      have i2 := HNU.out.i2
      have j2 := HNU.out.j2
      have c1 := hCb.b1
      have c2 := hCb.b2
      have c3 := hCb.b3
      by_cases hlt : ns < nr
      case neg =>
        obtain rfl : ns = nr := by omega
        have d3 : decide ((ns : Int) < (ns : Int)) = false := decide_eq_false (by omega)
        have bd := HNU.out.bd
        obtain ⟨en, hen⟩ : ∃ en, p + 1 - ns = en := ⟨_, rfl⟩
        have wE : IntKind.i64.wrap ((n : Int) - (ns : Int)) = (en : Int) := by have := HN1.out; rw [IntWalk.i64_in _ (by omega)]; omega
        obtain ⟨R1, R2, hSR⟩ := sym_rest K B IH.out a m b mid p a m ns g N c T pre P Q post W hCb HNU.out HU1.out HU2.out (by omega) HS.out hne hLL.1 (by omega) hsm hc HSl.out
        rw [hen] at hSR
        obtain ⟨R3, hR3⟩ : ∃ R3, pre ++ (Srt.mrg elt P Q ++ post) = R3 := ⟨_, rfl⟩
        rw [hR3] at hSR
        have HR3 := Lib.hid hR3
        clear hR3
        obtain ⟨q1, q2, q3, q4, q5, q6⟩ := hSR
        have RT := Lib.hid q1
        have RN := Lib.hid q2
        have S1 := Lib.hid q3
        have N1 := Lib.hid q4
        have S2 := Lib.hid q5
        have N2 := Lib.hid q6
        have HR0 := Lib.hid (HH.out.below HB.out)
        have HB0 := Lib.hid (But.of_below g HB.out)
        generalize pre ++ (P ++ (Q ++ post)) = R0 at *
        clear q1 q2 q3 q4 q5 q6 hCb hbd hLL e1 e2 e3 i2 j2 c1 c2 c3 bd hen HC IH HS HU1 HU2 HSl HC0 HNU HL HH HB
        go_upto_region 39 with fail
        go_cut [185] from 178 to 185 (fun x wx => x = .bool (decide (ns < m ∧ m < en)) ∧ Hid (RowE wx g T R0) ∧ Hid (But W wx g))
        case first =>
          by_cases k1 : ns < m
          · have z1 : decide ((ns : Int) < (m : Int)) = true := decide_eq_true (by omega)
            have z1' : decide (ns < m) = true := decide_eq_true k1
            have E := Lib.hid (show decide (ns < m ∧ m < en) = decide (m < en) from decide_eq_decide.2 (by omega))
            (try go_wp2_with fail)
            go_meet
            case rel => exact ⟨by rw [E.out], HR0, HB0⟩
          · have z1 : decide ((ns : Int) < (m : Int)) = false := decide_eq_false (by omega)
            have z1' : decide (ns < m) = false := decide_eq_false k1
            have E := Lib.hid (show decide (ns < m ∧ m < en) = false from decide_eq_false (by omega))
            (try go_wp2_with fail)
            go_meet
            case rel => exact ⟨by rw [E.out], HR0, HB0⟩
        case rest =>
          obtain ⟨rfl, g0, g1⟩ := hcut
          clear HR0 HB0
          go_upto_if 185 with fail
          go_cut [] (fun wx => Hid (RowE wx g T R1) ∧ Hid (But W wx g))
          case first =>
            by_cases kk : ns < m ∧ m < en
            · have z1 : decide (ns < m ∧ m < en) = true := decide_eq_true kk
              have CC := RT.out _ g0.out kk.1 kk.2
              rw [z1]
              go_wp2_with fail
              refine CC.mono ?_
              rintro e w1 ⟨rfl, hb, hr⟩
              have h1 := Lib.hid hr
              have h2 := Lib.hid (g1.out.trans hb)
              clear CC hb hr
              (try go_wp2_with fail)
              go_meet
              case rel => exact ⟨h1, h2⟩
            · have z1 : decide (ns < m ∧ m < en) = false := decide_eq_false kk
              rw [z1]
              have h1 := Lib.hid (show RowE wc g T R1 by rw [← RN.out kk]; exact g0.out)
              (try go_wp2_with fail)
              go_meet
              case rel => exact ⟨h1, g1⟩
          case rest =>
            obtain ⟨g2, g3⟩ := hcut
            clear g0 g1 RT RN
            go_upto_region 41 with fail
            go_cut [199] from 192 to 199 (fun x wx => x = .bool (decide (a < ns ∧ ns < mid)) ∧ Hid (RowE wx g T R1) ∧ Hid (But W wx g))
            case first =>
              by_cases k1 : a < ns
              · have z1 : decide ((a : Int) < (ns : Int)) = true := decide_eq_true (by omega)
                have z1' : decide (a < ns) = true := decide_eq_true k1
                have E := Lib.hid (show decide (a < ns ∧ ns < mid) = decide (ns < mid) from decide_eq_decide.2 (by omega))
                (try go_wp2_with fail)
                go_meet
                case rel => exact ⟨by rw [E.out], g2, g3⟩
              · have z1 : decide ((a : Int) < (ns : Int)) = false := decide_eq_false (by omega)
                have z1' : decide (a < ns) = false := decide_eq_false k1
                have E := Lib.hid (show decide (a < ns ∧ ns < mid) = false from decide_eq_false (by omega))
                (try go_wp2_with fail)
                go_meet
                case rel => exact ⟨by rw [E.out], g2, g3⟩
            case rest =>
              obtain ⟨rfl, g4, g5⟩ := hcut
              clear g2 g3
              go_upto_if 199 with fail
              go_cut [] (fun wx => Hid (RowE wx g T R2) ∧ Hid (But W wx g))
              case first =>
                by_cases kk : a < ns ∧ ns < mid
                · have z1 : decide (a < ns ∧ ns < mid) = true := decide_eq_true kk
                  have CC := S1.out _ g5.out g4.out kk.1 kk.2
                  rw [z1]
                  go_wp2_with fail
                  refine CC.mono ?_
                  rintro e w1 ⟨rfl, hb, hr⟩
                  have h1 := Lib.hid hr
                  have h2 := Lib.hid (g5.out.trans hb)
                  clear CC hb hr
                  (try go_wp2_with fail)
                  go_meet
                  case rel => exact ⟨h1, h2⟩
                · have z1 : decide (a < ns ∧ ns < mid) = false := decide_eq_false kk
                  rw [z1]
                  have h1 := Lib.hid (show RowE wc g T R2 by rw [← N1.out kk]; exact g4.out)
                  (try go_wp2_with fail)
                  go_meet
                  case rel => exact ⟨h1, g5⟩
              case rest =>
                obtain ⟨g6, g7⟩ := hcut
                clear g4 g5 S1 N1
                go_upto_region 43 with fail
                go_cut [213] from 206 to 213 (fun x wx => x = .bool (decide (mid < en ∧ en < b)) ∧ Hid (RowE wx g T R2) ∧ Hid (But W wx g))
                case first =>
                  by_cases k1 : mid < en
                  · have z1 : decide ((mid : Int) < (en : Int)) = true := decide_eq_true (by omega)
                    have z1' : decide (mid < en) = true := decide_eq_true k1
                    have E := Lib.hid (show decide (mid < en ∧ en < b) = decide (en < b) from decide_eq_decide.2 (by omega))
                    (try go_wp2_with fail)
                    go_meet
                    case rel => exact ⟨by rw [E.out], g6, g7⟩
                  · have z1 : decide ((mid : Int) < (en : Int)) = false := decide_eq_false (by omega)
                    have z1' : decide (mid < en) = false := decide_eq_false k1
                    have E := Lib.hid (show decide (mid < en ∧ en < b) = false from decide_eq_false (by omega))
                    (try go_wp2_with fail)
                    go_meet
                    case rel => exact ⟨by rw [E.out], g6, g7⟩
                case rest =>
                  obtain ⟨rfl, g8, g9⟩ := hcut
                  clear g6 g7
                  by_cases kk : mid < en ∧ en < b
                  · have z1 : decide (mid < en ∧ en < b) = true := decide_eq_true kk
                    have CC := S2.out _ g9.out g8.out kk.1 kk.2
                    rw [z1]
                    go_wp2_with fail
                    refine CC.mono ?_
                    rintro e w1 ⟨rfl, hb, hr⟩
                    have h1 := Lib.hid hr
                    have h2 := Lib.hid (g9.out.trans hb)
                    clear CC hb hr
                    (try go_wp2_with fail)
                    go_end0
                    exact ⟨rfl, h2.out, by rw [HR3.out]; exact h1.out⟩
                  · have z1 : decide (mid < en ∧ en < b) = false := decide_eq_false kk
                    rw [z1]
                    have h1 := Lib.hid (show RowE wc g T R3 by rw [← N2.out kk]; exact g8.out)
                    (try go_wp2_with fail)
                    go_end0
                    exact ⟨rfl, g9.out, by rw [HR3.out]; exact h1.out⟩
      case pos =>
        have d3 : decide ((ns : Int) < (nr : Int)) = true := decide_eq_true (by omega)
        have d3' : decide (ns < nr) = true := decide_eq_true hlt
        obtain ⟨cc, hcc⟩ : ∃ cc, (ns + nr) / 2 = cc := ⟨_, rfl⟩
        obtain ⟨q, hq⟩ : ∃ q, p - cc = q := ⟨_, rfl⟩
        have hk1 : ns ≤ cc ∧ cc < nr := by omega
        have hqm : m ≤ q ∧ q < b := by omega
        have k1 : cc - a < P.length := by omega
        have k2 : q - m < Q.length := by omega
        have u1 : IntKind.i64.wrap ((ns : Int) + (nr : Int)) = ((ns + nr : Nat) : Int) := by rw [IntWalk.i64_in _ (by omega)]; omega
        have uu : IntKind.u64.wrap ((ns : Int) + (nr : Int)) = ((ns + nr : Nat) : Int) := by rw [IntWalk.u64_in _ (by omega)]; omega
        have u2 : IntKind.i64.wrap (IntKind.u64.wrap ((ns : Int) + (nr : Int)) / 2) = (cc : Int) := by rw [uu, IntWalk.i64_in _ (by omega)]; omega
        have u3 : wrap64 (IntKind.u64.wrap ((ns : Int) + (nr : Int)) / 2) = (cc : Int) := (IntWalk.i64_left _).symm.trans u2
        have HX2 := Lib.hid u2
        have HX3 := Lib.hid u3
        clear uu u2 u3
        have u4 : IntKind.i64.wrap ((p : Int) - (cc : Int)) = (q : Int) := by rw [IntWalk.i64_in _ (by omega)]; omega
        have hqN : q < N := by omega
        have hcN : cc < N := by omega
        have hq0 : (0 : Int) ≤ (q : Int) := by omega
        have hqI : (q : Int) < (N : Int) := by omega
        have hc0 : (0 : Int) ≤ (cc : Int) := by omega
        have hcI : (cc : Int) < (N : Int) := by omega
        obtain ⟨x, hx⟩ : ∃ x, P[cc - a]? = some x := ⟨_, List.getElem?_eq_getElem k1⟩
        obtain ⟨y, hy⟩ : ∃ y, Q[q - m]? = some y := ⟨_, List.getElem?_eq_getElem k2⟩
        have hfx := HSl.out x (by have := List.mem_of_getElem? hx; simp [this])
        have hfy := HSl.out y (by have := List.mem_of_getElem? hy; simp [this])
        have iX : (pre ++ (P ++ (Q ++ post)))[cc]? = some x := by
          rw [List.getElem?_append_right (by omega), hLL.1, List.getElem?_append_left (by omega)]; exact hx
        have iY : (pre ++ (P ++ (Q ++ post)))[q]? = some y := by
          rw [List.getElem?_append_right (by omega), hLL.1, List.getElem?_append_right (by omega), List.getElem?_append_left (by omega), show q - a - P.length = q - m by omega]; exact hy
        have CLT := Lib.hid (fun (he : elt y x = false) => hCb.left HU1.out HU2.out hk1 hbd.1 ⟨by omega, by omega⟩ hx (by rw [hq]; exact hy) he (b := b) (mid := mid))
        have CRT := Lib.hid (fun (he : elt y x = true) => hCb.right HU1.out HU2.out hk1 hbd.1 hx (by rw [hq]; exact hy) he (b := b) (mid := mid))
        obtain ⟨xa, xb, xk, xn, xv⟩ := x
        obtain ⟨ya, yb, yk, yn, yv⟩ := y
        obtain ⟨xp, xm, xc, hxv⟩ := hfx
        obtain ⟨yp, ym, yc, hyv⟩ := hfy
        simp only at hxv hyv
        subst hxv hyv
        have MK := Lib.hid (fun w' (hb : Below wr.heap.size wr w') => (show w'.cell? ⟨g, q * 5, none⟩ = some (.int .i64 ya) ∧ w'.cell? ⟨g, q * 5 + 1, none⟩ = some (.int .i64 yb) ∧ w'.cell? ⟨g, q * 5 + 2, none⟩ = some (.int .i64 yk) ∧ w'.cell? ⟨g, q * 5 + 3, none⟩ = some (.int .i64 yn) ∧ w'.cell? ⟨g, q * 5 + 4, none⟩ = some (.slice yp ym yc) ∧ w'.cell? ⟨g, cc * 5, none⟩ = some (.int .i64 xa) ∧ w'.cell? ⟨g, cc * 5 + 1, none⟩ = some (.int .i64 xb) ∧ w'.cell? ⟨g, cc * 5 + 2, none⟩ = some (.int .i64 xk) ∧ w'.cell? ⟨g, cc * 5 + 3, none⟩ = some (.int .i64 xn) ∧ w'.cell? ⟨g, cc * 5 + 4, none⟩ = some (.slice xp xm xc) ∧ Below wr.heap.size wr w' from by
          obtain ⟨x0, x1, x2, x3, x4⟩ := (HH.out.below (HB.out.trans (hb.mono HB.out.size))).cells iX
          obtain ⟨y0, y1, y2, y3, y4⟩ := (HH.out.below (HB.out.trans (hb.mono HB.out.size))).cells iY
          exact ⟨y0, y1, y2, y3, y4, x0, x1, x2, x3, x4, hb⟩))
        have KP := Lib.hid (fun (wa w' : World) (hS : wa.cell? ⟨g, q * 5, none⟩ = some (.int .i64 ya) ∧ wa.cell? ⟨g, q * 5 + 1, none⟩ = some (.int .i64 yb) ∧ wa.cell? ⟨g, q * 5 + 2, none⟩ = some (.int .i64 yk) ∧ wa.cell? ⟨g, q * 5 + 3, none⟩ = some (.int .i64 yn) ∧ wa.cell? ⟨g, q * 5 + 4, none⟩ = some (.slice yp ym yc) ∧ wa.cell? ⟨g, cc * 5, none⟩ = some (.int .i64 xa) ∧ wa.cell? ⟨g, cc * 5 + 1, none⟩ = some (.int .i64 xb) ∧ wa.cell? ⟨g, cc * 5 + 2, none⟩ = some (.int .i64 xk) ∧ wa.cell? ⟨g, cc * 5 + 3, none⟩ = some (.int .i64 xn) ∧ wa.cell? ⟨g, cc * 5 + 4, none⟩ = some (.slice xp xm xc) ∧ Below wr.heap.size wr wa) (hb : Below wa.heap.size wa w') => MK.out w' (hS.2.2.2.2.2.2.2.2.2.2.trans (hb.mono hS.2.2.2.2.2.2.2.2.2.2.size)))
        have CL := Lib.hid (fun w' (hb : Below wr.heap.size wr w') => (show Calls Tryz.prog 62 #[.agg #[.int .i64 ya, .int .i64 yb, .int .i64 yk, .int .i64 yn, .slice yp ym yc], .agg #[.int .i64 xa, .int .i64 xb, .int .i64 xk, .int .i64 xn, .slice xp xm xc], .pointer (some ⟨B, 0, none⟩)] w' fun e w'' => e = .returned (.int .i64 (cmpK ya yb xa xb)) ∧ Below w'.heap.size w' w'' from e_clo B ⟨ya, yb, yk, yn, .slice yp ym yc⟩ ⟨xa, xb, xk, xn, .slice xp xm xc⟩ w' (HS.out.below (HB.out.trans (hb.mono HB.out.size)))))
        have hk := cmpK_lt ya yb xa xb
        generalize cmpK ya yb xa xb = z at *
        cases he : Srt.klt (ya, yb) (xa, xb)
        case false =>
          rw [he] at hk
          have hC2 := Lib.hid (CLT.out (by unfold elt; exact he))
          clear hCb hbd hLL e1 e2 e3 i2 j2 c1 c2 c3 hk1 hqm k1 k2 hx hy iX iY CLT CRT he hq
          have HCC := Lib.hid hcc
          clear hcc
          have u2 := HX2.out
          have u3 := HX3.out
          go_wp2_with fail
          clear u1 u2 u3 HX2 HX3
          go_region_held3 (fun w' => w'.cell? ⟨g, q * 5, none⟩ = some (.int .i64 ya) ∧ w'.cell? ⟨g, q * 5 + 1, none⟩ = some (.int .i64 yb) ∧ w'.cell? ⟨g, q * 5 + 2, none⟩ = some (.int .i64 yk) ∧ w'.cell? ⟨g, q * 5 + 3, none⟩ = some (.int .i64 yn) ∧ w'.cell? ⟨g, q * 5 + 4, none⟩ = some (.slice yp ym yc) ∧ w'.cell? ⟨g, cc * 5, none⟩ = some (.int .i64 xa) ∧ w'.cell? ⟨g, cc * 5 + 1, none⟩ = some (.int .i64 xb) ∧ w'.cell? ⟨g, cc * 5 + 2, none⟩ = some (.int .i64 xk) ∧ w'.cell? ⟨g, cc * 5 + 3, none⟩ = some (.int .i64 xn) ∧ w'.cell? ⟨g, cc * 5 + 4, none⟩ = some (.slice xp xm xc) ∧ Below wr.heap.size wr w') (first | exact MK.out _ ((Below.refl _ _).drew) | assumption | (refine KP.out _ _ ?_ hb; first | assumption | exact MK.out _ ((Below.refl _ _).drew))) (first | (go_at_call 62; (with_reducible refine (CL.out _ (by go_split_ands; assumption)).mono ?_); rintro e w' ⟨rfl, hb⟩))
          rename_i hEnd
          obtain ⟨-, -, -, -, -, -, -, -, -, -, hBB⟩ := hEnd
          have HB2 := Lib.hid (HB.out.trans (hBB.mono HB.out.size))
          clear hBB MK KP CL
          go_wp2_with fail
          go_roundw
          case rel => exact ⟨cc + 1, nr, by go_num, rfl, hC2, HB2⟩
          case measure => simp only [intOf]; have := HCC.out; omega
        case true =>
          rw [he] at hk
          have hC2 := Lib.hid (CRT.out (by unfold elt; exact he))
          clear hCb hbd hLL e1 e2 e3 i2 j2 c1 c2 c3 hk1 hqm k1 k2 hx hy iX iY CLT CRT he hq
          have HCC := Lib.hid hcc
          clear hcc
          have u2 := HX2.out
          have u3 := HX3.out
          go_wp2_with fail
          clear u1 u2 u3 HX2 HX3
          go_region_held3 (fun w' => w'.cell? ⟨g, q * 5, none⟩ = some (.int .i64 ya) ∧ w'.cell? ⟨g, q * 5 + 1, none⟩ = some (.int .i64 yb) ∧ w'.cell? ⟨g, q * 5 + 2, none⟩ = some (.int .i64 yk) ∧ w'.cell? ⟨g, q * 5 + 3, none⟩ = some (.int .i64 yn) ∧ w'.cell? ⟨g, q * 5 + 4, none⟩ = some (.slice yp ym yc) ∧ w'.cell? ⟨g, cc * 5, none⟩ = some (.int .i64 xa) ∧ w'.cell? ⟨g, cc * 5 + 1, none⟩ = some (.int .i64 xb) ∧ w'.cell? ⟨g, cc * 5 + 2, none⟩ = some (.int .i64 xk) ∧ w'.cell? ⟨g, cc * 5 + 3, none⟩ = some (.int .i64 xn) ∧ w'.cell? ⟨g, cc * 5 + 4, none⟩ = some (.slice xp xm xc) ∧ Below wr.heap.size wr w') (first | exact MK.out _ ((Below.refl _ _).drew) | assumption | (refine KP.out _ _ ?_ hb; first | assumption | exact MK.out _ ((Below.refl _ _).drew))) (first | (go_at_call 62; (with_reducible refine (CL.out _ (by go_split_ands; assumption)).mono ?_); rintro e w' ⟨rfl, hb⟩))
          rename_i hEnd
          obtain ⟨-, -, -, -, -, -, -, -, -, -, hBB⟩ := hEnd
          have HB2 := Lib.hid (HB.out.trans (hBB.mono HB.out.size))
          clear hBB MK KP CL
          go_wp2_with fail
          go_roundw
          case rel => exact ⟨ns, cc, rfl, rfl, hC2, HB2⟩
          case measure => simp only [intOf]; have := HCC.out; omega
end Go.Proofs.YtafmiilkdhdngaaGreatDoor
/- Where one of symMerge's parts is a single element: the search in numbers. -/
namespace Go.Proofs.YtafmiilkdhdngaaGreatDoor
open Go.ChangeShapes Go.WideShapes Go.ChangeAt Go.RowKit
set_option linter.unusedVariables false
set_option linter.unusedSimpArgs false
/-- x goes into Q: behind all that are less. -/
structure CutL (Q : List E5) (x : E5) (s r : Nat) : Prop where
  b : s ≤ r
  c : r ≤ Q.length
  l : ∀ i y, i < s → Q[i]? = some y → elt y x = true
  g : ∀ i y, r ≤ i → Q[i]? = some y → elt y x = false
theorem CutL.left {Q : List E5} {x y : E5} {s r c : Nat} (h : CutL Q x s r) (h2 : Srt.Up elt Q) (hc : s ≤ c ∧ c < r) (hy : Q[c]? = some y) (he : elt y x = true) : CutL Q x (c + 1) r :=
  ⟨by omega, h.c, fun i u hi hu => elt_ord.le_lt (up_get h2 (by omega) hu hy) he, h.g⟩
theorem CutL.right {Q : List E5} {x y : E5} {s r c : Nat} (h : CutL Q x s r) (h2 : Srt.Up elt Q) (hc : s ≤ c ∧ c < r) (hy : Q[c]? = some y) (he : elt y x = false) : CutL Q x s c :=
  ⟨hc.1, by have := h.c; omega, h.l, fun i u hi hu => elt_ord.neg he (up_get h2 hi hy hu)⟩
theorem CutL.done {Q : List E5} {x : E5} {s : Nat} (h : CutL Q x s s) : Srt.mrg elt [x] Q = Q.take s ++ x :: Q.drop s := by
  have := Srt.one_mrg (lt := elt) (x := x) (L := Q.take s) (R := Q.drop s) (fun y hy => by obtain ⟨i, hi, hy⟩ := take_get hy; exact h.l i y hi hy) (fun y hy => by obtain ⟨i, hi, hy⟩ := drop_get hy; exact h.g i y hi hy)
  rw [List.take_append_drop] at this
  exact this
/-- y goes into P: behind all that it is not less than. -/
structure CutR (P : List E5) (y : E5) (s r : Nat) : Prop where
  b : s ≤ r
  c : r ≤ P.length
  l : ∀ i x, i < s → P[i]? = some x → elt y x = false
  g : ∀ i x, r ≤ i → P[i]? = some x → elt y x = true
theorem CutR.left {P : List E5} {x y : E5} {s r c : Nat} (h : CutR P y s r) (h2 : Srt.Up elt P) (hc : s ≤ c ∧ c < r) (hx : P[c]? = some x) (he : elt y x = false) : CutR P y (c + 1) r :=
  ⟨by omega, h.c, fun i u hi hu => elt_ord.neg (up_get h2 (by omega) hu hx) he, h.g⟩
theorem CutR.right {P : List E5} {x y : E5} {s r c : Nat} (h : CutR P y s r) (h2 : Srt.Up elt P) (hc : s ≤ c ∧ c < r) (hx : P[c]? = some x) (he : elt y x = true) : CutR P y s c :=
  ⟨hc.1, by have := h.c; omega, h.l, fun i u hi hu => elt_ord.lt_le he (up_get h2 hi hx hu)⟩
theorem CutR.done {P : List E5} {y : E5} {s : Nat} (h : CutR P y s s) : Srt.mrg elt P [y] = P.take s ++ y :: P.drop s := by
  have := Srt.ins_cut (lt := elt) (x := y) (L := P.take s) (R := P.drop s) (fun x hx => by obtain ⟨i, hi, hx⟩ := take_get hx; exact h.l i x hi hx) (fun x hx => by obtain ⟨i, hi, hx⟩ := drop_get hx; exact h.g i x hi hx)
  rw [List.take_append_drop] at this
  rw [Srt.mrg_one]
  exact this
/-- x on its way: t of Q ahead of it. -/
def wayl (pre Q post : List E5) (x : E5) (t : Nat) : List E5 := pre ++ (Q.take t ++ x :: (Q.drop t ++ post))
structure WayAt (pre Q post : List E5) (x y : E5) (t p : Nat) : Prop where
  hx : (wayl pre Q post x t)[p]? = some x
  hy : (wayl pre Q post x t)[p + 1]? = some y
  up : ((wayl pre Q post x t).set p y).set (p + 1) x = wayl pre Q post x (t + 1)
  hx' : (wayl pre Q post x (t + 1))[p + 1]? = some x
  hy' : (wayl pre Q post x (t + 1))[p]? = some y
  dn : ((wayl pre Q post x (t + 1)).set (p + 1) y).set p x = wayl pre Q post x t
  my : y ∈ Q
theorem way_at {pre Q post : List E5} {x : E5} {t p : Nat} (ht : t < Q.length) (hp : pre.length + t = p) : ∃ y, WayAt pre Q post x y t p := by
  refine ⟨Q[t], ?_⟩
  have hQ : Q.drop t = Q[t] :: Q.drop (t + 1) := List.drop_eq_getElem_cons ht
  have hQ2 : Q.take (t + 1) = Q.take t ++ [Q[t]] := List.take_succ_eq_append_getElem ht
  have e : wayl pre Q post x t = (pre ++ Q.take t) ++ x :: Q[t] :: (Q.drop (t + 1) ++ post) := by
    unfold wayl; rw [hQ]; simp only [List.append_assoc, List.cons_append, List.nil_append]
  have e' : wayl pre Q post x (t + 1) = (pre ++ Q.take t) ++ Q[t] :: x :: (Q.drop (t + 1) ++ post) := by
    unfold wayl; rw [hQ2]; simp only [List.append_assoc, List.cons_append, List.nil_append]
  have l1 : (pre ++ Q.take t).length = p := by rw [List.length_append, List.length_take]; omega
  have s1 := set_swap (pre ++ Q.take t) (Q.drop (t + 1) ++ post) Q[t] x
  have s2 := set_swap' (pre ++ Q.take t) (Q.drop (t + 1) ++ post) x Q[t]
  rw [l1] at s1 s2
  refine ⟨?_, ?_, ?_, ?_, ?_, ?_, List.getElem_mem _⟩
  · rw [e, List.getElem?_append_right (by omega), l1, Nat.sub_self]; rfl
  · rw [e, List.getElem?_append_right (by omega), l1, Nat.add_sub_cancel_left]; rfl
  · rw [e, e']; exact s1
  · rw [e', List.getElem?_append_right (by omega), l1, Nat.add_sub_cancel_left]; rfl
  · rw [e', List.getElem?_append_right (by omega), l1, Nat.sub_self]; rfl
  · rw [e, e']; exact s2
end Go.Proofs.YtafmiilkdhdngaaGreatDoor
