/- ValidBelow: what is below a plan is a plan, and a plan in a plan's place, of the same size, leaves one, or one that is too big; of arguments of a bulk of at most 1048576. -/
import Derived.Test.YtfjioflggkmhcaaPutr
import Derived.Test.YtfjioflggkmhcaaPutw
import Derived.Test.YtfjioflggkmhcaaCapof
namespace Go.Proofs.Ytfjioflggkmhcaa
open Go.ChangeShapes Go.WideShapes Go.ChangeAt Go.RowKit
set_option linter.unusedVariables false
set_option linter.unusedSimpArgs false
namespace validBelow
set_option maxRecDepth 100000 in
set_option maxHeartbeats 8000000 in
theorem main (k n k' n' : Int) (s s' : Value) (t t' : Fo) (a : Option Addr) (d : Nat) (xs : List Int) (W : World) (hK : Kids W W.heap.size s t) (hK' : Kids W W.heap.size s' t') (wf : t.wf) (wk : In64 k) (wn : In64 n) (wf' : t'.wf) (wk' : In64 k') (wn' : In64 n') (hN : t.cnt ≤ 1048576) (hN' : t'.cnt ≤ 1048576) (hX : RowI W a xs.length xs) (hd : xs.length ≤ d) (hd2 : d ≤ 9223372036854775807) :
    Calls Try.prog 6 #[.agg #[.int .i64 k, .int .i64 n, s], .slice a xs.length d, .agg #[.int .i64 k', .int .i64 n', s']] W fun e w' => e = .returned (.bool true) ∧ Below W.heap.size W w' := by
  have LV := Lib.hid (fun w => live14 w)
  obtain ⟨p, m, c, rfl, _, _, HM⟩ := hK.shape
  obtain ⟨p', m', c', rfl, _, _, HM'⟩ := hK'.shape
  obtain ⟨w0, hw0, c0, c1, c2, hB0, hs0⟩ := box3 W k n (.slice p m c) 24
  obtain ⟨w1, hw1, a0, a1, a2, hB1, hs1⟩ := box3 w0 k' n' (.slice p' m' c') 24
  have hB := hB0.trans (hB1.mono hB0.size)
  have hl := fun (w' : World) (hb : Below w1.heap.size w1 w') => (show W.heap.size ≤ w'.heap.size by have := hb.size; omega)
  have HK := Lib.hid (fun (w' : World) (hb : Below w1.heap.size w1 w') => (hK.carry hB).carry (hb.mono (by omega)))
  have HK' := Lib.hid (fun (w' : World) (hb : Below w1.heap.size w1 w') => (hK'.carry hB).carry (hb.mono (by omega)))
  have HX := Lib.hid (fun (w' : World) (hb : Below w1.heap.size w1 w') => (hX.below hB).below hb)
  have MU := Lib.hid (fun w' hb => r13_much t (.slice p m c) k n W.heap.size w' hN (HK.out w' hb) (hl w' hb))
  have MU' := Lib.hid (fun w' hb => r13_much t' (.slice p' m' c') k' n' W.heap.size w' hN' (HK'.out w' hb) (hl w' hb))
  have AT := Lib.hid (fun w' hb => r13_at xs k n t p m c W.heap.size a d w' (HK.out w' hb) (hl w' hb) (HX.out w' hb) hd hd2)
  have VC := Lib.hid (fun w' hb => valid_check t (.slice p m c) k n W.heap.size w' hN (HK.out w' hb) (hl w' hb) wn wf)
  have VC' := Lib.hid (fun w' hb => valid_check t' (.slice p' m' c') k' n' W.heap.size w' hN' (HK'.out w' hb) (hl w' hb) wn' wf')
  have PU := Lib.hid (fun w' hb hv => r13_put k' n' t' (.slice p' m' c') W.heap.size hN' xs k n t (.slice p m c) a d w' (HK.out w' hb) (HK'.out w' hb) (hl w' hb) (HX.out w' hb) hd hd2 hv hN)
  have xa : W.heap.size < w0.heap.size := by omega
  have xb : W.heap.size < w1.heap.size := by omega
  have xc : W.heap.size + 1 < w1.heap.size := by omega
  replace c0 := (hB1.cell (p := ⟨W.heap.size, 0, none⟩) xa).trans c0
  replace c1 := (hB1.cell (p := ⟨W.heap.size, 1, none⟩) xa).trans c1
  replace c2 := (hB1.cell (p := ⟨W.heap.size, 2, none⟩) xa).trans c2
  rw [hw0] at hw1
  rw [hs0] at a0 a1 a2
  have KP := Lib.hid (fun (w' : World) (hb : Below w1.heap.size w1 w') => (show w'.cell? ⟨W.heap.size, 0, none⟩ = some (.int .i64 k) ∧ w'.cell? ⟨W.heap.size, 1, none⟩ = some (.int .i64 n) ∧ w'.cell? ⟨W.heap.size, 2, none⟩ = some (.slice p m c) ∧ w'.cell? ⟨W.heap.size + 1, 0, none⟩ = some (.int .i64 k') ∧ w'.cell? ⟨W.heap.size + 1, 1, none⟩ = some (.int .i64 n') ∧ w'.cell? ⟨W.heap.size + 1, 2, none⟩ = some (.slice p' m' c') from
    ⟨(hb.cell (p := ⟨W.heap.size, 0, none⟩) xb).trans c0, (hb.cell (p := ⟨W.heap.size, 1, none⟩) xb).trans c1, (hb.cell (p := ⟨W.heap.size, 2, none⟩) xb).trans c2, (hb.cell (p := ⟨W.heap.size + 1, 0, none⟩) xc).trans a0, (hb.cell (p := ⟨W.heap.size + 1, 1, none⟩) xc).trans a1, (hb.cell (p := ⟨W.heap.size + 1, 2, none⟩) xc).trans a2⟩))
  have R0 := Below.refl w1.heap.size w1
  have hs : W.heap.size ≤ w1.heap.size := hB.size
  obtain ⟨L, hL⟩ : ∃ L, xs.length = L := ⟨_, rfl⟩
  have AW := Lib.hid (fun x h => at_wf xs k n t x h wk wn wf)
  have PW := Lib.hid (fun h => put_wf (k', n', t') wk' wn' wf' xs k n t h wk wn wf)
  have AC := Lib.hid (fun (k2 n2 : Int) (ks2 : Fo) (h : atN k n t xs = some (k2, n2, ks2)) hc => at_chkd h hc)
  have PC := Lib.hid (fun (k2 n2 : Int) (ks2 : Fo) (h : atN k n t xs = some (k2, n2, ks2)) hc hw he => put_chkd (w := (k', n', t')) h hc hw he)
  rw [hL] at AT PU ⊢
  clear hw0 hB0 hB1 hs0 hs1 xa hK hK' HM HM' HK HK' HX hl hX hL
  obtain ⟨zc, hzc⟩ : ∃ z, chkd k n t = z := ⟨_, rfl⟩
  obtain ⟨zc', hzc'⟩ : ∃ z, chkd k' n' t' = z := ⟨_, rfl⟩
  rw [hzc] at VC AC PC
  rw [hzc'] at VC' PC
  clear hzc hzc'
  have hlx : (0:Int) ≤ (L : Int) := by omega
  by_cases hbig : 80 < t.cnt + 1
  · rw [decide_eq_true hbig] at MU
    go_enter Try.func6, Try.ntmps6
    go_wp2_with fail
    rw [← hw1]
    clear hw1
    refine (MU.out _ R0).mono ?_
    rintro e w2 ⟨rfl, b2⟩
    go_wp2_with fail
    refine (LV.out _).mono ?_
    rintro e wz ⟨rfl, bz⟩
    go_wp2_with fail
    go_ret
    exact ⟨rfl, hB.trans ((b2.trans (bz.mono b2.size)).mono hB.size)⟩
  rw [decide_eq_false hbig] at MU
  by_cases hbig' : 80 < t'.cnt + 1
  · rw [decide_eq_true hbig'] at MU'
    go_enter Try.func6, Try.ntmps6
    go_wp2_with fail
    rw [← hw1]
    clear hw1
    refine (MU.out _ R0).mono ?_
    rintro e w2 ⟨rfl, b2⟩
    obtain ⟨d0, d1, d2, e0, e1, e2⟩ := KP.out _ b2
    clear c0 c1 c2 a0 a1 a2
    go_wp2_with fail
    refine (MU'.out _ b2).mono ?_
    rintro e w3 ⟨rfl, b3⟩
    have b3' := b2.trans (b3.mono b2.size)
    go_wp2_with fail
    refine (LV.out _).mono ?_
    rintro e wz ⟨rfl, bz⟩
    go_wp2_with fail
    go_ret
    exact ⟨rfl, hB.trans ((b3'.trans (bz.mono b3'.size)).mono hB.size)⟩
  rw [decide_eq_false hbig'] at MU'
  by_cases hlen : 20 < L
  · have dl : decide ((20 : Int) < (L : Int)) = true := decide_eq_true (by omega)
    go_enter Try.func6, Try.ntmps6
    go_wp2_with fail
    rw [← hw1]
    clear hw1
    refine (MU.out _ R0).mono ?_
    rintro e w2 ⟨rfl, b2⟩
    obtain ⟨d0, d1, d2, e0, e1, e2⟩ := KP.out _ b2
    clear c0 c1 c2 a0 a1 a2
    go_wp2_with fail
    refine (MU'.out _ b2).mono ?_
    rintro e w3 ⟨rfl, b3⟩
    have b3' := b2.trans (b3.mono b2.size)
    clear d0 d1 d2 e0 e1 e2
    go_wp2_with fail
    refine (LV.out _).mono ?_
    rintro e wz ⟨rfl, bz⟩
    go_wp2_with fail
    go_ret
    exact ⟨rfl, hB.trans ((b3'.trans (bz.mono b3'.size)).mono hB.size)⟩
  have dl : decide ((20 : Int) < (L : Int)) = false := decide_eq_false (by omega)
  go_enter Try.func6, Try.ntmps6
  go_wp2_with fail
  rw [← hw1]
  clear hw1
  refine (MU.out _ R0).mono ?_
  rintro e w2 ⟨rfl, b2⟩
  obtain ⟨d0, d1, d2, e0, e1, e2⟩ := KP.out _ b2
  clear c0 c1 c2 a0 a1 a2
  go_wp2_with fail
  refine (MU'.out _ b2).mono ?_
  rintro e w3 ⟨rfl, b3⟩
  have b3' := b2.trans (b3.mono b2.size)
  clear d0 d1 d2 e0 e1 e2
  obtain ⟨d0, d1, d2, e0, e1, e2⟩ := KP.out _ b3'
  go_wp2_with fail
  refine (AT.out _ b3').mono ?_
  rintro e w4 ⟨⟨k2, n2, p2, m2, c2, ok, ks2, rfl, hK2, hy, hn⟩, b4⟩
  have b4' := b3'.trans (b4.mono b3'.size)
  obtain ⟨w5, hw5, y0, y1, y2, b5, hs5⟩ := box3 w4 k2 n2 (.slice p2 m2 c2) 24
  have b5' := b4'.trans (b5.mono b4'.size)
  have HK5 := Lib.hid (hK2.below (by have := b4'.size; omega) b5)
  have HW5 := Lib.hid hw5
  have ly : w4.heap.size < w5.heap.size := by omega
  clear hw5 d0 d1 d2 e0 e1 e2 hK2
  obtain ⟨d0, d1, d2, e0, e1, e2⟩ := KP.out _ b5'
  cases ok with
  | false =>
    clear hy hn
    go_upto_region 4 with fail
    rw [← HW5.out]
    clear HW5
    go_wp2_with fail
    refine (LV.out _).mono ?_
    rintro e wz ⟨rfl, bz⟩
    go_wp2_with fail
    go_ret
    exact ⟨rfl, hB.trans ((b5'.trans (bz.mono b5'.size)).mono hB.size)⟩
  | true =>
    have hat := hy rfl
    clear hy hn
    obtain ⟨wk2, wn2, wf2, hc2⟩ := AW.out _ hat
    have HAT := Lib.hid hat
    clear hat
    dsimp only at wk2 wn2 wf2 hc2
    go_upto_region 4 with fail
    rw [← HW5.out]
    clear HW5
    by_cases hz : zc = 0
    · subst hz
      go_wp2_with fail
      refine (VC.out _ b5').mono ?_
      rintro e w6 ⟨rfl, b6⟩
      have b6' := b5'.trans (b6.mono b5'.size)
      have z0 := (b6.cell (p := ⟨w4.heap.size, 0, none⟩) ly).trans y0
      have z1 := (b6.cell (p := ⟨w4.heap.size, 1, none⟩) ly).trans y1
      have z2 := (b6.cell (p := ⟨w4.heap.size, 2, none⟩) ly).trans y2
      have HK6 := Lib.hid (HK5.out.below (show W.heap.size ≤ w5.heap.size by have := b5'.size; omega) b6)
      have CX := valid_check ks2 (.slice p2 m2 c2) k2 n2 W.heap.size w6 (by omega) HK6.out (by have := b6'.size; omega) wn2 wf2
      rw [AC.out _ _ _ HAT.out (by first | rfl | trivial)] at CX
      have CX := Lib.hid CX
      have lz : w4.heap.size < w6.heap.size := by have := b6.size; omega
      clear y0 y1 y2 d0 d1 d2 e0 e1 e2
      obtain ⟨d0, d1, d2, e0, e1, e2⟩ := KP.out _ b6'
      go_wp2_with fail
      refine CX.out.mono ?_
      rintro e w7 ⟨rfl, b7⟩
      have b7' := b6'.trans (b7.mono b6'.size)
      replace z0 := (b7.cell (p := ⟨w4.heap.size, 0, none⟩) lz).trans z0
      replace z1 := (b7.cell (p := ⟨w4.heap.size, 1, none⟩) lz).trans z1
      replace z2 := (b7.cell (p := ⟨w4.heap.size, 2, none⟩) lz).trans z2
      replace lz : w4.heap.size < w7.heap.size := by have := b7.size; omega
      clear d0 d1 d2 e0 e1 e2
      obtain ⟨d0, d1, d2, e0, e1, e2⟩ := KP.out _ b7'
      by_cases hz' : zc' = 0
      · subst hz'
        by_cases hnn : n' = n2
        · subst hnn
          go_wp2_with fail
          refine (VC'.out _ b7').mono ?_
          rintro e w8 ⟨rfl, b8⟩
          have b8' := b7'.trans (b8.mono b7'.size)
          replace z1 := (b8.cell (p := ⟨w4.heap.size, 1, none⟩) lz).trans z1
          clear d0 d1 d2 e0 e1 e2
          obtain ⟨d0, d1, d2, e0, e1, e2⟩ := KP.out _ b8'
          go_wp2_with fail
          refine (PU.out _ b8' (by rw [HAT.out]; rfl)).mono ?_
          rintro e w9 ⟨u9, rfl, hK9, b9⟩
          have b9' := b8'.trans (b9.mono b8'.size)
          obtain ⟨g1, g2, g3, g4⟩ := PW.out (by rw [HAT.out]; rfl)
          (try dsimp only at g4)
          have hP := PC.out _ _ _ HAT.out (by first | rfl | trivial) (by first | rfl | trivial) (by first | rfl | trivial)
          have CP := valid_check (putN k n t xs (k', n', t')).2.2 u9 (putN k n t xs (k', n', t')).1 (putN k n t xs (k', n', t')).2.1 w9.heap.size w9 (by omega) (hK9.to (fun _ hb => hb.1)) (Nat.le_refl _) g2 g3
          have CP := Lib.hid CP
          clear d0 d1 d2 e0 e1 e2 g1 g2 g3 g4 hK9 PU PC PW
          generalize chkd (putN k n t xs (k', n', t')).1 (putN k n t xs (k', n', t')).2.1 (putN k n t xs (k', n', t')).2.2 = zp at *
          generalize (putN k n t xs (k', n', t')).1 = pk at *
          generalize (putN k n t xs (k', n', t')).2.1 = pn at *
          go_wp2_with fail
          refine CP.out.mono ?_
          rintro e wq ⟨rfl, bq⟩
          have bq' := b9'.trans (bq.mono b9'.size)
          rcases hP with rfl | rfl
          all_goals
            go_wp2_with fail
            refine (LV.out _).mono ?_
            rintro e wz ⟨rfl, bz⟩
            go_wp2_with fail
            go_ret
            exact ⟨rfl, hB.trans ((bq'.trans (bz.mono bq'.size)).mono hB.size)⟩
        · have dn : (n' == n2) = false := by simp [hnn]
          have dn2 : (n' != n2) = true := by simp [hnn]
          go_wp2_with fail
          refine (VC'.out _ b7').mono ?_
          rintro e w8 ⟨rfl, b8⟩
          have b8' := b7'.trans (b8.mono b7'.size)
          replace z1 := (b8.cell (p := ⟨w4.heap.size, 1, none⟩) lz).trans z1
          clear d0 d1 d2 e0 e1 e2
          obtain ⟨d0, d1, d2, e0, e1, e2⟩ := KP.out _ b8'
          go_wp2_with fail
          refine (LV.out _).mono ?_
          rintro e wz ⟨rfl, bz⟩
          go_wp2_with fail
          go_ret
          exact ⟨rfl, hB.trans ((b8'.trans (bz.mono b8'.size)).mono hB.size)⟩
      · have dz : (zc' == 0) = false := by simp [hz']
        have dz2 : (zc' != 0) = true := by simp [hz']
        go_wp2_with fail
        refine (VC'.out _ b7').mono ?_
        rintro e w8 ⟨rfl, b8⟩
        have b8' := b7'.trans (b8.mono b7'.size)
        go_wp2_with fail
        refine (LV.out _).mono ?_
        rintro e wz ⟨rfl, bz⟩
        go_wp2_with fail
        go_ret
        exact ⟨rfl, hB.trans ((b8'.trans (bz.mono b8'.size)).mono hB.size)⟩
    · have dz : (zc == 0) = false := by simp [hz]
      have dz2 : (zc != 0) = true := by simp [hz]
      go_wp2_with fail
      refine (VC.out _ b5').mono ?_
      rintro e w6 ⟨rfl, b6⟩
      have b6' := b5'.trans (b6.mono b5'.size)
      go_wp2_with fail
      refine (LV.out _).mono ?_
      rintro e wz ⟨rfl, bz⟩
      go_wp2_with fail
      go_ret
      exact ⟨rfl, hB.trans ((b6'.trans (bz.mono b6'.size)).mono hB.size)⟩
set_option maxRecDepth 100000 in
set_option maxHeartbeats 8000000 in
theorem long (k n k' n' : Int) (s s' : Value) (t t' : Fo) (a : Option Addr) (L d : Nat) (W : World) (hK : Kids W W.heap.size s t) (hK' : Kids W W.heap.size s' t') (hN : t.cnt ≤ 1048576) (hN' : t'.cnt ≤ 1048576) (hlen : 20 < L) :
    Calls Try.prog 6 #[.agg #[.int .i64 k, .int .i64 n, s], .slice a L d, .agg #[.int .i64 k', .int .i64 n', s']] W fun e w' => e = .returned (.bool true) ∧ Below W.heap.size W w' := by
  have LV := Lib.hid (fun w => live14 w)
  obtain ⟨p, m, c, rfl, _, _, HM⟩ := hK.shape
  obtain ⟨p', m', c', rfl, _, _, HM'⟩ := hK'.shape
  obtain ⟨w0, hw0, c0, c1, c2, hB0, hs0⟩ := box3 W k n (.slice p m c) 24
  obtain ⟨w1, hw1, a0, a1, a2, hB1, hs1⟩ := box3 w0 k' n' (.slice p' m' c') 24
  have hB := hB0.trans (hB1.mono hB0.size)
  have hl := fun (w' : World) (hb : Below w1.heap.size w1 w') => (show W.heap.size ≤ w'.heap.size by have := hb.size; omega)
  have HK := Lib.hid (fun (w' : World) (hb : Below w1.heap.size w1 w') => (hK.carry hB).carry (hb.mono (by omega)))
  have HK' := Lib.hid (fun (w' : World) (hb : Below w1.heap.size w1 w') => (hK'.carry hB).carry (hb.mono (by omega)))
  have MU := Lib.hid (fun w' hb => r13_much t (.slice p m c) k n W.heap.size w' hN (HK.out w' hb) (hl w' hb))
  have MU' := Lib.hid (fun w' hb => r13_much t' (.slice p' m' c') k' n' W.heap.size w' hN' (HK'.out w' hb) (hl w' hb))
  have xa : W.heap.size < w0.heap.size := by omega
  have xb : W.heap.size < w1.heap.size := by omega
  have xc : W.heap.size + 1 < w1.heap.size := by omega
  replace c0 := (hB1.cell (p := ⟨W.heap.size, 0, none⟩) xa).trans c0
  replace c1 := (hB1.cell (p := ⟨W.heap.size, 1, none⟩) xa).trans c1
  replace c2 := (hB1.cell (p := ⟨W.heap.size, 2, none⟩) xa).trans c2
  rw [hw0] at hw1
  rw [hs0] at a0 a1 a2
  have KP := Lib.hid (fun (w' : World) (hb : Below w1.heap.size w1 w') => (show w'.cell? ⟨W.heap.size, 0, none⟩ = some (.int .i64 k) ∧ w'.cell? ⟨W.heap.size, 1, none⟩ = some (.int .i64 n) ∧ w'.cell? ⟨W.heap.size, 2, none⟩ = some (.slice p m c) ∧ w'.cell? ⟨W.heap.size + 1, 0, none⟩ = some (.int .i64 k') ∧ w'.cell? ⟨W.heap.size + 1, 1, none⟩ = some (.int .i64 n') ∧ w'.cell? ⟨W.heap.size + 1, 2, none⟩ = some (.slice p' m' c') from
    ⟨(hb.cell (p := ⟨W.heap.size, 0, none⟩) xb).trans c0, (hb.cell (p := ⟨W.heap.size, 1, none⟩) xb).trans c1, (hb.cell (p := ⟨W.heap.size, 2, none⟩) xb).trans c2, (hb.cell (p := ⟨W.heap.size + 1, 0, none⟩) xc).trans a0, (hb.cell (p := ⟨W.heap.size + 1, 1, none⟩) xc).trans a1, (hb.cell (p := ⟨W.heap.size + 1, 2, none⟩) xc).trans a2⟩))
  have R0 := Below.refl w1.heap.size w1
  have hs : W.heap.size ≤ w1.heap.size := hB.size
  clear hw0 hB0 hB1 hs0 hs1 xa hK hK' HM HM' HK HK' hl
  have dl : decide ((20 : Int) < (L : Int)) = true := decide_eq_true (by omega)
  by_cases hbig : 80 < t.cnt + 1
  · rw [decide_eq_true hbig] at MU
    go_enter Try.func6, Try.ntmps6
    go_wp2_with fail
    rw [← hw1]
    clear hw1
    refine (MU.out _ R0).mono ?_
    rintro e w2 ⟨rfl, b2⟩
    go_wp2_with fail
    refine (LV.out _).mono ?_
    rintro e wz ⟨rfl, bz⟩
    go_wp2_with fail
    go_ret
    exact ⟨rfl, hB.trans ((b2.trans (bz.mono b2.size)).mono hB.size)⟩
  rw [decide_eq_false hbig] at MU
  by_cases hbig' : 80 < t'.cnt + 1
  all_goals
    first | rw [decide_eq_true hbig'] at MU' | rw [decide_eq_false hbig'] at MU'
    go_enter Try.func6, Try.ntmps6
    go_wp2_with fail
    rw [← hw1]
    clear hw1
    refine (MU.out _ R0).mono ?_
    rintro e w2 ⟨rfl, b2⟩
    obtain ⟨d0, d1, d2, e0, e1, e2⟩ := KP.out _ b2
    clear c0 c1 c2 a0 a1 a2
    go_wp2_with fail
    refine (MU'.out _ b2).mono ?_
    rintro e w3 ⟨rfl, b3⟩
    have b3' := b2.trans (b3.mono b2.size)
    clear d0 d1 d2 e0 e1 e2
    go_wp2_with fail
    refine (LV.out _).mono ?_
    rintro e wz ⟨rfl, bz⟩
    go_wp2_with fail
    go_ret
    exact ⟨rfl, hB.trans ((b3'.trans (bz.mono b3'.size)).mono hB.size)⟩
theorem walk (W : World) (dk0 dn0 : Int) (s0 : Value) (t0 : Fo) (hK0 : Kids W W.heap.size s0 t0) (wf0 : t0.wf) (wk0 : -9223372036854775808 ≤ dk0 ∧ dk0 ≤ 9223372036854775807) (wn0 : -9223372036854775808 ≤ dn0 ∧ dn0 ≤ 9223372036854775807) (hN0 : t0.cnt + 1 ≤ 1048576) (a1 : Option Addr) (n1 c1 : Nat) (w1 : IsRow .i64 W a1 n1 c1) (cc1 : c1 ≤ maxLen) (dk2 dn2 : Int) (s2 : Value) (t2 : Fo) (hK2 : Kids W W.heap.size s2 t2) (wf2 : t2.wf) (wk2 : -9223372036854775808 ≤ dk2 ∧ dk2 ≤ 9223372036854775807) (wn2 : -9223372036854775808 ≤ dn2 ∧ dn2 ≤ 9223372036854775807) (hN2 : t2.cnt + 1 ≤ 1048576) :
    Calls Try.prog 6 #[.agg #[.int .i64 dk0, .int .i64 dn0, s0], .slice a1 n1 c1, .agg #[.int .i64 dk2, .int .i64 dn2, s2]] W fun e W' => e = .returned (.bool true) ∧ Below W.heap.size W W' := by
  by_cases hn : n1 ≤ 17592186044415
  · obtain ⟨xs, hx⟩ := RowI.of_isRow w1 hn
    obtain rfl := hx.len
    have hc : xs.length ≤ c1 := by obtain ⟨_, _, h, _⟩ := w1; exact h
    exact main dk0 dn0 dk2 dn2 s0 s2 t0 t2 a1 c1 xs W hK0 hK2 wf0 wk0 wn0 wf2 wk2 wn2 (by omega) (by omega) hx hc (by unfold maxLen at cc1; omega)
  · exact long dk0 dn0 dk2 dn2 s0 s2 t0 t2 a1 n1 c1 W hK0 hK2 (by omega) (by omega) (by omega)
end validBelow
end Go.Proofs.Ytfjioflggkmhcaa
