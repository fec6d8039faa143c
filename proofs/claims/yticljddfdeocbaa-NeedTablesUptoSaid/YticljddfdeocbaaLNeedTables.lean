/- NeedTables: which tables any tree needs, each once, how often it names any one, or why it is no plan; of arguments of a bulk of at most 1048576. -/
import Derived.Test.YticljddfdeocbaaD11
import Derived.Test.YticljddfdeocbaaLive15
import Derived.Test.YticljddfdeocbaaNeedr
import Derived.Test.YticljddfdeocbaaNonce
import Derived.Test.YticljddfdeocbaaNright
import Derived.Test.YticljddfdeocbaaOpen4n
namespace Go.Proofs.Yticljddfdeocbaa
open Go.ChangeShapes Go.WideShapes Go.ChangeAt Go.RowKit
set_option linter.unusedVariables false
namespace needTables
theorem take_step (x : Nam) (l : List Nam) (j : Nat) (h : j < l.length) : ntimes x (l.take (j + 1)) = ntimes x (l.take j) + (if l[j] = x then 1 else 0) := by
  rw [List.take_succ_eq_append_getElem h, ntimes_snoc]
set_option maxRecDepth 100000 in
set_option maxHeartbeats 8000000 in
theorem plan (dk n dir : Int) (s : Value) (t : Fo) (x : Nam) (W : World) (hK : Kids W W.heap.size s t) (wf : t.wf) (wk : -9223372036854775808 ≤ dk ∧ dk ≤ 9223372036854775807) (wn : -9223372036854775808 ≤ n ∧ n ≤ 9223372036854775807) (hN : t.cnt ≤ 1048576) (hx : x.wf) (hbig : ¬ 80 < t.cnt + 1) (hck : ckd dir (chkd dk n t) = 0) :
    Calls Try.prog 9 #[.agg #[.int .i64 dk, .int .i64 n, s], .int .i64 dir, .agg #[.int .i64 x.k, .int .i64 x.n, .int .i64 x.m, .int .i64 x.d]] W fun e w' => e = .returned (.bool true) ∧ Below W.heap.size W w' := by
  have LV := Lib.hid (fun w => live15 w)
  obtain ⟨p, m, c, rfl, hc1, hc2, HM⟩ := hK.shape
  obtain ⟨w0, hw0, c0, c1, c2, hB0, hs0⟩ := box3 W dk n (.slice p m c) 24
  obtain ⟨w1, hw1, a0, a1, a2, a3, hB1, hs1⟩ := box4n w0 x.k x.n x.m x.d 54
  have hK1 := (hK.below (Nat.le_refl _) hB0).below (by omega) hB1
  have HKK := Lib.hid (fun (w' : World) (hb : Below w1.heap.size w1 w') => hK1.below (by omega) hb)
  have hl := fun (w' : World) (hb : Below w1.heap.size w1 w') => (show W.heap.size ≤ w'.heap.size by have := hb.size; omega)
  have MU := Lib.hid (fun w' hb => r13_much t (.slice p m c) dk n W.heap.size w' hN (HKK.out w' hb) (hl w' hb))
  rw [decide_eq_false hbig] at MU
  have NT := Lib.hid (fun w' hb => need_tables t (.slice p m c) dk n dir W.heap.size w' hN (HKK.out w' hb) (hl w' hb) wn wf)
  have RC := Lib.hid (fun w' hb => r15_check t (.slice p m c) dk n dir W.heap.size w' hN (HKK.out w' hb) (hl w' hb) wk wn wf)
  have TM := Lib.hid (fun (X : Nam) w' hb => need_times t (.slice p m c) dk n dir X W.heap.size w' hN (HKK.out w' hb) (hl w' hb) wn wf)
  obtain ⟨hd, h0⟩ := ckd_dir hck
  obtain ⟨s1, s2, s3⟩ := chk_sane h0
  have RA := Lib.hid (fun w' hb => r15_all 1048576 t (.slice p m c) dk n dir W.heap.size w' hN (by omega) (HKK.out w' hb) (hl w' hb) s1 s2)
  have hlen : (namesN dk n t dir).length ≤ 200 := by
    have b1 := named_len dk n dir (t.n 0)
    have b2 := names_len t (under dk dir)
    rw [namesN, List.length_append]; omega
  have RGT := Lib.hid (namesN_right hck)
  have hlo := once_len (namesN dk n t dir)
  have GWF := Lib.hid (namesN_wf (k := dk) (n := n) (dir := dir) (ks := t) wn (by omega) wf)
  have TL : tabsL dk n t dir = once (namesN dk n t dir) := if_pos hck
  rw [hck, TL] at NT
  rw [hck] at RC
  have TM2 := Lib.hid (fun (X : Nam) w' hb => (show Calls Try.prog 49 #[.agg #[.int .i64 dk, .int .i64 n, .slice p m c], .int .i64 dir, .agg #[.int .i64 X.k, .int .i64 X.n, .int .i64 X.m, .int .i64 X.d]] w' fun e w'' => e = .returned (.int .i64 ((ntimes X (namesN dk n t dir) : Nat) : Int)) ∧ Below w'.heap.size w' w'' from by have := TM.out X w' hb; rw [if_pos hck] at this; exact this))
  clear TM
  have OM := Lib.hid (fun y (hy : y ∈ once (namesN dk n t dir)) => (once_mem (namesN dk n t dir) y).1 hy)
  generalize hall : namesN dk n t dir = all at *
  have ON := Lib.hid (fun p c limp w h1 h2 => r15_once all p c limp w h1 h2 (by omega))
  generalize hon : once all = l at *
  have SM := Lib.hid (fun p q c d limp limq w h1 h2 h3 h4 => r15_same l l p q c d limp limq w h1 h2 h3 h4 (by omega))
  rw [decide_eq_true rfl] at SM
  have RR := Lib.hid (fun (X : Nam) (w : World) (hw : X.wf) => r15_right X.k X.n X.m X.d w hw.2.1 hw.2.2.1.2)
  have xa : W.heap.size < w0.heap.size := by omega
  have xb : W.heap.size < w1.heap.size := by omega
  have xc : W.heap.size + 1 < w1.heap.size := by omega
  replace c0 := (hB1.cell (p := ⟨W.heap.size, 0, none⟩) xa).trans c0
  replace c1 := (hB1.cell (p := ⟨W.heap.size, 1, none⟩) xa).trans c1
  replace c2 := (hB1.cell (p := ⟨W.heap.size, 2, none⟩) xa).trans c2
  have hB := hB0.trans (hB1.mono hB0.size)
  rw [hw0] at hw1
  rw [hs0] at a0 a1 a2 a3
  have KP := Lib.hid (fun (w' : World) (hb : Below w1.heap.size w1 w') => (show w'.cell? ⟨W.heap.size, 0, none⟩ = some (.int .i64 dk) ∧ w'.cell? ⟨W.heap.size, 1, none⟩ = some (.int .i64 n) ∧ w'.cell? ⟨W.heap.size, 2, none⟩ = some (.slice p m c) from
    ⟨(hb.cell (p := ⟨W.heap.size, 0, none⟩) xb).trans c0, (hb.cell (p := ⟨W.heap.size, 1, none⟩) xb).trans c1, (hb.cell (p := ⟨W.heap.size, 2, none⟩) xb).trans c2⟩))
  have KT := Lib.hid (fun (w' : World) (hb : Below w1.heap.size w1 w') => (show w'.cell? ⟨W.heap.size + 1, 0, none⟩ = some (.int .i64 x.k) ∧ w'.cell? ⟨W.heap.size + 1, 1, none⟩ = some (.int .i64 x.n) ∧ w'.cell? ⟨W.heap.size + 1, 2, none⟩ = some (.int .i64 x.m) ∧ w'.cell? ⟨W.heap.size + 1, 3, none⟩ = some (.int .i64 x.d) from
    ⟨(hb.cell (p := ⟨W.heap.size + 1, 0, none⟩) xc).trans a0, (hb.cell (p := ⟨W.heap.size + 1, 1, none⟩) xc).trans a1, (hb.cell (p := ⟨W.heap.size + 1, 2, none⟩) xc).trans a2, (hb.cell (p := ⟨W.heap.size + 1, 3, none⟩) xc).trans a3⟩))
  have R0 := Below.refl w1.heap.size w1
  have HX := Lib.hid hx
  clear hw0 hB0 hB1 hs0 hs1 xa hK hK1 HM hN wf HKK hl hd h0 s1 s2 s3 hck TL hx hall hon
  go_enter Try.func9, Try.ntmps9
  go_wp2_with fail
  rw [← hw1]
  clear hw1
  refine (MU.out _ R0).mono ?_
  rintro e w2 ⟨rfl, b2⟩
  obtain ⟨e0, e1, e2⟩ := KP.out _ b2
  clear c0 c1 c2 a0 a1 a2 a3 MU R0
  go_wp2_with fail
  refine (NT.out _ b2).mono ?_
  rintro e w3 ⟨la, lc, rfl, hl3, hlc1, hlc2, b3⟩
  have b3' := b2.trans (b3.mono b2.size)
  obtain ⟨f0, f1, f2⟩ := KP.out _ b3'
  have HL3 := Lib.hid hl3
  clear e0 e1 e2 b2 b3 hl3 NT
  go_wp2_with fail
  refine (RC.out _ b3').mono ?_
  rintro e w4 ⟨rfl, b4⟩
  have b4' := b3'.trans (b4.mono b3'.size)
  obtain ⟨e0, e1, e2⟩ := KP.out _ b4'
  have HL4 := Lib.hid (HL3.out.carry (b4))
  have hs34 := b4.size
  clear f0 f1 f2 b4 RC HL3
  go_wp2_with fail
  refine (RA.out _ b4').mono ?_
  rintro e w5 ⟨v5, rfl, hO5, b5⟩
  have b5' := b4'.trans (b5.mono b4'.size)
  obtain ⟨aa, ac, rfl, hA5, hac1, hac2⟩ := hO5.row
  have HL5 := Lib.hid (HL4.out.carry (b5.mono hs34))
  have hs45 := b5.size
  have HA5 := Lib.hid hA5
  clear e0 e1 e2 b5 b4' b3' RA HL4 hO5 hA5
  go_wp2_with fail
  refine (ON.out aa ac w5.heap.size w5 HA5.out (Nat.le_refl _)).mono ?_
  rintro e w6 ⟨v6, rfl, hO6, b6⟩
  have b6' := b5'.trans (b6.mono b5'.size)
  obtain ⟨oa, oc, rfl, hR6, _, _⟩ := hO6.row
  have HL6 := Lib.hid (HL5.out.carry (b6.mono (by omega)))
  have HA6 := Lib.hid (HA5.out.carry b6)
  have hs56 := b6.size
  have HR6 := Lib.hid hR6
  clear b6 b5' ON HL5 HA5 hO6 hR6
  go_wp2_with fail
  refine (SM.out la oa lc oc w3.heap.size w6.heap.size w6 HL6.out HR6.out (by omega) (Nat.le_refl _)).mono ?_
  rintro e w7 ⟨rfl, b7⟩
  have b7' := b6'.trans (b7.mono b6'.size)
  have hs67 := b7.size
  have HL7 := Lib.hid (HL6.out.carry (b7.mono (by omega)))
  have HA7 := Lib.hid (HA6.out.carry (b7.mono (by omega)))
  have HB7 := Lib.hid (hB.trans (b7'.mono hB.size))
  have KP7 := Lib.hid (fun (w' : World) (hb : Below w7.heap.size w7 w') => KP.out w' (b7'.trans (hb.mono b7'.size)))
  have KT7 := Lib.hid (fun (w' : World) (hb : Below w7.heap.size w7 w') => KT.out w' (b7'.trans (hb.mono b7'.size)))
  have TM7 := Lib.hid (fun X (w' : World) (hb : Below w7.heap.size w7 w') => TM2.out X w' (b7'.trans (hb.mono b7'.size)))
  have h37 : w3.heap.size ≤ w7.heap.size := by omega
  have h57 : w5.heap.size ≤ w7.heap.size := by omega
  obtain ⟨q, hq⟩ : ∃ q, l.length = q := ⟨_, rfl⟩
  obtain ⟨r, hr⟩ : ∃ r, all.length = r := ⟨_, rfl⟩
  have hWw7 : W.heap.size + 1 < w7.heap.size := by have := b7'.size; omega
  rw [hq] at hlo hlc1 ⊢
  rw [hr] at hlen hlo hac1 ⊢
  have HQ := Lib.hid hq
  have HR := Lib.hid hr
  clear b7 b7' b6' SM HL6 HA6 HR6 KP KT TM2 hq hr hB
  go_wp2_with fail
  go_loopw [6, 11, 12, 13, 14] (fun _ y _ _ _ wr => ∃ i : Nat, i ≤ q + 1 ∧ y = .int .i64 i ∧ Hid (Below w7.heap.size w7 wr)) (fun _ y _ _ _ _ => q + 1 - (intOf y).toNat)
  case atStart => exact ⟨0, Nat.zero_le _, rfl, Lib.hid (Below.refl _ _)⟩
  case round =>
    obtain ⟨i, hi, rfl, HB⟩ := hrel
    obtain ⟨wo, hwo⟩ : ∃ wo : World, wo = wr := ⟨_, rfl⟩
    subst hwo
    by_cases hlt : i ≤ q
    · have dd : decide ((i : Int) ≤ (q : Int)) = true := decide_eq_true (by omega)
      obtain ⟨t0, t1, t2, t3⟩ := KT7.out _ HB.out
      have hszo := HB.out.size
      have hWo : W.heap.size + 1 < wo.heap.size := by omega
      by_cases hiq : i < q
      · have d2 : decide ((i : Int) < (q : Int)) = true := decide_eq_true (by omega)
        have hi1 : i < l.length := by rw [HQ.out]; exact hiq
        obtain ⟨b, o, e1, hb, g0, g1, g2, g3⟩ := (HL7.out).get hi1
        subst e1
        have g0 := (HB.out.cell (p := ⟨b, _, none⟩) (by show b < _; omega)).trans g0
        have g1 := (HB.out.cell (p := ⟨b, _, none⟩) (by show b < _; omega)).trans g1
        have g2 := (HB.out.cell (p := ⟨b, _, none⟩) (by show b < _; omega)).trans g2
        have g3 := (HB.out.cell (p := ⟨b, _, none⟩) (by show b < _; omega)).trans g3
        have hbl : b < wo.heap.size := by omega
        obtain ⟨X, hX⟩ : ∃ X, l[i] = X := ⟨_, rfl⟩
        rw [hX] at g0 g1 g2 g3
        have hXa : X ∈ all := OM.out X (hX ▸ List.getElem_mem hi1)
        have RRX := Lib.hid (fun w => RR.out X w (GWF.out X hXa))
        rw [RGT.out X hXa] at RRX
        clear hX hXa
        obtain ⟨w8, hw8, m0, m1, m2, m3, hB8, hs8⟩ := box4n wo X.k X.n X.m X.d 54
        have HB8 := Lib.hid (HB.out.trans (hB8.mono hszo))
        have hs78 : w7.heap.size ≤ w8.heap.size := by omega
        have hXl : wo.heap.size < w8.heap.size := by omega
        have TX := Lib.hid (fun j hj => take_step X all j hj)
        have T0 := Lib.hid (show ntimes X (all.take 0) = 0 by simp [ntimes])
        have TE := Lib.hid (show ntimes X (all.take r) = ntimes X all by rw [List.take_of_length_le (by have := HR.out; omega)])
        have TLm := Lib.hid (fun j => (show ntimes X (all.take j) ≤ 200 from Nat.le_trans (ntimes_len X _) (by rw [List.length_take]; have := HR.out; omega)))
        have QE := Lib.hid (fun y => eq_names X y)
        clear hB8
        go_wp2_with fail
        rw [← hw8]
        go_loopw [13, 14] (fun x13 y wr => ∃ j a : Nat, j ≤ r ∧ y = .int .i64 j ∧ x13 = .int .i64 a ∧ Hid (ntimes X (all.take j) = a) ∧ Hid (Below w8.heap.size w8 wr)) (fun _ y _ => r - (intOf y).toNat)
        case atStart => exact ⟨0, 0, Nat.zero_le _, rfl, rfl, T0, Lib.hid (Below.refl _ _)⟩
        case round =>
          obtain ⟨j, a, hj, rfl, rfl, HA, HC⟩ := hrel
          have hs9 := HC.out.size
          have k0 := (HC.out.cell (p := ⟨wo.heap.size, 0, none⟩) hXl).trans m0
          have k1 := (HC.out.cell (p := ⟨wo.heap.size, 1, none⟩) hXl).trans m1
          have k2 := (HC.out.cell (p := ⟨wo.heap.size, 2, none⟩) hXl).trans m2
          have k3 := (HC.out.cell (p := ⟨wo.heap.size, 3, none⟩) hXl).trans m3
          by_cases hjr : j < r
          · have hj1 : j < all.length := by rw [HR.out]; exact hjr
            obtain ⟨b2, o2, e2, hb2, u0, u1, u2, u3⟩ := (HA7.out).get hj1
            first | subst e2 | cases e2
            have u0 := (HC.out.cell (p := ⟨b2, _, none⟩) (by show b2 < _; omega)).trans ((HB8.out.cell (p := ⟨b2, _, none⟩) (by show b2 < _; omega)).trans u0)
            have u1 := (HC.out.cell (p := ⟨b2, _, none⟩) (by show b2 < _; omega)).trans ((HB8.out.cell (p := ⟨b2, _, none⟩) (by show b2 < _; omega)).trans u1)
            have u2 := (HC.out.cell (p := ⟨b2, _, none⟩) (by show b2 < _; omega)).trans ((HB8.out.cell (p := ⟨b2, _, none⟩) (by show b2 < _; omega)).trans u2)
            have u3 := (HC.out.cell (p := ⟨b2, _, none⟩) (by show b2 < _; omega)).trans ((HB8.out.cell (p := ⟨b2, _, none⟩) (by show b2 < _; omega)).trans u3)
            have dj : decide ((j : Int) < (r : Int)) = true := decide_eq_true (by omega)
            have qe := QE.out all[j]
            have TX1 := TX.out j hj1
            rw [HA.out] at TX1
            have hal := TLm.out j
            rw [HA.out] at hal
            generalize all[j] = Y at *
            by_cases hYX : Y = X
            · rw [decide_eq_true hYX] at qe
              rw [if_pos hYX] at TX1
              have TX2 := Lib.hid TX1
              clear hYX TX1 m0 m1 m2 m3
              go_wp2_with fail
              go_quiet (fail)
              go_wp2_with fail
              go_roundw
              case rel => exact ⟨j + 1, a + 1, by omega, by go_num, by go_num, TX2, Lib.hid (below_drewN HC.out _)⟩
              case measure => (first | (simp [intOf]; done) | (simp [intOf]; omega) | (simp only [intOf]; omega))
            · rw [decide_eq_false hYX] at qe
              rw [if_neg hYX] at TX1
              have TX2 := Lib.hid TX1
              clear hYX TX1 m0 m1 m2 m3
              go_wp2_with fail
              go_quiet (fail)
              go_wp2_with fail
              go_roundw
              case rel => exact ⟨j + 1, a, by omega, by go_num, by go_num, TX2, Lib.hid (below_drewN HC.out _)⟩
              case measure => (first | (simp [intOf]; done) | (simp [intOf]; omega) | (simp only [intOf]; omega))
          · obtain rfl : j = r := by omega
            have dj : decide ((j : Int) < (j : Int)) = false := decide_eq_false (by omega)
            have hBw := HB8.out.trans (HC.out.mono hs78)
            obtain ⟨e0, e1, e2⟩ := KP7.out _ hBw
            have CT := Lib.hid (TM7.out X wr hBw)
            have hae := HA.out
            rw [TE.out] at hae
            rw [hae] at CT
            have hz : ((a : Int) != (a : Int)) = false := by simp
            have hszr := hBw.size
            have HBW := Lib.hid hBw
            have hXr : wo.heap.size < wr.heap.size := by omega
            clear hae m0 m1 m2 m3 hBw
            go_wp2_with fail
            refine CT.out.mono ?_
            rintro e w9 ⟨rfl, b9⟩
            have v0 := (b9.cell (p := ⟨wo.heap.size, 0, none⟩) hXr).trans k0
            have v1 := (b9.cell (p := ⟨wo.heap.size, 1, none⟩) hXr).trans k1
            have v2 := (b9.cell (p := ⟨wo.heap.size, 2, none⟩) hXr).trans k2
            have v3 := (b9.cell (p := ⟨wo.heap.size, 3, none⟩) hXr).trans k3
            have HB9 := Lib.hid (HBW.out.trans (b9.mono hszr))
            clear k0 k1 k2 k3 e0 e1 e2 b9
            go_wp2_with fail
            refine (RRX.out _).mono ?_
            rintro e w10 ⟨rfl, b10⟩
            have HBX := Lib.hid (HB9.out.trans (b10.mono HB9.out.size))
            clear b10
            go_wp2_with fail
            go_roundw
            case rel => exact ⟨i + 1, by omega, by go_num, HBX⟩
            case measure => (first | (simp [intOf]; done) | (simp [intOf]; omega) | (simp only [intOf]; omega))
      · have d2 : decide ((i : Int) < (q : Int)) = false := decide_eq_false (by omega)
        obtain ⟨w8, hw8, m0, m1, m2, m3, hB8, hs8⟩ := box4n wo x.k x.n x.m x.d 54
        have HB8 := Lib.hid (HB.out.trans (hB8.mono hszo))
        have hs78 : w7.heap.size ≤ w8.heap.size := by omega
        have hXl : wo.heap.size < w8.heap.size := by omega
        have TX := Lib.hid (fun j hj => take_step x all j hj)
        have T0 := Lib.hid (show ntimes x (all.take 0) = 0 by simp [ntimes])
        have TE := Lib.hid (show ntimes x (all.take r) = ntimes x all by rw [List.take_of_length_le (by have := HR.out; omega)])
        have TLm := Lib.hid (fun j => (show ntimes x (all.take j) ≤ 200 from Nat.le_trans (ntimes_len x _) (by rw [List.length_take]; have := HR.out; omega)))
        have QE := Lib.hid (fun y => eq_names x y)
        clear hB8
        go_wp2_with fail
        rw [← hw8]
        go_loopw [13, 14] (fun x13 y wr => ∃ j a : Nat, j ≤ r ∧ y = .int .i64 j ∧ x13 = .int .i64 a ∧ Hid (ntimes x (all.take j) = a) ∧ Hid (Below w8.heap.size w8 wr)) (fun _ y _ => r - (intOf y).toNat)
        case atStart => exact ⟨0, 0, Nat.zero_le _, rfl, rfl, T0, Lib.hid (Below.refl _ _)⟩
        case round =>
          obtain ⟨j, a, hj, rfl, rfl, HA, HC⟩ := hrel
          have hs9 := HC.out.size
          have k0 := (HC.out.cell (p := ⟨wo.heap.size, 0, none⟩) hXl).trans m0
          have k1 := (HC.out.cell (p := ⟨wo.heap.size, 1, none⟩) hXl).trans m1
          have k2 := (HC.out.cell (p := ⟨wo.heap.size, 2, none⟩) hXl).trans m2
          have k3 := (HC.out.cell (p := ⟨wo.heap.size, 3, none⟩) hXl).trans m3
          by_cases hjr : j < r
          · have hj1 : j < all.length := by rw [HR.out]; exact hjr
            obtain ⟨b2, o2, e2, hb2, u0, u1, u2, u3⟩ := (HA7.out).get hj1
            first | subst e2 | cases e2
            have u0 := (HC.out.cell (p := ⟨b2, _, none⟩) (by show b2 < _; omega)).trans ((HB8.out.cell (p := ⟨b2, _, none⟩) (by show b2 < _; omega)).trans u0)
            have u1 := (HC.out.cell (p := ⟨b2, _, none⟩) (by show b2 < _; omega)).trans ((HB8.out.cell (p := ⟨b2, _, none⟩) (by show b2 < _; omega)).trans u1)
            have u2 := (HC.out.cell (p := ⟨b2, _, none⟩) (by show b2 < _; omega)).trans ((HB8.out.cell (p := ⟨b2, _, none⟩) (by show b2 < _; omega)).trans u2)
            have u3 := (HC.out.cell (p := ⟨b2, _, none⟩) (by show b2 < _; omega)).trans ((HB8.out.cell (p := ⟨b2, _, none⟩) (by show b2 < _; omega)).trans u3)
            have dj : decide ((j : Int) < (r : Int)) = true := decide_eq_true (by omega)
            have qe := QE.out all[j]
            have TX1 := TX.out j hj1
            rw [HA.out] at TX1
            have hal := TLm.out j
            rw [HA.out] at hal
            generalize all[j] = Y at *
            by_cases hYX : Y = x
            · rw [decide_eq_true hYX] at qe
              rw [if_pos hYX] at TX1
              have TX2 := Lib.hid TX1
              clear hYX TX1 m0 m1 m2 m3
              go_wp2_with fail
              go_quiet (fail)
              go_wp2_with fail
              go_roundw
              case rel => exact ⟨j + 1, a + 1, by omega, by go_num, by go_num, TX2, Lib.hid (below_drewN HC.out _)⟩
              case measure => (first | (simp [intOf]; done) | (simp [intOf]; omega) | (simp only [intOf]; omega))
            · rw [decide_eq_false hYX] at qe
              rw [if_neg hYX] at TX1
              have TX2 := Lib.hid TX1
              clear hYX TX1 m0 m1 m2 m3
              go_wp2_with fail
              go_quiet (fail)
              go_wp2_with fail
              go_roundw
              case rel => exact ⟨j + 1, a, by omega, by go_num, by go_num, TX2, Lib.hid (below_drewN HC.out _)⟩
              case measure => (first | (simp [intOf]; done) | (simp [intOf]; omega) | (simp only [intOf]; omega))
          · obtain rfl : j = r := by omega
            have dj : decide ((j : Int) < (j : Int)) = false := decide_eq_false (by omega)
            have hBw := HB8.out.trans (HC.out.mono hs78)
            obtain ⟨e0, e1, e2⟩ := KP7.out _ hBw
            have CT := Lib.hid (TM7.out x wr hBw)
            have hae := HA.out
            rw [TE.out] at hae
            rw [hae] at CT
            have hz : ((a : Int) != (a : Int)) = false := by simp
            have hszr := hBw.size
            have HBW := Lib.hid hBw
            have hXr : wo.heap.size < wr.heap.size := by omega
            clear hae m0 m1 m2 m3 hBw
            go_wp2_with fail
            refine CT.out.mono ?_
            rintro e w9 ⟨rfl, b9⟩
            have v0 := (b9.cell (p := ⟨wo.heap.size, 0, none⟩) hXr).trans k0
            have v1 := (b9.cell (p := ⟨wo.heap.size, 1, none⟩) hXr).trans k1
            have v2 := (b9.cell (p := ⟨wo.heap.size, 2, none⟩) hXr).trans k2
            have v3 := (b9.cell (p := ⟨wo.heap.size, 3, none⟩) hXr).trans k3
            have HB9 := Lib.hid (HBW.out.trans (b9.mono hszr))
            clear k0 k1 k2 k3 e0 e1 e2 b9
            have HBX := HB9
            go_wp2_with fail
            go_roundw
            case rel => exact ⟨i + 1, by omega, by go_num, HBX⟩
            case measure => (first | (simp [intOf]; done) | (simp [intOf]; omega) | (simp only [intOf]; omega))
    · obtain rfl : i = q + 1 := by omega
      have dd : decide (((q + 1 : Nat) : Int) ≤ (q : Int)) = false := decide_eq_false (by omega)
      go_wp2_with fail
      refine (LV.out _).mono ?_
      rintro e w9 ⟨rfl, b9⟩
      go_wp2_with fail
      go_ret
      exact ⟨rfl, HB7.out.trans ((HB.out.trans (b9.mono HB.out.size)).mono HB7.out.size)⟩
set_option maxRecDepth 100000 in
theorem big (dk n dir : Int) (s : Value) (t : Fo) (x : Nam) (W : World) (hK : Kids W W.heap.size s t) (wf : t.wf) (wk : -9223372036854775808 ≤ dk ∧ dk ≤ 9223372036854775807) (wn : -9223372036854775808 ≤ n ∧ n ≤ 9223372036854775807) (hN : t.cnt ≤ 1048576) (hbig : 80 < t.cnt + 1) :
    Calls Try.prog 9 #[.agg #[.int .i64 dk, .int .i64 n, s], .int .i64 dir, .agg #[.int .i64 x.k, .int .i64 x.n, .int .i64 x.m, .int .i64 x.d]] W fun e w' => e = .returned (.bool true) ∧ Below W.heap.size W w' := by
  have LV := Lib.hid (fun w => live15 w)
  obtain ⟨p, m, c, rfl, hc1, hc2, HM⟩ := hK.shape
  obtain ⟨w0, hw0, c0, c1, c2, hB0, hs0⟩ := box3 W dk n (.slice p m c) 24
  obtain ⟨w1, hw1, a0, a1, a2, a3, hB1, hs1⟩ := box4n w0 x.k x.n x.m x.d 54
  have hK1 := (hK.below (Nat.le_refl _) hB0).below (by omega) hB1
  have HKK := Lib.hid (fun (w' : World) (hb : Below w1.heap.size w1 w') => hK1.below (by omega) hb)
  have hl := fun (w' : World) (hb : Below w1.heap.size w1 w') => (show W.heap.size ≤ w'.heap.size by have := hb.size; omega)
  have MU := Lib.hid (fun w' hb => r13_much t (.slice p m c) dk n W.heap.size w' hN (HKK.out w' hb) (hl w' hb))
  rw [decide_eq_true hbig] at MU
  have xa : W.heap.size < w0.heap.size := by omega
  have xb : W.heap.size < w1.heap.size := by omega
  have xc : W.heap.size + 1 < w1.heap.size := by omega
  replace c0 := (hB1.cell (p := ⟨W.heap.size, 0, none⟩) xa).trans c0
  replace c1 := (hB1.cell (p := ⟨W.heap.size, 1, none⟩) xa).trans c1
  replace c2 := (hB1.cell (p := ⟨W.heap.size, 2, none⟩) xa).trans c2
  have hB := hB0.trans (hB1.mono hB0.size)
  rw [hw0] at hw1
  rw [hs0] at a0 a1 a2 a3
  have KP := Lib.hid (fun (w' : World) (hb : Below w1.heap.size w1 w') => (show w'.cell? ⟨W.heap.size, 0, none⟩ = some (.int .i64 dk) ∧ w'.cell? ⟨W.heap.size, 1, none⟩ = some (.int .i64 n) ∧ w'.cell? ⟨W.heap.size, 2, none⟩ = some (.slice p m c) from
    ⟨(hb.cell (p := ⟨W.heap.size, 0, none⟩) xb).trans c0, (hb.cell (p := ⟨W.heap.size, 1, none⟩) xb).trans c1, (hb.cell (p := ⟨W.heap.size, 2, none⟩) xb).trans c2⟩))
  have KT := Lib.hid (fun (w' : World) (hb : Below w1.heap.size w1 w') => (show w'.cell? ⟨W.heap.size + 1, 0, none⟩ = some (.int .i64 x.k) ∧ w'.cell? ⟨W.heap.size + 1, 1, none⟩ = some (.int .i64 x.n) ∧ w'.cell? ⟨W.heap.size + 1, 2, none⟩ = some (.int .i64 x.m) ∧ w'.cell? ⟨W.heap.size + 1, 3, none⟩ = some (.int .i64 x.d) from
    ⟨(hb.cell (p := ⟨W.heap.size + 1, 0, none⟩) xc).trans a0, (hb.cell (p := ⟨W.heap.size + 1, 1, none⟩) xc).trans a1, (hb.cell (p := ⟨W.heap.size + 1, 2, none⟩) xc).trans a2, (hb.cell (p := ⟨W.heap.size + 1, 3, none⟩) xc).trans a3⟩))
  have R0 := Below.refl w1.heap.size w1
  clear hw0 hB0 hB1 hs0 hs1 xa hK hK1 HM hN wf HKK hl
  go_enter Try.func9, Try.ntmps9
  go_wp2_with fail
  rw [← hw1]
  clear hw1
  refine (MU.out _ R0).mono ?_
  rintro e w2 ⟨rfl, b2⟩
  go_wp2_with fail
  refine (LV.out _).mono ?_
  rintro e w3 ⟨rfl, b3⟩
  go_wp2_with fail
  go_ret
  exact ⟨rfl, hB.trans ((b2.trans (b3.mono b2.size)).mono hB.size)⟩
set_option maxRecDepth 100000 in
set_option maxHeartbeats 4000000 in
theorem noplan (dk n dir : Int) (s : Value) (t : Fo) (x : Nam) (W : World) (hK : Kids W W.heap.size s t) (wf : t.wf) (wk : -9223372036854775808 ≤ dk ∧ dk ≤ 9223372036854775807) (wn : -9223372036854775808 ≤ n ∧ n ≤ 9223372036854775807) (hN : t.cnt ≤ 1048576) (hbig : ¬ 80 < t.cnt + 1) (hck : ckd dir (chkd dk n t) ≠ 0) :
    Calls Try.prog 9 #[.agg #[.int .i64 dk, .int .i64 n, s], .int .i64 dir, .agg #[.int .i64 x.k, .int .i64 x.n, .int .i64 x.m, .int .i64 x.d]] W fun e w' => e = .returned (.bool true) ∧ Below W.heap.size W w' := by
  have LV := Lib.hid (fun w => live15 w)
  obtain ⟨p, m, c, rfl, hc1, hc2, HM⟩ := hK.shape
  obtain ⟨w0, hw0, c0, c1, c2, hB0, hs0⟩ := box3 W dk n (.slice p m c) 24
  obtain ⟨w1, hw1, a0, a1, a2, a3, hB1, hs1⟩ := box4n w0 x.k x.n x.m x.d 54
  have hK1 := (hK.below (Nat.le_refl _) hB0).below (by omega) hB1
  have HKK := Lib.hid (fun (w' : World) (hb : Below w1.heap.size w1 w') => hK1.below (by omega) hb)
  have hl := fun (w' : World) (hb : Below w1.heap.size w1 w') => (show W.heap.size ≤ w'.heap.size by have := hb.size; omega)
  have MU := Lib.hid (fun w' hb => r13_much t (.slice p m c) dk n W.heap.size w' hN (HKK.out w' hb) (hl w' hb))
  rw [decide_eq_false hbig] at MU
  have NT := Lib.hid (fun w' hb => need_tables t (.slice p m c) dk n dir W.heap.size w' hN (HKK.out w' hb) (hl w' hb) wn wf)
  have RC := Lib.hid (fun w' hb => r15_check t (.slice p m c) dk n dir W.heap.size w' hN (HKK.out w' hb) (hl w' hb) wk wn wf)
  have TM := Lib.hid (fun w' hb => (show Calls Try.prog 49 #[.agg #[.int .i64 dk, .int .i64 n, .slice p m c], .int .i64 dir, .agg #[.int .i64 x.k, .int .i64 x.n, .int .i64 x.m, .int .i64 x.d]] w' fun e w'' => e = .returned (.int .i64 0) ∧ Below w'.heap.size w' w'' from by have := need_times t (.slice p m c) dk n dir x W.heap.size w' hN (HKK.out w' hb) (hl w' hb) wn wf; rw [if_neg hck] at this; exact this))
  rw [show tabsL dk n t dir = [] from if_neg hck] at NT
  generalize ckd dir (chkd dk n t) = ck at *
  have d0 : (ck != 0) = true := by simp [hck]
  have d1 : (ck != ck) = false := by simp
  have xa : W.heap.size < w0.heap.size := by omega
  have xb : W.heap.size < w1.heap.size := by omega
  have xc : W.heap.size + 1 < w1.heap.size := by omega
  replace c0 := (hB1.cell (p := ⟨W.heap.size, 0, none⟩) xa).trans c0
  replace c1 := (hB1.cell (p := ⟨W.heap.size, 1, none⟩) xa).trans c1
  replace c2 := (hB1.cell (p := ⟨W.heap.size, 2, none⟩) xa).trans c2
  have hB := hB0.trans (hB1.mono hB0.size)
  rw [hw0] at hw1
  rw [hs0] at a0 a1 a2 a3
  have KP := Lib.hid (fun (w' : World) (hb : Below w1.heap.size w1 w') => (show w'.cell? ⟨W.heap.size, 0, none⟩ = some (.int .i64 dk) ∧ w'.cell? ⟨W.heap.size, 1, none⟩ = some (.int .i64 n) ∧ w'.cell? ⟨W.heap.size, 2, none⟩ = some (.slice p m c) from
    ⟨(hb.cell (p := ⟨W.heap.size, 0, none⟩) xb).trans c0, (hb.cell (p := ⟨W.heap.size, 1, none⟩) xb).trans c1, (hb.cell (p := ⟨W.heap.size, 2, none⟩) xb).trans c2⟩))
  have KT := Lib.hid (fun (w' : World) (hb : Below w1.heap.size w1 w') => (show w'.cell? ⟨W.heap.size + 1, 0, none⟩ = some (.int .i64 x.k) ∧ w'.cell? ⟨W.heap.size + 1, 1, none⟩ = some (.int .i64 x.n) ∧ w'.cell? ⟨W.heap.size + 1, 2, none⟩ = some (.int .i64 x.m) ∧ w'.cell? ⟨W.heap.size + 1, 3, none⟩ = some (.int .i64 x.d) from
    ⟨(hb.cell (p := ⟨W.heap.size + 1, 0, none⟩) xc).trans a0, (hb.cell (p := ⟨W.heap.size + 1, 1, none⟩) xc).trans a1, (hb.cell (p := ⟨W.heap.size + 1, 2, none⟩) xc).trans a2, (hb.cell (p := ⟨W.heap.size + 1, 3, none⟩) xc).trans a3⟩))
  have R0 := Below.refl w1.heap.size w1
  clear hw0 hB0 hB1 hs0 hs1 xa hK hK1 HM hN wf HKK hl hck
  go_enter Try.func9, Try.ntmps9
  go_wp2_with fail
  rw [← hw1]
  clear hw1
  refine (MU.out _ R0).mono ?_
  rintro e w2 ⟨rfl, b2⟩
  obtain ⟨e0, e1, e2⟩ := KP.out _ b2
  clear c0 c1 c2 a0 a1 a2 a3 MU R0
  go_wp2_with fail
  refine (NT.out _ b2).mono ?_
  rintro e w3 ⟨la, lc, rfl, _, _, _, b3⟩
  have b3' := b2.trans (b3.mono b2.size)
  obtain ⟨f0, f1, f2⟩ := KP.out _ b3'
  clear e0 e1 e2 b2 b3 NT
  go_wp2_with fail
  refine (RC.out _ b3').mono ?_
  rintro e w4 ⟨rfl, b4⟩
  have b4' := b3'.trans (b4.mono b3'.size)
  obtain ⟨e0, e1, e2⟩ := KP.out _ b4'
  obtain ⟨t0, t1, t2, t3⟩ := KT.out _ b4'
  clear f0 f1 f2 b4 RC
  go_wp2_with fail
  refine (TM.out _ b4').mono ?_
  rintro e w5 ⟨rfl, b5⟩
  have b5' := b4'.trans (b5.mono b4'.size)
  clear b5
  go_wp2_with fail
  refine (LV.out _).mono ?_
  rintro e w6 ⟨rfl, b6⟩
  go_wp2_with fail
  go_ret
  exact ⟨rfl, hB.trans ((b5'.trans (b6.mono b5'.size)).mono hB.size)⟩
theorem walk (W : World) (dk0 dn0 : Int) (s0 : Value) (t0 : Fo) (hK0 : Kids W W.heap.size s0 t0) (wf0 : t0.wf) (wk0 : -9223372036854775808 ≤ dk0 ∧ dk0 ≤ 9223372036854775807) (wn0 : -9223372036854775808 ≤ dn0 ∧ dn0 ≤ 9223372036854775807) (hN0 : t0.cnt + 1 ≤ 1048576) (a1 : Int) (w1 : -9223372036854775808 ≤ a1 ∧ a1 ≤ 9223372036854775807) (a2_0 : Int) (w2_0 : -9223372036854775808 ≤ a2_0 ∧ a2_0 ≤ 9223372036854775807) (a2_1 : Int) (w2_1 : -9223372036854775808 ≤ a2_1 ∧ a2_1 ≤ 9223372036854775807) (a2_2 : Int) (w2_2 : -9223372036854775808 ≤ a2_2 ∧ a2_2 ≤ 9223372036854775807) (a2_3 : Int) (w2_3 : -9223372036854775808 ≤ a2_3 ∧ a2_3 ≤ 9223372036854775807) :
    Calls Try.prog 9 #[.agg #[.int .i64 dk0, .int .i64 dn0, s0], .int .i64 a1, .agg #[.int .i64 a2_0, .int .i64 a2_1, .int .i64 a2_2, .int .i64 a2_3]] W fun e W' => e = .returned (.bool true) ∧ Below W.heap.size W W' := by
  by_cases hbig : 80 < t0.cnt + 1
  · exact big dk0 dn0 a1 s0 t0 ⟨a2_0, a2_1, a2_2, a2_3⟩ W hK0 wf0 wk0 wn0 (by omega) hbig
  · by_cases hck : ckd a1 (chkd dk0 dn0 t0) = 0
    · exact plan dk0 dn0 a1 s0 t0 ⟨a2_0, a2_1, a2_2, a2_3⟩ W hK0 wf0 wk0 wn0 (by omega) ⟨w2_0, w2_1, w2_2, w2_3⟩ hbig hck
    · exact noplan dk0 dn0 a1 s0 t0 ⟨a2_0, a2_1, a2_2, a2_3⟩ W hK0 wf0 wk0 wn0 (by omega) hbig hck
end needTables
end Go.Proofs.Yticljddfdeocbaa
