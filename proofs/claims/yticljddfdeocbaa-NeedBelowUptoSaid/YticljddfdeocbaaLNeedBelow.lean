/- NeedBelow: the direction 0 needs no more tables than 1, and a plan needs those of what is below it; of arguments of a bulk of at most 1048576. -/
import Derived.Test.YticljddfdeocbaaD11
import Derived.Test.YticljddfdeocbaaLive15
import Derived.Test.YticljddfdeocbaaNeedr
import Derived.Test.YticljddfdeocbaaNonce
import Derived.Test.YticljddfdeocbaaDirs
namespace Go.Proofs.Yticljddfdeocbaa
open Go.ChangeShapes Go.WideShapes Go.ChangeAt Go.RowKit
set_option linter.unusedVariables false
namespace needBelow
set_option maxRecDepth 100000 in
set_option maxHeartbeats 4000000 in
theorem noplan (dk n : Int) (s : Value) (t : Fo) (x : Int) (W : World) (hK : Kids W W.heap.size s t) (wf : t.wf) (wk : -9223372036854775808 ≤ dk ∧ dk ≤ 9223372036854775807) (wn : -9223372036854775808 ≤ n ∧ n ≤ 9223372036854775807) (hN : t.cnt ≤ 1048576) (hx : 0 ≤ x ∧ x ≤ 255) (hbad : 80 < t.cnt + 1 ∨ chkd dk n t ≠ 0) :
    Calls Try.prog 10 #[.agg #[.int .i64 dk, .int .i64 n, s], .int .u8 x] W fun e w' => e = .returned (.bool true) ∧ Below W.heap.size W w' := by
  have LV := Lib.hid (fun w => live15 w)
  obtain ⟨p, m, c, rfl, hc1, hc2, HM⟩ := hK.shape
  obtain ⟨w0, hw0, c0, c1, c2, hB, hs0⟩ := box3 W dk n (.slice p m c) 24
  have hK0 := hK.below (Nat.le_refl _) hB
  have MU := Lib.hid (r13_much t (.slice p m c) dk n W.heap.size w0 hN hK0 (by omega))
  have RC := Lib.hid (fun w' h1 h2 => r15_check t (.slice p m c) dk n 0 W.heap.size w' hN h1 h2 wk wn wf)
  rw [show ckd 0 (chkd dk n t) = chkd dk n t from if_pos (.inl rfl)] at RC
  have xa : W.heap.size < w0.heap.size := by omega
  by_cases hbig : 80 < t.cnt + 1
  · rw [decide_eq_true hbig] at MU
    clear hbad RC hK hK0 HM hN
    go_enter Try.func10, Try.ntmps10
    go_wp2_with fail
    rw [← hw0]
    clear hw0
    refine MU.out.mono ?_
    rintro e w2 ⟨rfl, b2⟩
    go_wp2_with fail
    refine (LV.out _).mono ?_
    rintro e w3 ⟨rfl, b3⟩
    go_wp2_with fail
    go_ret
    exact ⟨rfl, hB.trans ((b2.trans (b3.mono b2.size)).mono hB.size)⟩
  · rw [decide_eq_false hbig] at MU
    have hck : chkd dk n t ≠ 0 := by rcases hbad with h | h; exact absurd h hbig; exact h
    generalize chkd dk n t = ck at *
    have d0 : (ck != 0) = true := by simp [hck]
    clear hbad HM hN
    go_enter Try.func10, Try.ntmps10
    go_wp2_with fail
    rw [← hw0]
    clear hw0
    refine MU.out.mono ?_
    rintro e w2 ⟨rfl, b2⟩
    have hK2 := hK0.below (by omega) b2
    have hs2 := b2.size
    have e0 := (b2.cell (p := ⟨W.heap.size, 0, none⟩) xa).trans c0
    have e1 := (b2.cell (p := ⟨W.heap.size, 1, none⟩) xa).trans c1
    have e2 := (b2.cell (p := ⟨W.heap.size, 2, none⟩) xa).trans c2
    clear c0 c1 c2 hK0
    go_wp2_with fail
    refine (RC.out _ hK2 (by omega)).mono ?_
    rintro e w3 ⟨rfl, b3⟩
    have hs3 := b3.size
    have hB3 := hB.trans ((b2.trans (b3.mono hs2)).mono hB.size)
    clear hK2 b2 b3
    go_wp2_with fail
    refine (LV.out _).mono ?_
    rintro e w4 ⟨rfl, b4⟩
    go_wp2_with fail
    go_ret
    exact ⟨rfl, hB3.trans (b4.mono hB3.size)⟩
set_option maxRecDepth 100000 in
set_option maxHeartbeats 8000000 in
theorem plan (dk n : Int) (s : Value) (t : Fo) (x : Nat) (W : World) (hK : Kids W W.heap.size s t) (wf : t.wf) (wk : -9223372036854775808 ≤ dk ∧ dk ≤ 9223372036854775807) (wn : -9223372036854775808 ≤ n ∧ n ≤ 9223372036854775807) (hN : t.cnt ≤ 1048576) (hx : x ≤ 255) (hbig : ¬ 80 < t.cnt + 1) (hck : chkd dk n t = 0) :
    Calls Try.prog 10 #[.agg #[.int .i64 dk, .int .i64 n, s], .int .u8 x] W fun e w' => e = .returned (.bool true) ∧ Below W.heap.size W w' := by
  have LV := Lib.hid (fun w => live15 w)
  have HT := Lib.hid (kind_top hck)
  have hul := under_law (kind_top hck)
  have OD := once_dirs dk n t
  have LF := Lib.hid (fun (h : t = .nil) => (show (once (namesN dk n t 0)).length = (once (namesN dk n t 1)).length by subst h; rw [leaf_once, leaf_once]))
  have TA : tabsL dk n t 0 = once (namesN dk n t 0) := if_pos (by rw [hck]; decide)
  have TB : tabsL dk n t 1 = once (namesN dk n t 1) := if_pos (by rw [hck]; decide)
  have OK := Lib.hid (fun i hi => once_kid (k := dk) (n := n) (dir := 1) (ks := t) i hi)
  have CK := Lib.hid (fun i hi => chk_kid hck i hi)
  have hlen : ∀ dir, (once (namesN dk n t dir)).length ≤ 200 := by
    intro dir
    have b0 := once_len (namesN dk n t dir)
    have b1 := named_len dk n dir (t.n 0)
    have b2 := names_len t (under dk dir)
    have b3 : (namesN dk n t dir).length ≤ 200 := by rw [namesN, List.length_append]; omega
    omega
  have ha2 := hlen 0
  have hb2 := hlen 1
  have KC := Lib.hid (fun i hi => Fo.cnt_kids t i hi)
  have KW := Lib.hid (fun i hi => Fo.wf_at t i wf hi)
  obtain ⟨p, m, c, rfl, hc1, hc2, HM⟩ := hK.shape
  obtain ⟨w0, hw0, c0, c1, c2, hB, hs0⟩ := box3 W dk n (.slice p m c) 24
  have hK0 := hK.below (Nat.le_refl _) hB
  have MU := Lib.hid (r13_much t (.slice p m c) dk n W.heap.size w0 hN hK0 (by omega))
  rw [decide_eq_false hbig] at MU
  have RC := Lib.hid (fun w' h1 h2 => r15_check t (.slice p m c) dk n 0 W.heap.size w' hN h1 h2 wk wn wf)
  have NA := Lib.hid (fun w' h1 h2 => need_tables t (.slice p m c) dk n 0 W.heap.size w' hN h1 h2 wn wf)
  have NB := Lib.hid (fun w' h1 h2 => need_tables t (.slice p m c) dk n 1 W.heap.size w' hN h1 h2 wn wf)
  rw [hck, show ckd 0 0 = 0 from rfl] at RC
  rw [hck, show ckd 0 0 = 0 from rfl, TA] at NA
  rw [hck, show ckd 1 0 = 0 from rfl, TB] at NB
  have xa : W.heap.size < w0.heap.size := by omega
  generalize once (namesN dk n t 0) = la at *
  generalize once (namesN dk n t 1) = lb at *
  have hcnt : t.cnt ≤ 80 := by omega
  obtain ⟨qa, hqa⟩ : ∃ q, la.length = q := ⟨_, rfl⟩
  obtain ⟨qb, hqb⟩ : ∃ q, lb.length = q := ⟨_, rfl⟩
  rw [hqa, hqb] at OD
  have HQA := Lib.hid hqa
  have HQB := Lib.hid hqb
  rw [hqa] at ha2
  rw [hqb] at hb2
  have dab : decide ((qb : Int) < (qa : Int)) = false := decide_eq_false (by omega)
  clear hbig TA TB hck hlen hK hN hqa hqb
  go_enter Try.func10, Try.ntmps10
  go_wp2_with fail
  rw [← hw0]
  clear hw0
  refine MU.out.mono ?_
  rintro e w2 ⟨rfl, b2⟩
  have hK2 := hK0.below (by omega) b2
  have hs2 := b2.size
  have e0 := (b2.cell (p := ⟨W.heap.size, 0, none⟩) xa).trans c0
  have e1 := (b2.cell (p := ⟨W.heap.size, 1, none⟩) xa).trans c1
  have e2 := (b2.cell (p := ⟨W.heap.size, 2, none⟩) xa).trans c2
  clear c0 c1 c2 hK0
  go_wp2_with fail
  refine (RC.out _ hK2 (by omega)).mono ?_
  rintro e w3 ⟨rfl, b3⟩
  have hs3 := b3.size
  have hK3 := hK2.below (by omega) b3
  have f0 := (b3.cell (p := ⟨W.heap.size, 0, none⟩) (by show W.heap.size < _; omega)).trans e0
  have f1 := (b3.cell (p := ⟨W.heap.size, 1, none⟩) (by show W.heap.size < _; omega)).trans e1
  have f2 := (b3.cell (p := ⟨W.heap.size, 2, none⟩) (by show W.heap.size < _; omega)).trans e2
  have hB3 := hB.trans ((b2.trans (b3.mono hs2)).mono hB.size)
  clear e0 e1 e2 hK2 b2 b3 hB
  go_wp2_with fail
  refine (NA.out _ hK3 (by omega)).mono ?_
  rintro e w4 ⟨a4, k4, rfl, hr4, hk4, hk4', b4⟩
  have hs4 := b4.size
  have hK4 := hK3.below (by omega) b4
  have e0 := (b4.cell (p := ⟨W.heap.size, 0, none⟩) (by show W.heap.size < _; omega)).trans f0
  have e1 := (b4.cell (p := ⟨W.heap.size, 1, none⟩) (by show W.heap.size < _; omega)).trans f1
  have e2 := (b4.cell (p := ⟨W.heap.size, 2, none⟩) (by show W.heap.size < _; omega)).trans f2
  have hB4 := hB3.trans (b4.mono hB3.size)
  rw [HQA.out] at hk4 ⊢
  clear f0 f1 f2 hK3 b4 hB3 hr4
  go_wp2_with fail
  refine (NB.out _ hK4 (by omega)).mono ?_
  rintro e w5 ⟨a5, k5, rfl, hr5, hk5, hk5', b5⟩
  have hs5 := b5.size
  have hK5 := hK4.below (by omega) b5
  have f0 := (b5.cell (p := ⟨W.heap.size, 0, none⟩) (by show W.heap.size < _; omega)).trans e0
  have f1 := (b5.cell (p := ⟨W.heap.size, 1, none⟩) (by show W.heap.size < _; omega)).trans e1
  have f2 := (b5.cell (p := ⟨W.heap.size, 2, none⟩) (by show W.heap.size < _; omega)).trans e2
  have HB5 := Lib.hid (hB4.trans (b5.mono hB4.size))
  have HR5 := Lib.hid hr5
  rw [HQB.out] at hk5 ⊢
  clear e0 e1 e2 hK4 b5 hB4 hr5
  by_cases hm : m = 0
  · subst hm
    have ht0 : t = .nil := by
      have h := HM.out
      cases t with
      | nil => rfl
      | cons _ _ _ _ => simp [Fo.len] at h
    have hqq : qa = qb := by rw [← HQA.out, ← HQB.out]; exact LF.out ht0
    subst hqq
    go_wp2_with fail
    refine (LV.out _).mono ?_
    rintro e w6 ⟨rfl, b6⟩
    go_wp2_with fail
    go_ret
    exact ⟨rfl, HB5.out.trans (b6.mono HB5.out.size)⟩
  · have hm0 : 0 < m := Nat.pos_of_ne_zero hm
    obtain ⟨j, hj⟩ : ∃ j, x % m = j := ⟨_, rfl⟩
    have hjm : j < m := by rw [← hj]; exact Nat.mod_lt _ hm0
    have hjt : j < t.len := by rw [← HM.out]; exact hjm
    obtain ⟨b, o, v, rfl, hb, g0, g1, g2, hkk⟩ := hK5.get hjm
    obtain ⟨p2, m2, c2, rfl, hc21, hc22, HM2⟩ := hkk.shape
    have OKJ := Lib.hid (OK.out j hjt)
    have CKJ := Lib.hid (CK.out j hjt)
    have KCJ := KC.out j hjt
    have KWJ := Lib.hid (KW.out j hjt)
    generalize t.k j = kk at *
    generalize t.n j = kn at *
    generalize t.kids j = kt at *
    have dm : ((m : Int) == 0) = false := by simp; omega
    have hej : Int.tmod (x : Int) (m : Int) = (j : Int) := by rw [← hj]; rfl
    have djm : decide ((j : Int) < (m : Int)) = true := decide_eq_true (by omega)
    go_wp2_with fail
    have hej2 : (x : Int) % (m : Int) = (j : Int) := by rw [← hj]; rfl
    have z0 : (0 : Int) ≤ (j : Int) := by omega
    have z1 : (j : Int) ≤ (m : Int) := by omega
    have z2 : (j : Int) < (m : Int) := by omega
    have hwx : IntKind.i64.wrap (x : Int) = x := IntWalk.i64_in _ (by omega)
    have hwj : IntKind.i64.wrap (j : Int) = j := IntWalk.i64_in _ (by omega)
    have hWl : W.heap.size < w5.heap.size := by omega
    have hbl : b < w5.heap.size := by omega
    go_region
    obtain ⟨w6, hw6, k0, k1, k2, hB6, hs6⟩ := box3 w5 kk kn (.slice p2 m2 c2) 24
    rw [← hw6]
    have hK6 := hkk.below (by omega) hB6
    have e0 := (hB6.cell (p := ⟨W.heap.size, 0, none⟩) hWl).trans f0
    have HB6 := Lib.hid ((HB5.out.trans (hB6.mono HB5.out.size)).drew)
    have HR6 := Lib.hid (HR5.out.carry hB6.drew)
    have CKX := Lib.hid (fun (dir : Int) (hd : dir = 0 ∨ dir = 1) (hu : dir = under dk 1) => (show Calls Try.prog 47 #[.agg #[.int .i64 kk, .int .i64 kn, .slice p2 m2 c2], .int .i64 dir] w6.drew (fun e w' => ∃ (l : List Nam) (a : Option Addr) (q k : Nat), l.length = q ∧ q ≤ 200 ∧ e = .returned (.tuple #[.slice a q k, .int .i64 0]) ∧ NRow w' w'.heap.size a l ∧ (∀ y ∈ l, y ∈ lb) ∧ k ≤ 9223372036854775807 ∧ Below w6.drew.heap.size w6.drew w') from by
      have h0 : ckd dir (chkd kk kn kt) = 0 := by rw [CKJ.out]; exact if_pos hd
      refine (need_tables kt (.slice p2 m2 c2) kk kn dir W.heap.size w6.drew (by omega) (hK6.carry (Below.refl _ _).drew) (by show W.heap.size ≤ w6.heap.size; omega) KWJ.out.2.1 KWJ.out.2.2).mono ?_
      rintro e w' ⟨a, k, rfl, hr, hk1, hk2, hb7⟩
      have hT : tabsL kk kn kt dir = once (namesN kk kn kt dir) := if_pos h0
      rw [hT] at hr hk1 ⊢
      rw [h0]
      refine ⟨_, a, _, k, rfl, ?_, rfl, hr, ?_, hk2, hb7⟩
      · have b0 := once_len (namesN kk kn kt dir)
        have b1 := named_len kk kn dir (kt.n 0)
        have b2 := names_len kt (under kk dir)
        rw [namesN, List.length_append] at b0
        exact Nat.le_trans b0 (by omega)
      · intro y hy
        rw [hu] at hy
        exact OKJ.out y hy))
    have CKY : Calls Try.prog 47 #[.agg #[.int .i64 kk, .int .i64 kn, .slice p2 m2 c2], .int .i64 (if 5 < dk then 0 else 1)] w6.drew (fun e w' => ∃ (l : List Nam) (a : Option Addr) (q k : Nat), l.length = q ∧ q ≤ 200 ∧ e = .returned (.tuple #[.slice a q k, .int .i64 0]) ∧ NRow w' w'.heap.size a l ∧ (∀ y ∈ l, y ∈ lb) ∧ k ≤ 9223372036854775807 ∧ Below w6.drew.heap.size w6.drew w') :=
      CKX.out (if 5 < dk then 0 else 1) (by split; exact .inl rfl; exact .inr rfl) hul
    have HAS := Lib.hid (fun (y : Nam) (w : World) (hy : y ∈ lb) (h1 : NRow w w5.heap.size a5 lb) (h2 : w5.heap.size ≤ w.heap.size) => (show Calls Try.prog 53 #[.slice a5 qb k5, .agg #[.int .i64 y.k, .int .i64 y.n, .int .i64 y.m, .int .i64 y.d]] w (fun e w' => e = .returned (.bool true) ∧ Below w.heap.size w w') from by
      have h := r15_has lb y a5 k5 w5.heap.size w h1 h2 (by rw [HQB.out]; omega)
      rw [HQB.out, decide_eq_true hy] at h
      exact h))
    clear f0 f1 f2 g0 g1 g2 hkk hK5 hB6 hK6 HB5 HR5 CKX HM2 OKJ CKJ KWJ hw6 hul
    by_cases h5 : 5 < dk
    · rw [if_pos h5] at CKY
      have d5 : decide (5 < dk) = true := decide_eq_true h5
      have CKZ := Lib.hid CKY
      clear CKY h5
      go_wp2_with fail
      refine CKZ.out.mono ?_
      rintro e w7 ⟨l, a7, q7, k7, hl7, hq7, rfl, hr7, hin7, hk7, b7⟩
      have HB7 := Lib.hid (HB6.out.trans (b7.mono HB6.out.size))
      have HR7 := Lib.hid (HR6.out.carry (b7.mono (show w5.heap.size ≤ w6.drew.heap.size by show w5.heap.size ≤ w6.heap.size; omega)))
      have HX7 := Lib.hid hr7
      have HL7 := Lib.hid hl7
      have HI7 := Lib.hid hin7
      have hs7 : w5.heap.size ≤ w7.heap.size := Nat.le_trans (show w5.heap.size ≤ w6.drew.heap.size by show w5.heap.size ≤ w6.heap.size; omega) b7.size
      clear hr7 hl7 hin7 b7 k0 k1 k2 e0 CKZ HR6 HB6
      go_wp2_with fail
      go_loopw [13] (fun y wr => ∃ i : Nat, i ≤ q7 ∧ y = .int .i64 i ∧ Hid (Below w7.heap.size w7 wr)) (fun y _ => q7 - (intOf y).toNat)
      case atStart => exact ⟨0, Nat.zero_le _, rfl, Lib.hid (Below.refl _ _)⟩
      case round =>
        obtain ⟨i, hi, rfl, HB⟩ := hrel
        have hs8 := HB.out.size
        by_cases hlt : i < q7
        · have hi1 : i < l.length := by rw [HL7.out]; exact hlt
          obtain ⟨b8, o8, rfl, hb8, u0, u1, u2, u3⟩ := HX7.out.get hi1
          have u0 := (HB.out.cell (p := ⟨b8, _, none⟩) (by show b8 < _; omega)).trans u0
          have u1 := (HB.out.cell (p := ⟨b8, _, none⟩) (by show b8 < _; omega)).trans u1
          have u2 := (HB.out.cell (p := ⟨b8, _, none⟩) (by show b8 < _; omega)).trans u2
          have u3 := (HB.out.cell (p := ⟨b8, _, none⟩) (by show b8 < _; omega)).trans u3
          have dd : decide ((i : Int) < (q7 : Int)) = true := decide_eq_true (by omega)
          have HY := Lib.hid (HAS.out l[i] wr (HI7.out _ (List.getElem_mem hi1)) (HR7.out.carry (HB.out.mono hs7)) (by omega))
          generalize l[i] = Y at *
          go_wp2_with fail
          refine HY.out.mono ?_
          rintro e w8 ⟨rfl, b8'⟩
          have HB8 := Lib.hid (HB.out.trans (b8'.mono hs8))
          clear b8' u0 u1 u2 u3 HY
          go_wp2_with fail
          go_roundw
          case rel => exact ⟨i + 1, by omega, by go_num, HB8⟩
          case measure => (first | (simp [intOf]; done) | (simp [intOf]; omega) | (simp only [intOf]; omega))
        · obtain rfl : i = q7 := by omega
          have dd : decide ((i : Int) < (i : Int)) = false := decide_eq_false (by omega)
          go_wp2_with fail
          refine (LV.out _).mono ?_
          rintro e w9 ⟨rfl, b9⟩
          go_wp2_with fail
          go_ret
          exact ⟨rfl, HB7.out.trans ((HB.out.trans (b9.mono hs8)).mono HB7.out.size)⟩
    · rw [if_neg h5] at CKY
      have d5 : decide (5 < dk) = false := decide_eq_false h5
      have CKZ := Lib.hid CKY
      clear CKY h5
      go_wp2_with fail
      refine CKZ.out.mono ?_
      rintro e w7 ⟨l, a7, q7, k7, hl7, hq7, rfl, hr7, hin7, hk7, b7⟩
      have HB7 := Lib.hid (HB6.out.trans (b7.mono HB6.out.size))
      have HR7 := Lib.hid (HR6.out.carry (b7.mono (show w5.heap.size ≤ w6.drew.heap.size by show w5.heap.size ≤ w6.heap.size; omega)))
      have HX7 := Lib.hid hr7
      have HL7 := Lib.hid hl7
      have HI7 := Lib.hid hin7
      have hs7 : w5.heap.size ≤ w7.heap.size := Nat.le_trans (show w5.heap.size ≤ w6.drew.heap.size by show w5.heap.size ≤ w6.heap.size; omega) b7.size
      clear hr7 hl7 hin7 b7 k0 k1 k2 e0 CKZ HR6 HB6
      go_wp2_with fail
      go_loopw [13] (fun y wr => ∃ i : Nat, i ≤ q7 ∧ y = .int .i64 i ∧ Hid (Below w7.heap.size w7 wr)) (fun y _ => q7 - (intOf y).toNat)
      case atStart => exact ⟨0, Nat.zero_le _, rfl, Lib.hid (Below.refl _ _)⟩
      case round =>
        obtain ⟨i, hi, rfl, HB⟩ := hrel
        have hs8 := HB.out.size
        by_cases hlt : i < q7
        · have hi1 : i < l.length := by rw [HL7.out]; exact hlt
          obtain ⟨b8, o8, rfl, hb8, u0, u1, u2, u3⟩ := HX7.out.get hi1
          have u0 := (HB.out.cell (p := ⟨b8, _, none⟩) (by show b8 < _; omega)).trans u0
          have u1 := (HB.out.cell (p := ⟨b8, _, none⟩) (by show b8 < _; omega)).trans u1
          have u2 := (HB.out.cell (p := ⟨b8, _, none⟩) (by show b8 < _; omega)).trans u2
          have u3 := (HB.out.cell (p := ⟨b8, _, none⟩) (by show b8 < _; omega)).trans u3
          have dd : decide ((i : Int) < (q7 : Int)) = true := decide_eq_true (by omega)
          have HY := Lib.hid (HAS.out l[i] wr (HI7.out _ (List.getElem_mem hi1)) (HR7.out.carry (HB.out.mono hs7)) (by omega))
          generalize l[i] = Y at *
          go_wp2_with fail
          refine HY.out.mono ?_
          rintro e w8 ⟨rfl, b8'⟩
          have HB8 := Lib.hid (HB.out.trans (b8'.mono hs8))
          clear b8' u0 u1 u2 u3 HY
          go_wp2_with fail
          go_roundw
          case rel => exact ⟨i + 1, by omega, by go_num, HB8⟩
          case measure => (first | (simp [intOf]; done) | (simp [intOf]; omega) | (simp only [intOf]; omega))
        · obtain rfl : i = q7 := by omega
          have dd : decide ((i : Int) < (i : Int)) = false := decide_eq_false (by omega)
          go_wp2_with fail
          refine (LV.out _).mono ?_
          rintro e w9 ⟨rfl, b9⟩
          go_wp2_with fail
          go_ret
          exact ⟨rfl, HB7.out.trans ((HB.out.trans (b9.mono hs8)).mono HB7.out.size)⟩
theorem walk (W : World) (dk0 dn0 : Int) (s0 : Value) (t0 : Fo) (hK0 : Kids W W.heap.size s0 t0) (wf0 : t0.wf) (wk0 : -9223372036854775808 ≤ dk0 ∧ dk0 ≤ 9223372036854775807) (wn0 : -9223372036854775808 ≤ dn0 ∧ dn0 ≤ 9223372036854775807) (hN0 : t0.cnt + 1 ≤ 1048576) (a1 : Int) (w1 : 0 ≤ a1 ∧ a1 ≤ 255) :
    Calls Try.prog 10 #[.agg #[.int .i64 dk0, .int .i64 dn0, s0], .int .u8 a1] W fun e W' => e = .returned (.bool true) ∧ Below W.heap.size W W' := by
  by_cases hbad : 80 < t0.cnt + 1 ∨ chkd dk0 dn0 t0 ≠ 0
  · exact noplan dk0 dn0 s0 t0 a1 W hK0 wf0 wk0 wn0 (by omega) w1 hbad
  · obtain ⟨x, rfl⟩ : ∃ x : Nat, a1 = x := ⟨a1.toNat, by omega⟩
    exact plan dk0 dn0 s0 t0 x W hK0 wf0 wk0 wn0 (by omega) (by omega) (fun h => hbad (.inl h)) (Classical.byContradiction fun h => hbad (.inr h))
end needBelow
end Go.Proofs.Yticljddfdeocbaa
