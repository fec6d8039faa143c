/- DescPlaces: the node at any place of any tree, and another one put there, or that there is none; of arguments of a bulk of at most 1048576. -/
import Derived.Test.YtfjioflggkmhcaaPutg
import Derived.Test.YtfjioflggkmhcaaPutr
import Derived.Test.YtfjioflggkmhcaaPutw
import Derived.Test.YtfjioflggkmhcaaCapof
import Derived.Test.YtfjioflggkmhcaaCmpr
import Derived.Test.YtfjioflggkmhcaaAtl
namespace Go.Proofs.Ytfjioflggkmhcaa
open Go.ChangeShapes Go.WideShapes Go.ChangeAt Go.RowKit
set_option linter.unusedVariables false
set_option linter.unusedSimpArgs false
theorem AtG.none' {lim : Nat} {e : Ending} {w' : World} (h : AtG lim none e w') : ∃ p c, e = .returned (.tuple #[.agg #[.int .i64 0, .int .i64 0, .slice p 0 c], .bool false]) ∧ Kids w' lim (.slice p 0 c) .nil := by
  obtain ⟨k, n, p, m, c, ok, ks, rfl, hK, hy, hn⟩ := h
  cases ok with
  | true => cases hy rfl
  | false =>
    obtain ⟨-, rfl, rfl, rfl⟩ := hn rfl
    have hm : m = 0 := by obtain ⟨_, _, e, _⟩ := hK; cases e; rfl
    subst hm
    exact ⟨p, c, rfl, hK⟩
theorem AtG.some' {lim : Nat} {e : Ending} {w' : World} {k n : Int} {ks : Fo} (h : AtG lim (some (k, n, ks)) e w') : ∃ p c, e = .returned (.tuple #[.agg #[.int .i64 k, .int .i64 n, .slice p ks.len c], .bool true]) ∧ Kids w' lim (.slice p ks.len c) ks := by
  obtain ⟨k', n', p, m, c, ok, ks', rfl, hK, hy, hn⟩ := h
  cases ok with
  | false => cases (hn rfl).1
  | true =>
    cases hy rfl
    have hm : m = ks.len := by obtain ⟨_, _, e, _⟩ := hK; cases e; rfl
    subst hm
    exact ⟨p, c, rfl, hK⟩
theorem at_put : ∀ (xs : List Int) (k n : Int) (ks : Fo) (w : Int × Int × Fo), (atN k n ks xs).isSome → atN (putN k n ks xs w).1 (putN k n ks xs w).2.1 (putN k n ks xs w).2.2 xs = some w
  | [], k, n, ks, w, _ => rfl
  | i :: r, k, n, ks, w, h => by
    rw [atN] at h
    by_cases hi : i < 0 ∨ (ks.len : Int) ≤ i
    · rw [if_pos hi] at h; cases h
    · rw [if_neg hi] at h
      rw [putN, atN, setk_len, if_neg hi]
      obtain ⟨e1, e2, e3⟩ := setk_same ks i.toNat (putN (ks.k i.toNat) (ks.n i.toNat) (ks.kids i.toNat) r w).1 (putN (ks.k i.toNat) (ks.n i.toNat) (ks.kids i.toNat) r w).2.1 (putN (ks.k i.toNat) (ks.n i.toNat) (ks.kids i.toNat) r w).2.2 (by omega)
      rw [e1, e2, e3]
      exact at_put r _ _ _ w h
namespace descPlaces
set_option maxRecDepth 100000 in
set_option maxHeartbeats 8000000 in
theorem main (k n k' n' : Int) (s s' : Value) (t t' : Fo) (a : Option Addr) (d : Nat) (xs : List Int) (W : World) (hK : Kids W W.heap.size s t) (hK' : Kids W W.heap.size s' t') (wf : t.wf) (wk : In64 k) (wn : In64 n) (wf' : t'.wf) (wk' : In64 k') (wn' : In64 n') (hN : t.cnt ≤ 1048575) (hN' : t'.cnt ≤ 1048575) (hX : RowI W a xs.length xs) (hd : xs.length ≤ d) (hd2 : d ≤ 9223372036854775807) :
    Calls Try.prog 5 #[.agg #[.int .i64 k, .int .i64 n, s], .slice a xs.length d, .agg #[.int .i64 k', .int .i64 n', s']] W fun e w' => e = .returned (.bool true) ∧ Below W.heap.size W w' := by
  have LV := Lib.hid (fun w => live13 w)
  obtain ⟨p, m, c, rfl, _, _, HM⟩ := hK.shape
  obtain ⟨p', m', c', rfl, _, _, HM'⟩ := hK'.shape
  obtain ⟨w1, hw1, r0, r1, hB, hs1⟩ := clone_start W (.int .i64 k) (.int .i64 n) (.slice p m c) (.int .i64 k') (.int .i64 n') (.slice p' m' c') 24
  have hl := fun (w' : World) (hb : Below w1.heap.size w1 w') => (show W.heap.size ≤ w'.heap.size by have := hb.size; omega)
  have HK := Lib.hid (fun (w' : World) (hb : Below w1.heap.size w1 w') => (hK.carry hB).carry (hb.mono (by omega)))
  have HK' := Lib.hid (fun (w' : World) (hb : Below w1.heap.size w1 w') => (hK'.carry hB).carry (hb.mono (by omega)))
  have HX := Lib.hid (fun (w' : World) (hb : Below w1.heap.size w1 w') => (hX.below hB).below hb)
  have MU := Lib.hid (fun w' hb => r13_much t (.slice p m c) k n W.heap.size w' (by omega) (HK.out w' hb) (hl w' hb))
  have MU' := Lib.hid (fun w' hb => r13_much t' (.slice p' m' c') k' n' W.heap.size w' (by omega) (HK'.out w' hb) (hl w' hb))
  have ATR := Lib.hid (fun w' hb => r13_at xs k n t p m c W.heap.size a d w' (HK.out w' hb) (hl w' hb) (HX.out w' hb) hd hd2)
  have ATD := Lib.hid (fun w' hb => desc_at xs k n t p m c W.heap.size a d w' (HK.out w' hb) (hl w' hb) (HX.out w' hb) hd hd2 (by omega))
  have PTD := Lib.hid (fun w' hb => desc_put xs k n k' n' t t' p p' m c m' c' W.heap.size a d w' (HK.out w' hb) (HK'.out w' hb) (hl w' hb) (HX.out w' hb) hd hd2 (by omega) (by omega))
  have PTR := Lib.hid (fun w' hb hv => r13_put k' n' t' (.slice p' m' c') W.heap.size (by omega) xs k n t (.slice p m c) a d w' (HK.out w' hb) (HK'.out w' hb) (hl w' hb) (HX.out w' hb) hd hd2 hv (by omega))
  have ATP := Lib.hid (fun (k2 n2 : Int) (t2 : Fo) (p2 : Option Addr) (m2 c2 lim : Nat) (w' : World) (hb : Below w1.heap.size w1 w') (h1 : Kids w' lim (.slice p2 m2 c2) t2) (h2 : lim ≤ w'.heap.size) (h3 : t2.cnt ≤ 1048576) => desc_at xs k2 n2 t2 p2 m2 c2 lim a d w' h1 h2 (HX.out w' hb) hd hd2 h3)
  have SM := Lib.hid (fun (k1 n1 k2 n2 : Int) (t1 t2 : Fo) (v1 v2 : Value) (w' : World) (h1 : Kids w' w'.heap.size v1 t1) (h2 : Kids w' w'.heap.size v2 t2) => r13_same t1 t2 v1 v2 k1 n1 k2 n2 w'.heap.size w' h1 h2 (Nat.le_refl _))
  have PW := Lib.hid (fun h => put_wf (k', n', t') wk' wn' wf' xs k n t h wk wn wf)
  have AP := Lib.hid (fun h => at_put xs k n t (k', n', t') h)
  have R0 := Below.refl w1.heap.size w1
  have hs : W.heap.size ≤ w1.heap.size := hB.size
  have lw0 : W.heap.size < w1.heap.size := by omega
  have lw1 : W.heap.size + 1 < w1.heap.size := by omega
  obtain ⟨L, hL⟩ : ∃ L, xs.length = L := ⟨_, rfl⟩
  rw [hL] at ATR ATD PTD PTR ATP ⊢
  have RD := Lib.hid (fun (w' : World) (hb : Below w1.heap.size w1 w') => row_cells3 ((hb.block _ lw0).trans r0))
  have RW := Lib.hid (fun (w' : World) (hb : Below w1.heap.size w1 w') => row_cells3 ((hb.block _ lw1).trans r1))
  have HKD := Lib.hid (fun (w' : World) (hb : Below w1.heap.size w1 w') => (HK'.out w' hb).mono (hl w' hb))
  clear hK hK' HM HM' HK HK' HX hl hX hL r0 r1
  have hlx : (0:Int) ≤ (L : Int) := by omega
  by_cases hbig : 80 < t.cnt + 1
  · rw [decide_eq_true hbig] at MU
    go_enter Try.func5, Try.ntmps5
    obtain ⟨c0, c1, c2, -, -, -⟩ := RD.out _ R0
    obtain ⟨a0, a1, a2, -, -, -⟩ := RW.out _ R0
    go_wp2_with fail
    rw [← hw1]
    clear hw1
    refine (MU.out _ R0).mono ?_
    rintro e w2 ⟨rfl, b2⟩
    clear c0 c1 c2 a0 a1 a2
    go_wp2_with fail
    refine (LV.out _).mono ?_
    rintro e wz ⟨rfl, bz⟩
    go_wp2_with fail
    go_ret
    exact ⟨rfl, hB.trans ((b2.trans (bz.mono b2.size)).mono hB.size)⟩
  rw [decide_eq_false hbig] at MU
  by_cases hbig' : 80 < t'.cnt + 1
  · rw [decide_eq_true hbig'] at MU'
    go_enter Try.func5, Try.ntmps5
    obtain ⟨c0, c1, c2, -, -, -⟩ := RD.out _ R0
    obtain ⟨a0, a1, a2, -, -, -⟩ := RW.out _ R0
    go_wp2_with fail
    rw [← hw1]
    clear hw1
    refine (MU.out _ R0).mono ?_
    rintro e w2 ⟨rfl, b2⟩
    clear c0 c1 c2 a0 a1 a2
    obtain ⟨a0, a1, a2, -, -, -⟩ := RW.out _ b2
    go_wp2_with fail
    refine (MU'.out _ b2).mono ?_
    rintro e w3 ⟨rfl, b3⟩
    replace b3 := b2.trans (b3.mono b2.size)
    clear a0 a1 a2
    go_wp2_with fail
    refine (LV.out _).mono ?_
    rintro e wz ⟨rfl, bz⟩
    go_wp2_with fail
    go_ret
    exact ⟨rfl, hB.trans ((b3.trans (bz.mono b3.size)).mono hB.size)⟩
  rw [decide_eq_false hbig'] at MU'
  by_cases hlen : 100 < L
  · have dl : decide ((100 : Int) < (L : Int)) = true := decide_eq_true (by omega)
    go_enter Try.func5, Try.ntmps5
    obtain ⟨c0, c1, c2, -, -, -⟩ := RD.out _ R0
    obtain ⟨a0, a1, a2, -, -, -⟩ := RW.out _ R0
    go_wp2_with fail
    rw [← hw1]
    clear hw1
    refine (MU.out _ R0).mono ?_
    rintro e w2 ⟨rfl, b2⟩
    clear c0 c1 c2 a0 a1 a2
    obtain ⟨a0, a1, a2, -, -, -⟩ := RW.out _ b2
    go_wp2_with fail
    refine (MU'.out _ b2).mono ?_
    rintro e w3 ⟨rfl, b3⟩
    replace b3 := b2.trans (b3.mono b2.size)
    clear a0 a1 a2
    go_wp2_with fail
    refine (LV.out _).mono ?_
    rintro e wz ⟨rfl, bz⟩
    go_wp2_with fail
    go_ret
    exact ⟨rfl, hB.trans ((b3.trans (bz.mono b3.size)).mono hB.size)⟩
  have dl : decide ((100 : Int) < (L : Int)) = false := decide_eq_false (by omega)
  obtain ⟨O, hO⟩ : ∃ O, atN k n t xs = O := ⟨_, rfl⟩
  rw [hO] at ATR ATD PTD PTR AP PW
  rcases O with _ | ⟨k5, n5, t5⟩
  · clear PTR AP PW
    go_enter Try.func5, Try.ntmps5
    obtain ⟨c0, c1, c2, -, -, -⟩ := RD.out _ R0
    obtain ⟨a0, a1, a2, -, -, -⟩ := RW.out _ R0
    go_wp2_with fail
    rw [← hw1]
    clear hw1
    refine (MU.out _ R0).mono ?_
    rintro e w2 ⟨rfl, b2⟩
    clear c0 c1 c2 a0 a1 a2
    obtain ⟨a0, a1, a2, -, -, -⟩ := RW.out _ b2
    go_wp2_with fail
    refine (MU'.out _ b2).mono ?_
    rintro e w3 ⟨rfl, b3⟩
    replace b3 := b2.trans (b3.mono b2.size)
    clear a0 a1 a2
    obtain ⟨c0, c1, c2, -, -, -⟩ := RD.out _ b3
    go_wp2_with fail
    refine (ATD.out _ b3).mono ?_
    rintro e w4 ⟨hAt, b4⟩
    obtain ⟨px, cx, rfl, KX⟩ := hAt.none'
    have B4 := b3.trans (b4.mono b3.size)
    clear c0 c1 c2 b4 hAt
    obtain ⟨w5, hw5⟩ : ∃ w5, w4.alloc (.cells #[.int .i64 0, .int .i64 0, .slice px 0 cx] 24) = w5 := ⟨_, rfl⟩
    have HXB := Lib.hid (show w5.heap[w4.heap.size]? = some (.cells #[.int .i64 0, .int .i64 0, .slice px 0 cx] 24 (0, 0)) by rw [← hw5]; exact heap_alloc_new w4 _)
    have b5 : Below w4.heap.size w4 w5 := by rw [← hw5]; exact (Below.refl _ _).alloc (Nat.le_refl _) _
    have LX := b5.size
    replace KX := Lib.hid (KX.carry b5)
    have B5 := B4.trans (b5.mono B4.size)
    obtain ⟨gx, hgx⟩ : ∃ g, w4.heap.size = g := ⟨_, rfl⟩
    rw [hgx] at HXB KX LX
    clear b5
    obtain ⟨c0, c1, c2, -, -, -⟩ := RD.out _ B5
    obtain ⟨a0, a1, a2, -, -, -⟩ := RW.out _ B5
    go_wp2_with fail
    clear hw5
    refine (PTD.out _ B5).mono ?_
    rintro e w6 ⟨hPt, b6⟩
    obtain ⟨pp, cp, rfl, KP⟩ := AtG.none' hPt
    replace HXB := Lib.hid ((b6.block _ (Array.getElem?_eq_some_iff.1 HXB.out).1).trans HXB.out)
    replace KX := Lib.hid (KX.out.carry (b6.mono LX))
    replace LX := Nat.le_trans LX b6.size
    have B6 := B5.trans (b6.mono B5.size)
    clear c0 c1 c2 a0 a1 a2 b6 hPt
    obtain ⟨w7, hw7⟩ : ∃ w7, w6.alloc (.cells #[.int .i64 0, .int .i64 0, .slice pp 0 cp] 24) = w7 := ⟨_, rfl⟩
    have HPB := Lib.hid (show w7.heap[w6.heap.size]? = some (.cells #[.int .i64 0, .int .i64 0, .slice pp 0 cp] 24 (0, 0)) by rw [← hw7]; exact heap_alloc_new w6 _)
    have b7 : Below w6.heap.size w6 w7 := by rw [← hw7]; exact (Below.refl _ _).alloc (Nat.le_refl _) _
    have LP := b7.size
    replace KP := Lib.hid (KP.carry b7)
    obtain ⟨gp, hgp⟩ : ∃ g, w6.heap.size = g := ⟨_, rfl⟩
    replace HXB := Lib.hid ((b7.block _ (Array.getElem?_eq_some_iff.1 HXB.out).1).trans HXB.out)
    replace KX := Lib.hid (KX.out.carry (b7.mono LX))
    replace LX := Nat.le_trans LX b7.size
    have B7 := B6.trans (b7.mono B6.size)
    rw [hgp] at HPB KP LP
    clear b7
    obtain ⟨c0, c1, c2, -, -, -⟩ := RD.out _ B7
    go_wp2_with fail
    clear hw7
    refine (ATR.out _ B7).mono ?_
    rintro e w8 ⟨hAt, b8⟩
    obtain ⟨pw, cw, rfl, KW⟩ := hAt.none'
    have LW : W.heap.size ≤ w8.heap.size := Nat.le_trans hB.size (Nat.le_trans B7.size b8.size)
    replace HXB := Lib.hid ((b8.block _ (Array.getElem?_eq_some_iff.1 HXB.out).1).trans HXB.out)
    replace HPB := Lib.hid ((b8.block _ (Array.getElem?_eq_some_iff.1 HPB.out).1).trans HPB.out)
    replace KX := Lib.hid (KX.out.carry (b8.mono LX))
    replace LX := Nat.le_trans LX b8.size
    replace KP := Lib.hid (KP.out.carry (b8.mono LP))
    replace LP := Nat.le_trans LP b8.size
    have B8 := B7.trans (b8.mono B7.size)
    clear c0 c1 c2 b8 hAt
    obtain ⟨w9, hw9⟩ : ∃ w9, w8.alloc (.cells #[.int .i64 0, .int .i64 0, .slice pw 0 cw] 24) = w9 := ⟨_, rfl⟩
    have HWB := Lib.hid (show w9.heap[w8.heap.size]? = some (.cells #[.int .i64 0, .int .i64 0, .slice pw 0 cw] 24 (0, 0)) by rw [← hw9]; exact heap_alloc_new w8 _)
    have b9 : Below w8.heap.size w8 w9 := by rw [← hw9]; exact (Below.refl _ _).alloc (Nat.le_refl _) _
    obtain ⟨gw, hgw⟩ : ∃ g, w8.heap.size = g := ⟨_, rfl⟩
    replace KW := Lib.hid KW
    replace HXB := Lib.hid ((b9.block _ (Array.getElem?_eq_some_iff.1 HXB.out).1).trans HXB.out)
    replace HPB := Lib.hid ((b9.block _ (Array.getElem?_eq_some_iff.1 HPB.out).1).trans HPB.out)
    replace KX := Lib.hid (KX.out.carry (b9.mono LX))
    replace LX := Nat.le_trans LX b9.size
    replace KP := Lib.hid (KP.out.carry (b9.mono LP))
    replace LP := Nat.le_trans LP b9.size
    replace KW := Lib.hid (KW.out.carry (b9.mono LW))
    replace LW := Nat.le_trans LW b9.size
    have B9 := B8.trans (b9.mono B8.size)
    rw [hgw] at HWB
    clear b9
    obtain ⟨hxb0, hxb1, hxb2, -, -, -⟩ := row_cells3 HXB.out
    obtain ⟨hwb0, hwb1, hwb2, -, -, -⟩ := row_cells3 HWB.out
    have S1 := SM.out 0 0 0 0 .nil .nil _ _ w9 (KX.out.mono LX) (KW.out.mono LW)
    rw [cmpN_self] at S1
    replace S1 := Lib.hid S1
    go_wp2_with fail
    clear hw9
    refine (S1.out).mono ?_
    rintro e w10 ⟨rfl, b10⟩
    clear hxb0 hxb1 hxb2 hwb0 hwb1 hwb2
    replace HXB := Lib.hid ((b10.block _ (Array.getElem?_eq_some_iff.1 HXB.out).1).trans HXB.out)
    replace HPB := Lib.hid ((b10.block _ (Array.getElem?_eq_some_iff.1 HPB.out).1).trans HPB.out)
    replace HWB := Lib.hid ((b10.block _ (Array.getElem?_eq_some_iff.1 HWB.out).1).trans HWB.out)
    replace KX := Lib.hid (KX.out.carry (b10.mono LX))
    replace LX := Nat.le_trans LX b10.size
    replace KP := Lib.hid (KP.out.carry (b10.mono LP))
    replace LP := Nat.le_trans LP b10.size
    replace KW := Lib.hid (KW.out.carry (b10.mono LW))
    replace LW := Nat.le_trans LW b10.size
    have B10 := B9.trans (b10.mono B9.size)
    clear b10 S1
    obtain ⟨hpb0, hpb1, hpb2, -, -, -⟩ := row_cells3 HPB.out
    have S2 := SM.out 0 0 0 0 .nil .nil (.slice pp 0 cp) (.slice none 0 0) w10 (KP.out.mono LP) (Kids.nought _ _)
    rw [cmpN_self] at S2
    replace S2 := Lib.hid S2
    go_wp2_with fail
    refine (S2.out).mono ?_
    rintro e w11 ⟨rfl, b11⟩
    have B11 := B10.trans (b11.mono B10.size)
    clear b11 hpb0 hpb1 hpb2
    go_wp2_with fail
    refine (LV.out _).mono ?_
    rintro e wz ⟨rfl, bz⟩
    go_wp2_with fail
    go_ret
    exact ⟨rfl, hB.trans ((B11.trans (bz.mono B11.size)).mono hB.size)⟩
  · obtain ⟨kq, nq, tq, hput⟩ : ∃ kq nq tq, putN k n t xs (k', n', t') = (kq, nq, tq) := ⟨_, _, _, rfl⟩
    simp only [Option.map_some, hput] at PTD
    go_enter Try.func5, Try.ntmps5
    obtain ⟨c0, c1, c2, -, -, -⟩ := RD.out _ R0
    obtain ⟨a0, a1, a2, -, -, -⟩ := RW.out _ R0
    go_wp2_with fail
    rw [← hw1]
    clear hw1
    refine (MU.out _ R0).mono ?_
    rintro e w2 ⟨rfl, b2⟩
    clear c0 c1 c2 a0 a1 a2
    obtain ⟨a0, a1, a2, -, -, -⟩ := RW.out _ b2
    go_wp2_with fail
    refine (MU'.out _ b2).mono ?_
    rintro e w3 ⟨rfl, b3⟩
    replace b3 := b2.trans (b3.mono b2.size)
    clear a0 a1 a2
    obtain ⟨c0, c1, c2, -, -, -⟩ := RD.out _ b3
    go_wp2_with fail
    refine (ATD.out _ b3).mono ?_
    rintro e w4 ⟨hAt, b4⟩
    obtain ⟨px, cx, rfl, KX⟩ := hAt.some'
    have B4 := b3.trans (b4.mono b3.size)
    clear c0 c1 c2 b4 hAt
    obtain ⟨w5, hw5⟩ : ∃ w5, w4.alloc (.cells #[.int .i64 k5, .int .i64 n5, .slice px t5.len cx] 24) = w5 := ⟨_, rfl⟩
    have HXB := Lib.hid (show w5.heap[w4.heap.size]? = some (.cells #[.int .i64 k5, .int .i64 n5, .slice px t5.len cx] 24 (0, 0)) by rw [← hw5]; exact heap_alloc_new w4 _)
    have b5 : Below w4.heap.size w4 w5 := by rw [← hw5]; exact (Below.refl _ _).alloc (Nat.le_refl _) _
    have LX := b5.size
    replace KX := Lib.hid (KX.carry b5)
    have B5 := B4.trans (b5.mono B4.size)
    obtain ⟨gx, hgx⟩ : ∃ g, w4.heap.size = g := ⟨_, rfl⟩
    rw [hgx] at HXB KX LX
    clear b5
    obtain ⟨c0, c1, c2, -, -, -⟩ := RD.out _ B5
    obtain ⟨a0, a1, a2, -, -, -⟩ := RW.out _ B5
    go_wp2_with fail
    clear hw5
    refine (PTD.out _ B5).mono ?_
    rintro e w6 ⟨hPt, b6⟩
    obtain ⟨pp, cp, rfl, KP⟩ := (show AtG w6.heap.size (some (kq, nq, tq)) e w6 from hPt).some'
    replace HXB := Lib.hid ((b6.block _ (Array.getElem?_eq_some_iff.1 HXB.out).1).trans HXB.out)
    replace KX := Lib.hid (KX.out.carry (b6.mono LX))
    replace LX := Nat.le_trans LX b6.size
    have B6 := B5.trans (b6.mono B5.size)
    clear c0 c1 c2 a0 a1 a2 b6 hPt
    obtain ⟨w7, hw7⟩ : ∃ w7, w6.alloc (.cells #[.int .i64 kq, .int .i64 nq, .slice pp tq.len cp] 24) = w7 := ⟨_, rfl⟩
    have HPB := Lib.hid (show w7.heap[w6.heap.size]? = some (.cells #[.int .i64 kq, .int .i64 nq, .slice pp tq.len cp] 24 (0, 0)) by rw [← hw7]; exact heap_alloc_new w6 _)
    have b7 : Below w6.heap.size w6 w7 := by rw [← hw7]; exact (Below.refl _ _).alloc (Nat.le_refl _) _
    have LP := b7.size
    replace KP := Lib.hid (KP.carry b7)
    obtain ⟨gp, hgp⟩ : ∃ g, w6.heap.size = g := ⟨_, rfl⟩
    replace HXB := Lib.hid ((b7.block _ (Array.getElem?_eq_some_iff.1 HXB.out).1).trans HXB.out)
    replace KX := Lib.hid (KX.out.carry (b7.mono LX))
    replace LX := Nat.le_trans LX b7.size
    have B7 := B6.trans (b7.mono B6.size)
    rw [hgp] at HPB KP LP
    clear b7
    obtain ⟨c0, c1, c2, -, -, -⟩ := RD.out _ B7
    go_wp2_with fail
    clear hw7
    refine (ATR.out _ B7).mono ?_
    rintro e w8 ⟨hAt, b8⟩
    obtain ⟨pw, cw, rfl, KW⟩ := hAt.some'
    have LW : W.heap.size ≤ w8.heap.size := Nat.le_trans hB.size (Nat.le_trans B7.size b8.size)
    replace HXB := Lib.hid ((b8.block _ (Array.getElem?_eq_some_iff.1 HXB.out).1).trans HXB.out)
    replace HPB := Lib.hid ((b8.block _ (Array.getElem?_eq_some_iff.1 HPB.out).1).trans HPB.out)
    replace KX := Lib.hid (KX.out.carry (b8.mono LX))
    replace LX := Nat.le_trans LX b8.size
    replace KP := Lib.hid (KP.out.carry (b8.mono LP))
    replace LP := Nat.le_trans LP b8.size
    have B8 := B7.trans (b8.mono B7.size)
    clear c0 c1 c2 b8 hAt
    obtain ⟨w9, hw9⟩ : ∃ w9, w8.alloc (.cells #[.int .i64 k5, .int .i64 n5, .slice pw t5.len cw] 24) = w9 := ⟨_, rfl⟩
    have HWB := Lib.hid (show w9.heap[w8.heap.size]? = some (.cells #[.int .i64 k5, .int .i64 n5, .slice pw t5.len cw] 24 (0, 0)) by rw [← hw9]; exact heap_alloc_new w8 _)
    have b9 : Below w8.heap.size w8 w9 := by rw [← hw9]; exact (Below.refl _ _).alloc (Nat.le_refl _) _
    obtain ⟨gw, hgw⟩ : ∃ g, w8.heap.size = g := ⟨_, rfl⟩
    replace KW := Lib.hid KW
    replace HXB := Lib.hid ((b9.block _ (Array.getElem?_eq_some_iff.1 HXB.out).1).trans HXB.out)
    replace HPB := Lib.hid ((b9.block _ (Array.getElem?_eq_some_iff.1 HPB.out).1).trans HPB.out)
    replace KX := Lib.hid (KX.out.carry (b9.mono LX))
    replace LX := Nat.le_trans LX b9.size
    replace KP := Lib.hid (KP.out.carry (b9.mono LP))
    replace LP := Nat.le_trans LP b9.size
    replace KW := Lib.hid (KW.out.carry (b9.mono LW))
    replace LW := Nat.le_trans LW b9.size
    have B9 := B8.trans (b9.mono B8.size)
    rw [hgw] at HWB
    clear b9
    obtain ⟨hxb0, hxb1, hxb2, -, -, -⟩ := row_cells3 HXB.out
    obtain ⟨hwb0, hwb1, hwb2, -, -, -⟩ := row_cells3 HWB.out
    have S1 := SM.out k5 n5 k5 n5 t5 t5 _ _ w9 (KX.out.mono LX) (KW.out.mono LW)
    rw [cmpN_self] at S1
    replace S1 := Lib.hid S1
    go_wp2_with fail
    clear hw9
    refine (S1.out).mono ?_
    rintro e w10 ⟨rfl, b10⟩
    clear hxb0 hxb1 hxb2 hwb0 hwb1 hwb2
    replace HXB := Lib.hid ((b10.block _ (Array.getElem?_eq_some_iff.1 HXB.out).1).trans HXB.out)
    replace HPB := Lib.hid ((b10.block _ (Array.getElem?_eq_some_iff.1 HPB.out).1).trans HPB.out)
    replace HWB := Lib.hid ((b10.block _ (Array.getElem?_eq_some_iff.1 HWB.out).1).trans HWB.out)
    replace KX := Lib.hid (KX.out.carry (b10.mono LX))
    replace LX := Nat.le_trans LX b10.size
    replace KP := Lib.hid (KP.out.carry (b10.mono LP))
    replace LP := Nat.le_trans LP b10.size
    replace KW := Lib.hid (KW.out.carry (b10.mono LW))
    replace LW := Nat.le_trans LW b10.size
    have B10 := B9.trans (b10.mono B9.size)
    clear b10 S1
    obtain ⟨hpb0, hpb1, hpb2, -, -, -⟩ := row_cells3 HPB.out
    have A2 := ATP.out kq nq tq pp tq.len cp gp w10 B10 KP.out LP (by have := (PW.out rfl).2.2.2; rw [hput] at this; dsimp only at this; omega)
    have hap := AP.out rfl
    rw [hput] at hap
    dsimp only at hap
    rw [hap] at A2
    replace A2 := Lib.hid A2
    go_wp2_with fail
    refine (A2.out).mono ?_
    rintro e w11 ⟨hAt, b11⟩
    obtain ⟨py, cy, rfl, KY⟩ := hAt.some'
    clear hpb0 hpb1 hpb2
    replace HPB := Lib.hid ((b11.block _ (Array.getElem?_eq_some_iff.1 HPB.out).1).trans HPB.out)
    replace KP := Lib.hid (KP.out.carry (b11.mono LP))
    replace LP := Nat.le_trans LP b11.size
    have B11 := B10.trans (b11.mono B10.size)
    clear b11 hAt A2
    obtain ⟨w12, hw12⟩ : ∃ w12, w11.alloc (.cells #[.int .i64 k', .int .i64 n', .slice py t'.len cy] 24) = w12 := ⟨_, rfl⟩
    have HYB := Lib.hid (show w12.heap[w11.heap.size]? = some (.cells #[.int .i64 k', .int .i64 n', .slice py t'.len cy] 24 (0, 0)) by rw [← hw12]; exact heap_alloc_new w11 _)
    have b12 : Below w11.heap.size w11 w12 := by rw [← hw12]; exact (Below.refl _ _).alloc (Nat.le_refl _) _
    have LY := b12.size
    replace KY := Lib.hid (KY.carry b12)
    obtain ⟨gy, hgy⟩ : ∃ g, w11.heap.size = g := ⟨_, rfl⟩
    replace HPB := Lib.hid ((b12.block _ (Array.getElem?_eq_some_iff.1 HPB.out).1).trans HPB.out)
    replace KP := Lib.hid (KP.out.carry (b12.mono LP))
    replace LP := Nat.le_trans LP b12.size
    have B12 := B11.trans (b12.mono B11.size)
    rw [hgy] at HYB KY LY
    clear b12
    have lp : gp < w12.heap.size := (Array.getElem?_eq_some_iff.1 HPB.out).1
    have ly : gy < w12.heap.size := (Array.getElem?_eq_some_iff.1 HYB.out).1
    have MK := Lib.hid (fun (w' : World) (hb : Below w12.heap.size w12 w') => show (fun w' => w'.cell? ⟨W.heap.size, 0, none⟩ = some (.int .i64 k) ∧ w'.cell? ⟨W.heap.size, 1, none⟩ = some (.int .i64 n) ∧ w'.cell? ⟨W.heap.size, 2, none⟩ = some (.slice p m c) ∧ w'.cell? ⟨W.heap.size + 1, 0, none⟩ = some (.int .i64 k') ∧ w'.cell? ⟨W.heap.size + 1, 1, none⟩ = some (.int .i64 n') ∧ w'.cell? ⟨W.heap.size + 1, 2, none⟩ = some (.slice p' m' c') ∧ w'.cell? ⟨gp, 0, none⟩ = some (.int .i64 kq) ∧ w'.cell? ⟨gp, 1, none⟩ = some (.int .i64 nq) ∧ w'.cell? ⟨gp, 2, none⟩ = some (.slice pp tq.len cp) ∧ w'.cell? ⟨gy, 0, none⟩ = some (.int .i64 k') ∧ w'.cell? ⟨gy, 1, none⟩ = some (.int .i64 n') ∧ w'.cell? ⟨gy, 2, none⟩ = some (.slice py t'.len cy) ∧ Below w12.heap.size w12 w') w' from by
      obtain ⟨q0, q1, q2, -⟩ := RD.out _ (B12.trans (hb.mono B12.size))
      obtain ⟨q3, q4, q5, -⟩ := RW.out _ (B12.trans (hb.mono B12.size))
      obtain ⟨q6, q7, q8, -⟩ := row_cells3 ((hb.block _ lp).trans HPB.out)
      obtain ⟨q9, q10, q11, -⟩ := row_cells3 ((hb.block _ ly).trans HYB.out)
      exact ⟨q0, q1, q2, q3, q4, q5, q6, q7, q8, q9, q10, q11, hb⟩)
    have KPN := Lib.hid (fun w1 w' (hS : (fun w' => w'.cell? ⟨W.heap.size, 0, none⟩ = some (.int .i64 k) ∧ w'.cell? ⟨W.heap.size, 1, none⟩ = some (.int .i64 n) ∧ w'.cell? ⟨W.heap.size, 2, none⟩ = some (.slice p m c) ∧ w'.cell? ⟨W.heap.size + 1, 0, none⟩ = some (.int .i64 k') ∧ w'.cell? ⟨W.heap.size + 1, 1, none⟩ = some (.int .i64 n') ∧ w'.cell? ⟨W.heap.size + 1, 2, none⟩ = some (.slice p' m' c') ∧ w'.cell? ⟨gp, 0, none⟩ = some (.int .i64 kq) ∧ w'.cell? ⟨gp, 1, none⟩ = some (.int .i64 nq) ∧ w'.cell? ⟨gp, 2, none⟩ = some (.slice pp tq.len cp) ∧ w'.cell? ⟨gy, 0, none⟩ = some (.int .i64 k') ∧ w'.cell? ⟨gy, 1, none⟩ = some (.int .i64 n') ∧ w'.cell? ⟨gy, 2, none⟩ = some (.slice py t'.len cy) ∧ Below w12.heap.size w12 w') w1) (hb : Below w1.heap.size w1 w') => MK.out w' (hS.2.2.2.2.2.2.2.2.2.2.2.2.trans (hb.mono hS.2.2.2.2.2.2.2.2.2.2.2.2.size)))
    have KPA := Lib.hid (fun (w' : World) (hb : Below w12.heap.size w12 w') => (KP.out.carry (hb.mono LP)).mono (Nat.le_trans LP hb.size))
    have KYA := Lib.hid (fun (w' : World) (hb : Below w12.heap.size w12 w') => (KY.out.carry (hb.mono LY)).mono (Nat.le_trans LY hb.size))
    have PUT := Lib.hid (fun (w' : World) (hb : Below w12.heap.size w12 w') => PTR.out w' (B12.trans (hb.mono B12.size)) rfl)
    rw [hput] at PUT
    dsimp only at PUT
    obtain ⟨q0, q1, q2, q3, q4, q5, q6, q7, q8, q9, q10, q11, _⟩ := MK.out _ (Below.refl _ _)
    have K0 := Lib.hid (MK.out _ (Below.refl _ _))
    have K0d := Lib.hid (MK.out _ ((Below.refl _ w12).drew))
    go_wp2_with fail
    have D0 := Lib.hid ((Below.refl w12.heap.size w12).drew)
    refine wp_region_held_drew (S := (fun w' => w'.cell? ⟨W.heap.size, 0, none⟩ = some (.int .i64 k) ∧ w'.cell? ⟨W.heap.size, 1, none⟩ = some (.int .i64 n) ∧ w'.cell? ⟨W.heap.size, 2, none⟩ = some (.slice p m c) ∧ w'.cell? ⟨W.heap.size + 1, 0, none⟩ = some (.int .i64 k') ∧ w'.cell? ⟨W.heap.size + 1, 1, none⟩ = some (.int .i64 n') ∧ w'.cell? ⟨W.heap.size + 1, 2, none⟩ = some (.slice p' m' c') ∧ w'.cell? ⟨gp, 0, none⟩ = some (.int .i64 kq) ∧ w'.cell? ⟨gp, 1, none⟩ = some (.int .i64 nq) ∧ w'.cell? ⟨gp, 2, none⟩ = some (.slice pp tq.len cp) ∧ w'.cell? ⟨gy, 0, none⟩ = some (.int .i64 k') ∧ w'.cell? ⟨gy, 1, none⟩ = some (.int .i64 n') ∧ w'.cell? ⟨gy, 2, none⟩ = some (.slice py t'.len cy) ∧ Below w12.heap.size w12 w')) (by kernel_rfl) ?_ (fun hHeld => ?_)
    · (try dsimp only); first | exact MK.out _ D4.out | exact MK.out _ D3.out | exact MK.out _ D2.out | exact MK.out _ D1.out | exact K0d.out
    refine wpAnyH_take (i := 0) (v := ?v1) rfl (by kernel_rfl) (by kernel_rfl) (by kernel_rfl) (fun _ _ _ h => h) (Or.inl ⟨by kernel_rfl, ?hy1⟩) (by assumption) ?rest1
    case hy1 => intro w hSw; (try dsimp only at hSw); go_simp; (first | done | with_reducible rfl)
    (try simp only [Act.put, List.getElem_toArray, List.getElem_cons_zero, List.getElem_cons_succ, List.setIfInBounds_toArray, List.set_cons_zero, List.set_cons_succ])
    refine wpAnyH_take (i := 1) (v := ?v2) rfl (by kernel_rfl) (by kernel_rfl) (by kernel_rfl) (fun _ _ _ h => h) (Or.inl ⟨by kernel_rfl, ?hy2⟩) (by assumption) ?rest2
    case hy2 => intro w hSw; (try dsimp only at hSw); go_simp; (first | done | with_reducible rfl)
    (try simp only [Act.put, List.getElem_toArray, List.getElem_cons_zero, List.getElem_cons_succ, List.setIfInBounds_toArray, List.set_cons_zero, List.set_cons_succ])
    refine wpAnyH_take (i := 2) (v := ?v3) rfl (by kernel_rfl) (by kernel_rfl) (by kernel_rfl) (fun _ _ _ h => h) (Or.inl ⟨by kernel_rfl, ?hy3⟩) (by assumption) ?rest3
    case hy3 => intro w hSw; (try dsimp only at hSw); go_simp; (first | done | with_reducible rfl)
    (try simp only [Act.put, List.getElem_toArray, List.getElem_cons_zero, List.getElem_cons_succ, List.setIfInBounds_toArray, List.set_cons_zero, List.set_cons_succ])
    refine wpAnyH_take (i := 3) (v := ?v4) rfl (by kernel_rfl) (by kernel_rfl) (by kernel_rfl) (fun _ _ _ h => h) (Or.inl ⟨by kernel_rfl, ?hy4⟩) (by assumption) ?rest4
    case hy4 => intro w hSw; (try dsimp only at hSw); go_simp; (first | done | with_reducible rfl)
    (try simp only [Act.put, List.getElem_toArray, List.getElem_cons_zero, List.getElem_cons_succ, List.setIfInBounds_toArray, List.set_cons_zero, List.set_cons_succ])
    refine wpAnyH_ready (rs := [4]) (by kernel_rfl) (by simp) ?_
    refine AllReadyH.cons rfl (fun K hK => ?_) AllReadyH.nil
    go_simp
    refine (PUT.out _ D0.out).mono ?_
    rintro e w13 ⟨u, rfl, hKu, b13⟩
    have hKu2 := hKu
    obtain ⟨ua, uc, rfl, -⟩ := hKu2
    have D1 := Lib.hid (D0.out.trans (b13.mono D0.out.size))
    have KU := Lib.hid (KidsS.to (lim := w13.heap.size) hKu (fun b hb => hb.1))
    clear hKu b13
    (try go_wp2_with fail)
    refine hK.out _ _ ?_ (fun hHeld2 => ?_)
    · (try dsimp only); first | exact MK.out _ D4.out | exact MK.out _ D3.out | exact MK.out _ D2.out | exact MK.out _ D1.out | exact K0d.out
    clear hK K hHeld
    have hHeld := hHeld2
    clear hHeld2
    (try simp only [Act.put, List.getElem_toArray, List.getElem_cons_zero, List.getElem_cons_succ, List.setIfInBounds_toArray, List.set_cons_zero, List.set_cons_succ])
    refine wpAnyH_ready (rs := [5]) (by kernel_rfl) (by simp) ?_
    refine AllReadyH.cons rfl (fun K hK => ?_) AllReadyH.nil
    go_simp
    have S5 := SM.out kq nq kq nq tq tq (.slice pp tq.len cp) (.slice ua tq.len uc) w13 (KPA.out _ D1.out) KU.out
    rw [cmpN_self, show decide ((0 : Int) = 0) = true from rfl] at S5
    refine S5.mono ?_
    clear S5
    rintro e w14 ⟨rfl, b14⟩
    have D2 := Lib.hid (D1.out.trans (b14.mono D1.out.size))
    clear b14
    (try go_wp2_with fail)
    refine hK.out _ _ ?_ (fun hHeld2 => ?_)
    · (try dsimp only); first | exact MK.out _ D4.out | exact MK.out _ D3.out | exact MK.out _ D2.out | exact MK.out _ D1.out | exact K0d.out
    clear hK K hHeld
    have hHeld := hHeld2
    clear hHeld2
    (try simp only [Act.put, List.getElem_toArray, List.getElem_cons_zero, List.getElem_cons_succ, List.setIfInBounds_toArray, List.set_cons_zero, List.set_cons_succ])
    refine wpAnyH_take (i := 6) (v := ?v7) rfl (by kernel_rfl) (by kernel_rfl) (by kernel_rfl) (fun _ _ _ h => h) (Or.inl ⟨by kernel_rfl, ?hy7⟩) (by assumption) ?rest7
    case hy7 => intro w hSw; (try dsimp only at hSw); go_simp; (first | done | with_reducible rfl)
    (try simp only [Act.put, List.getElem_toArray, List.getElem_cons_zero, List.getElem_cons_succ, List.setIfInBounds_toArray, List.set_cons_zero, List.set_cons_succ])
    refine wpAnyH_take (i := 7) (v := ?v8) rfl (by kernel_rfl) (by kernel_rfl) (by kernel_rfl) (fun _ _ _ h => h) (Or.inl ⟨by kernel_rfl, ?hy8⟩) (by assumption) ?rest8
    case hy8 => intro w hSw; (try dsimp only at hSw); go_simp; (first | done | with_reducible rfl)
    (try simp only [Act.put, List.getElem_toArray, List.getElem_cons_zero, List.getElem_cons_succ, List.setIfInBounds_toArray, List.set_cons_zero, List.set_cons_succ])
    refine wpAnyH_take (i := 8) (v := ?v9) rfl (by kernel_rfl) (by kernel_rfl) (by kernel_rfl) (fun _ _ _ h => h) (Or.inl ⟨by kernel_rfl, ?hy9⟩) (by assumption) ?rest9
    case hy9 => intro w hSw; (try dsimp only at hSw); go_simp; (first | done | with_reducible rfl)
    (try simp only [Act.put, List.getElem_toArray, List.getElem_cons_zero, List.getElem_cons_succ, List.setIfInBounds_toArray, List.set_cons_zero, List.set_cons_succ])
    refine wpAnyH_take (i := 9) (v := ?v10) rfl (by kernel_rfl) (by kernel_rfl) (by kernel_rfl) (fun _ _ _ h => h) (Or.inl ⟨by kernel_rfl, ?hy10⟩) (by assumption) ?rest10
    case hy10 => intro w hSw; (try dsimp only at hSw); go_simp; (first | done | with_reducible rfl)
    (try simp only [Act.put, List.getElem_toArray, List.getElem_cons_zero, List.getElem_cons_succ, List.setIfInBounds_toArray, List.set_cons_zero, List.set_cons_succ])
    refine wpAnyH_take (i := 10) (v := ?v11) rfl (by kernel_rfl) (by kernel_rfl) (by kernel_rfl) (fun _ _ _ h => h) (Or.inl ⟨by kernel_rfl, ?hy11⟩) (by assumption) ?rest11
    case hy11 => intro w hSw; (try dsimp only at hSw); go_simp; (first | done | with_reducible rfl)
    (try simp only [Act.put, List.getElem_toArray, List.getElem_cons_zero, List.getElem_cons_succ, List.setIfInBounds_toArray, List.set_cons_zero, List.set_cons_succ])
    refine wpAnyH_take (i := 11) (v := ?v12) rfl (by kernel_rfl) (by kernel_rfl) (by kernel_rfl) (fun _ _ _ h => h) (Or.inl ⟨by kernel_rfl, ?hy12⟩) (by assumption) ?rest12
    case hy12 => intro w hSw; (try dsimp only at hSw); go_simp; (first | done | with_reducible rfl)
    (try simp only [Act.put, List.getElem_toArray, List.getElem_cons_zero, List.getElem_cons_succ, List.setIfInBounds_toArray, List.set_cons_zero, List.set_cons_succ])
    refine wpAnyH_ready (rs := [12]) (by kernel_rfl) (by simp) ?_
    refine AllReadyH.cons rfl (fun K hK => ?_) AllReadyH.nil
    go_simp
    have S6 := SM.out k' n' k' n' t' t' (.slice py t'.len cy) (.slice p' m' c') w14 (KYA.out _ D2.out) (HKD.out _ (B12.trans (D2.out.mono B12.size)))
    rw [cmpN_self, show decide ((0 : Int) = 0) = true from rfl] at S6
    refine S6.mono ?_
    clear S6
    rintro e w15 ⟨rfl, b15⟩
    have D3 := Lib.hid (D2.out.trans (b15.mono D2.out.size))
    clear b15
    (try go_wp2_with fail)
    refine hK.out _ _ ?_ (fun hHeld2 => ?_)
    · (try dsimp only); first | exact MK.out _ D4.out | exact MK.out _ D3.out | exact MK.out _ D2.out | exact MK.out _ D1.out | exact K0d.out
    clear hK K hHeld
    have hHeld := hHeld2
    clear hHeld2
    (try simp only [Act.put, List.getElem_toArray, List.getElem_cons_zero, List.getElem_cons_succ, List.setIfInBounds_toArray, List.set_cons_zero, List.set_cons_succ])
    refine wpAnyH_take (i := 13) (v := ?v14) rfl (by kernel_rfl) (by kernel_rfl) (by kernel_rfl) (fun _ _ _ h => h) (Or.inl ⟨by kernel_rfl, ?hy14⟩) (by assumption) ?rest14
    case hy14 => intro w hSw; (try dsimp only at hSw); go_simp; (first | done | with_reducible rfl)
    (try simp only [Act.put, List.getElem_toArray, List.getElem_cons_zero, List.getElem_cons_succ, List.setIfInBounds_toArray, List.set_cons_zero, List.set_cons_succ])
    refine wpAnyH_take (i := 14) (v := ?v15) rfl (by kernel_rfl) (by kernel_rfl) (by kernel_rfl) (fun _ _ _ h => h) (Or.inl ⟨by kernel_rfl, ?hy15⟩) (by assumption) ?rest15
    case hy15 => intro w hSw; (try dsimp only at hSw); go_simp; (first | done | with_reducible rfl)
    (try simp only [Act.put, List.getElem_toArray, List.getElem_cons_zero, List.getElem_cons_succ, List.setIfInBounds_toArray, List.set_cons_zero, List.set_cons_succ])
    refine wpAnyH_ready (rs := [15]) (by kernel_rfl) (by simp) ?_
    refine AllReadyH.cons rfl (fun K hK => ?_) AllReadyH.nil
    go_simp
    refine (LV.out _).mono ?_
    rintro e w16 ⟨rfl, b16⟩
    have D4 := Lib.hid (D3.out.trans (b16.mono D3.out.size))
    clear b16
    (try go_wp2_with fail)
    refine hK.out _ _ ?_ (fun hHeld2 => ?_)
    · (try dsimp only); first | exact MK.out _ D4.out | exact MK.out _ D3.out | exact MK.out _ D2.out | exact MK.out _ D1.out | exact K0d.out
    clear hK K hHeld
    have hHeld := hHeld2
    clear hHeld2
    (try simp only [Act.put, List.getElem_toArray, List.getElem_cons_zero, List.getElem_cons_succ, List.setIfInBounds_toArray, List.set_cons_zero, List.set_cons_succ])
    refine wpAnyH_take (i := 16) (v := ?v17) rfl (by kernel_rfl) (by kernel_rfl) (by kernel_rfl) (fun _ _ _ h => h) (Or.inl ⟨by kernel_rfl, ?hy17⟩) (by assumption) ?rest17
    case hy17 => intro w hSw; (try dsimp only at hSw); go_simp; (first | done | with_reducible rfl)
    (try simp only [Act.put, List.getElem_toArray, List.getElem_cons_zero, List.getElem_cons_succ, List.setIfInBounds_toArray, List.set_cons_zero, List.set_cons_succ])
    refine wpAnyH_take (i := 17) (v := ?v18) rfl (by kernel_rfl) (by kernel_rfl) (by kernel_rfl) (fun _ _ _ h => h) (Or.inl ⟨by kernel_rfl, ?hy18⟩) (by assumption) ?rest18
    case hy18 => intro w hSw; (try dsimp only at hSw); go_simp; (first | done | with_reducible rfl)
    (try simp only [Act.put, List.getElem_toArray, List.getElem_cons_zero, List.getElem_cons_succ, List.setIfInBounds_toArray, List.set_cons_zero, List.set_cons_succ])
    refine wpAnyH_done (by kernel_rfl) ?_ _
    go_wp2_with fail
    go_ret
    exact ⟨rfl, hB.trans ((B12.trans (D4.out.mono B12.size)).mono hB.size)⟩
set_option maxRecDepth 100000 in
set_option maxHeartbeats 8000000 in
theorem long (k n k' n' : Int) (s s' : Value) (t t' : Fo) (a : Option Addr) (L d : Nat) (W : World) (hK : Kids W W.heap.size s t) (hK' : Kids W W.heap.size s' t') (hN : t.cnt ≤ 1048575) (hN' : t'.cnt ≤ 1048575) (hlen : 100 < L) :
    Calls Try.prog 5 #[.agg #[.int .i64 k, .int .i64 n, s], .slice a L d, .agg #[.int .i64 k', .int .i64 n', s']] W fun e w' => e = .returned (.bool true) ∧ Below W.heap.size W w' := by
  have LV := Lib.hid (fun w => live13 w)
  obtain ⟨p, m, c, rfl, _, _, HM⟩ := hK.shape
  obtain ⟨p', m', c', rfl, _, _, HM'⟩ := hK'.shape
  obtain ⟨w1, hw1, r0, r1, hB, hs1⟩ := clone_start W (.int .i64 k) (.int .i64 n) (.slice p m c) (.int .i64 k') (.int .i64 n') (.slice p' m' c') 24
  have hl := fun (w' : World) (hb : Below w1.heap.size w1 w') => (show W.heap.size ≤ w'.heap.size by have := hb.size; omega)
  have HK := Lib.hid (fun (w' : World) (hb : Below w1.heap.size w1 w') => (hK.carry hB).carry (hb.mono (by omega)))
  have HK' := Lib.hid (fun (w' : World) (hb : Below w1.heap.size w1 w') => (hK'.carry hB).carry (hb.mono (by omega)))
  have MU := Lib.hid (fun w' hb => r13_much t (.slice p m c) k n W.heap.size w' (by omega) (HK.out w' hb) (hl w' hb))
  have MU' := Lib.hid (fun w' hb => r13_much t' (.slice p' m' c') k' n' W.heap.size w' (by omega) (HK'.out w' hb) (hl w' hb))
  have R0 := Below.refl w1.heap.size w1
  have hs : W.heap.size ≤ w1.heap.size := hB.size
  have lw0 : W.heap.size < w1.heap.size := by omega
  have lw1 : W.heap.size + 1 < w1.heap.size := by omega
  have RD := Lib.hid (fun (w' : World) (hb : Below w1.heap.size w1 w') => row_cells3 ((hb.block _ lw0).trans r0))
  have RW := Lib.hid (fun (w' : World) (hb : Below w1.heap.size w1 w') => row_cells3 ((hb.block _ lw1).trans r1))
  clear hK hK' HM HM' HK HK' hl r0 r1
  have hlx : (0:Int) ≤ (L : Int) := by omega
  by_cases hbig : 80 < t.cnt + 1
  · rw [decide_eq_true hbig] at MU
    go_enter Try.func5, Try.ntmps5
    obtain ⟨c0, c1, c2, -, -, -⟩ := RD.out _ R0
    obtain ⟨a0, a1, a2, -, -, -⟩ := RW.out _ R0
    go_wp2_with fail
    rw [← hw1]
    clear hw1
    refine (MU.out _ R0).mono ?_
    rintro e w2 ⟨rfl, b2⟩
    clear c0 c1 c2 a0 a1 a2
    go_wp2_with fail
    refine (LV.out _).mono ?_
    rintro e wz ⟨rfl, bz⟩
    go_wp2_with fail
    go_ret
    exact ⟨rfl, hB.trans ((b2.trans (bz.mono b2.size)).mono hB.size)⟩
  rw [decide_eq_false hbig] at MU
  by_cases hbig' : 80 < t'.cnt + 1
  · rw [decide_eq_true hbig'] at MU'
    go_enter Try.func5, Try.ntmps5
    obtain ⟨c0, c1, c2, -, -, -⟩ := RD.out _ R0
    obtain ⟨a0, a1, a2, -, -, -⟩ := RW.out _ R0
    go_wp2_with fail
    rw [← hw1]
    clear hw1
    refine (MU.out _ R0).mono ?_
    rintro e w2 ⟨rfl, b2⟩
    clear c0 c1 c2 a0 a1 a2
    obtain ⟨a0, a1, a2, -, -, -⟩ := RW.out _ b2
    go_wp2_with fail
    refine (MU'.out _ b2).mono ?_
    rintro e w3 ⟨rfl, b3⟩
    replace b3 := b2.trans (b3.mono b2.size)
    clear a0 a1 a2
    go_wp2_with fail
    refine (LV.out _).mono ?_
    rintro e wz ⟨rfl, bz⟩
    go_wp2_with fail
    go_ret
    exact ⟨rfl, hB.trans ((b3.trans (bz.mono b3.size)).mono hB.size)⟩
  rw [decide_eq_false hbig'] at MU'
  have dl : decide ((100 : Int) < (L : Int)) = true := decide_eq_true (by omega)
  go_enter Try.func5, Try.ntmps5
  obtain ⟨c0, c1, c2, -, -, -⟩ := RD.out _ R0
  obtain ⟨a0, a1, a2, -, -, -⟩ := RW.out _ R0
  go_wp2_with fail
  rw [← hw1]
  clear hw1
  refine (MU.out _ R0).mono ?_
  rintro e w2 ⟨rfl, b2⟩
  clear c0 c1 c2 a0 a1 a2
  obtain ⟨a0, a1, a2, -, -, -⟩ := RW.out _ b2
  go_wp2_with fail
  refine (MU'.out _ b2).mono ?_
  rintro e w3 ⟨rfl, b3⟩
  replace b3 := b2.trans (b3.mono b2.size)
  clear a0 a1 a2
  go_wp2_with fail
  refine (LV.out _).mono ?_
  rintro e wz ⟨rfl, bz⟩
  go_wp2_with fail
  go_ret
  exact ⟨rfl, hB.trans ((b3.trans (bz.mono b3.size)).mono hB.size)⟩
theorem walk (W : World) (dk0 dn0 : Int) (s0 : Value) (t0 : Fo) (hK0 : Kids W W.heap.size s0 t0) (wf0 : t0.wf) (wk0 : -9223372036854775808 ≤ dk0 ∧ dk0 ≤ 9223372036854775807) (wn0 : -9223372036854775808 ≤ dn0 ∧ dn0 ≤ 9223372036854775807) (hN0 : t0.cnt + 1 ≤ 1048576) (a1 : Option Addr) (n1 c1 : Nat) (w1 : IsRow .i64 W a1 n1 c1) (cc1 : c1 ≤ maxLen) (dk2 dn2 : Int) (s2 : Value) (t2 : Fo) (hK2 : Kids W W.heap.size s2 t2) (wf2 : t2.wf) (wk2 : -9223372036854775808 ≤ dk2 ∧ dk2 ≤ 9223372036854775807) (wn2 : -9223372036854775808 ≤ dn2 ∧ dn2 ≤ 9223372036854775807) (hN2 : t2.cnt + 1 ≤ 1048576) :
    Calls Try.prog 5 #[.agg #[.int .i64 dk0, .int .i64 dn0, s0], .slice a1 n1 c1, .agg #[.int .i64 dk2, .int .i64 dn2, s2]] W fun e W' => e = .returned (.bool true) ∧ Below W.heap.size W W' := by
  by_cases hn : n1 ≤ 17592186044415
  · obtain ⟨xs, hx⟩ := RowI.of_isRow w1 hn
    obtain rfl := hx.len
    have hc : xs.length ≤ c1 := by obtain ⟨_, _, h, _⟩ := w1; exact h
    exact main dk0 dn0 dk2 dn2 s0 s2 t0 t2 a1 c1 xs W hK0 hK2 wf0 wk0 wn0 wf2 wk2 wn2 (by omega) (by omega) hx hc (by unfold maxLen at cc1; omega)
  · exact long dk0 dn0 dk2 dn2 s0 s2 t0 t2 a1 n1 c1 W hK0 hK2 (by omega) (by omega) (by omega)
end descPlaces
end Go.Proofs.Ytfjioflggkmhcaa
