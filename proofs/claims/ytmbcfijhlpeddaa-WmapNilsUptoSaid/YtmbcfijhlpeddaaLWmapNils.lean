/- WmapNils: what is told of no map, and that what was handed in may change. -/
import Derived.Test.YtmbcfijhlpeddaaN8
namespace Go.Proofs.Ytmbcfijhlpeddaa
open Go.ChangeShapes Go.WideShapes Go.ChangeAt Go.RowKit
set_option linter.unusedVariables false
set_option linter.unusedSimpArgs false
/-- A row of kids, cell by cell. -/
theorem src_nods {w : World} {lim b : Nat} : ∀ (f : Fo) (o : Nat), f.At w lim b o → ∃ news, NodsS w (fun x => x < lim) news f.top ∧ ∀ j u, news[j]? = some u → w.cell? ⟨b, o + j, none⟩ = some u
  | .nil, o, _ => ⟨[], rfl, fun j u h => by simp at h⟩
  | .cons k n ks r, o, ⟨hb, h0, h1, ⟨a, c, h2, hl, hm, hk⟩, hr⟩ => by
    obtain ⟨news, hn, hc⟩ := src_nods r (o + 3) hr
    refine ⟨.int .i64 k :: .int .i64 n :: .slice a ks.len c :: news, ⟨_, _, rfl, KidsS.of ⟨a, c, rfl, hl, hm, hk⟩, hn⟩, fun j u hj => ?_⟩
    match j, hj with
    | 0, hj => simp at hj; subst hj; exact h0
    | 1, hj => simp at hj; subst hj; exact h1
    | 2, hj => simp at hj; subst hj; exact h2
    | j + 3, hj =>
      have := hc j u (by simpa using hj)
      rw [show o + (j + 3) = o + 3 + j by omega]
      exact this
theorem OwnT.emp {w : World} {g lim B : Nat} (h : w.heap[g]? = some (.cells #[] 34 (0, 0))) (hB : B ≤ g) : OwnT w lim B (.slice (some ⟨g, 0, none⟩) 0 0) [] := ⟨[], ⟨rfl, .inr ⟨g, 0, #[], rfl, hB, h, Nat.le_refl _, by unfold maxLen; omega, rfl, rfl⟩⟩, rfl⟩
/-- The first cells of a row that is not empty. -/
theorem OwnT.first {w : World} {lim B : Nat} {v : Value} {l : List Nd} (h : OwnT w lim B v l) (h0 : 0 < l.length) : ∃ g c a0 a1 a2, v = .slice (some ⟨g, 0, none⟩) l.length c ∧ B ≤ g ∧ g < w.heap.size ∧ l.length ≤ c ∧ w.cell? ⟨g, 0, none⟩ = some a0 ∧ w.cell? ⟨g, 1, none⟩ = some a1 ∧ w.cell? ⟨g, 2, none⟩ = some a2 ∧ ∀ o, w.frozen? ⟨g, o, none⟩ = false := by
  obtain ⟨xs, ⟨hl, h | ⟨g, cap, cur, rfl, hb, hh, hn, hm, hs, ht⟩⟩, h2⟩ := h
  · omega
  · have hg : g < w.heap.size := Nat.lt_of_not_le fun hn => by rw [Array.getElem?_eq_none hn] at hh; cases hh
    have hcs : 3 ≤ cur.size := by omega
    exact ⟨g, cap, cur[0], cur[1], cur[2], rfl, hb, hg, hn, by rw [cell_of_row _ _ _ _ _ _ hh, Array.getElem?_eq_getElem (by omega)], by rw [cell_of_row _ _ _ _ _ _ hh, Array.getElem?_eq_getElem (by omega)], by rw [cell_of_row _ _ _ _ _ _ hh, Array.getElem?_eq_getElem (by omega)], fun o => frozen_of_row _ _ _ _ _ hh⟩
theorem u3_but (w : World) (b : Nat) (x y z : Value) : But w (u3 w b x y z) b := ((But.set _ _ _ _).trans (But.set _ _ _ _)).trans (But.set _ _ _ _)
theorem cmp_zz : decide (cmpN 0 0 .nil 0 0 .nil = 0) = true := by rw [cmpN_self]; rfl
namespace wmapNils
attribute [local go_sem ↓] Go.wp_at_zero Go.wp_at_succ
set_option maxRecDepth 100000 in
set_option maxHeartbeats 16000000 in
theorem walk (W : World) (ea0 eb0 dk0 dn0 : Int) (s0 : Value) (t0 : Fo) (hK0 : Kids W W.heap.size s0 t0) (wf0 : t0.wf) (wa0 : -9223372036854775808 ≤ ea0 ∧ ea0 ≤ 9223372036854775807) (wb0 : -9223372036854775808 ≤ eb0 ∧ eb0 ≤ 9223372036854775807) (wk0 : -9223372036854775808 ≤ dk0 ∧ dk0 ≤ 9223372036854775807) (wn0 : -9223372036854775808 ≤ dn0 ∧ dn0 ≤ 9223372036854775807) (hN0 : t0.cnt + 1 ≤ 1048576) :
    Calls Try.prog 5 #[.agg #[.int .i64 ea0, .int .i64 eb0, .int .i64 dk0, .int .i64 dn0, s0]] W fun e W' => e = .returned (.bool true) ∧ Below W.heap.size W W' := by
  obtain ⟨sp, sm, sc, rfl, hsm1, hsm2, HSM⟩ := hK0.shape
  obtain ⟨w0, hw0, r0, hB0, hs0⟩ := box5 W ea0 eb0 dk0 dn0 (.slice sp sm sc) 36
  have HBW := Lib.hid (fun w' (hb : Below w0.heap.size w0 w') => hB0.trans (hb.mono hB0.size))
  have XC := Lib.hid (fun (u : World) (h : Below w0.heap.size w0 u) => cells5 ((h.block W.heap.size (by omega)).trans r0))
  have KX := Lib.hid (fun (u : World) (h : Below w0.heap.size w0 u) => hK0.below (Nat.le_refl _) (hB0.trans (h.mono hB0.size)))
  have LI := Lib.hid (fun (u : World) (h : Below w0.heap.size w0 u) => (show W.heap.size ≤ u.heap.size by have := h.size; omega))
  have LV := Lib.hid (fun w => live26 w)
  have NP := Lib.hid (fun w => nil_Put ea0 eb0 dk0 dn0 sp sm sc w)
  have NG := Lib.hid (fun w => nil_Get ea0 eb0 w)
  have SZ := Lib.hid (fun w => by
    have := r13_same .nil .nil (.slice none 0 0) (.slice none 0 0) 0 0 0 0 w.heap.size w (Kids.nought _ _) (Kids.nought _ _) (Nat.le_refl _)
    rw [cmp_zz] at this
    exact this)
  have MU := Lib.hid (fun u (h : Below w0.heap.size w0 u) => r13_much t0 (.slice sp sm sc) dk0 dn0 W.heap.size u (by omega) (KX.out u h) (LI.out u h))
  have CH := Lib.hid (fun u (h : Below w0.heap.size w0 u) => r24_check t0 (.slice sp sm sc) ea0 eb0 dk0 dn0 W.heap.size u (by omega) (KX.out u h) (LI.out u h) wa0 wk0 wn0 wf0)
  have NW := Lib.hid (fun u => wmap_new u)
  have PU := Lib.hid (fun M L u (v : Value) (hS : MapS u M L none []) (hL : L ≤ u.heap.size) (hK : KidsS u (fun x => x < u.heap.size ∧ x ≠ M) v t0) => w_Put M none [] ea0 eb0 dk0 dn0 v t0 u hS hL wa0 wb0 wk0 wn0 wf0 hK (by omega))
  have GE := Lib.hid (fun M L g vs u (hS : MapS u M L g vs) => w_Get M g vs ea0 eb0 u hS wa0 wb0)
  have SM := Lib.hid (fun u (h : Below w0.heap.size w0 u) (v : Value) (hk : Kids u u.heap.size v t0) => by
    have := r13_same t0 t0 v (.slice sp sm sc) dk0 dn0 dk0 dn0 u.heap.size u hk ((KX.out u h).mono (LI.out u h)) (Nat.le_refl _)
    rw [cmpN_self, decide_eq_true rfl] at this
    exact this)
  have NS := Lib.hid (fun u (h : Below w0.heap.size w0 u) (h0 : 0 < sm) => (show ∃ b o news, sp = some ⟨b, o, none⟩ ∧ NodsS u (fun x => x < W.heap.size) news t0.top ∧ ∀ j z, news[j]? = some z → u.cell? ((⟨b, o, none⟩ : Addr).add j) = some z from by
    obtain ⟨a, c, hv, _, _, h3⟩ := KX.out u h
    simp only [Value.slice.injEq] at hv
    obtain ⟨rfl, rfl, rfl⟩ := hv
    obtain ⟨b, o, rfl, hat⟩ := h3.resolve_left (by omega)
    obtain ⟨news, h1, h2⟩ := src_nods t0 o hat
    exact ⟨b, o, news, rfl, h1, fun j z hj => by
      rw [show (⟨b, o, none⟩ : Addr).add j = ⟨b, o + j, none⟩ by unfold Addr.add; split <;> simp_all]
      exact h2 j z hj⟩))
  have HW0 := Lib.hid hw0.symm
  have HCN := Lib.hid (show t0.cnt ≤ 1048576 by omega)
  have hsml : sm ≤ 1048576 := by rw [HSM.out]; have := t0.len_cnt; omega
  have hTL := Lib.hid (show t0.top.length = sm by rw [Fo.top_len, HSM.out])
  obtain ⟨zc, hzc⟩ : ∃ z, fori ea0 eb0 dn0 (chkd dk0 dn0 t0) = z := ⟨_, rfl⟩
  rw [hzc] at CH PU
  have HSZ0 := Lib.hid hs0
  obtain ⟨X, hX⟩ : ∃ X, W.heap.size = X := ⟨_, rfl⟩
  rw [hX] at XC
  have HX := Lib.hid hX
  obtain ⟨x0, x1, x2, x3, x4⟩ := XC.out w0 (Below.refl _ _)
  clear hK0 wf0 wa0 wb0 wk0 wn0 hN0 hw0 r0 hB0 hs0 hzc HSM
  go_enter Try.func5, Try.ntmps5
  go_upto_region 1 with fail
  rw [HW0.out]
  go_wp2_with fail
  refine (NP.out _).mono ?_
  rintro e w1 ⟨rfl, hb1⟩
  have H1 := Lib.hid hb1
  clear hb1 x0 x1 x2 x3 x4
  obtain ⟨x0, x1, x2, x3, x4⟩ := XC.out w1 H1.out
  obtain ⟨w2, hw2⟩ : ∃ w2, w1.alloc (.cells #[.int .i64 ea0, .int .i64 eb0, .int .i64 dk0, .int .i64 dn0, .slice sp sm sc] 36) = w2 := ⟨_, rfl⟩
  have H2 := Lib.hid (show Below w0.heap.size w0 w2 by rw [← hw2]; exact H1.out.alloc H1.out.size _)
  have HW2 := Lib.hid hw2
  clear hw2
  go_wp2_with fail
  refine (nil_Merge _ _).mono ?_
  rintro e wz ⟨rfl, rfl⟩
  rw [HW2.out]
  clear x0 x1 x2 x3 x4 HW2 H1
  obtain ⟨x0, x1, x2, x3, x4⟩ := XC.out w2 H2.out
  go_wp2_with fail
  refine (NG.out _).mono ?_
  rintro e w3 ⟨rfl, hb3⟩
  obtain ⟨w4, hw4⟩ : ∃ w4, w3.alloc (.cells #[.int .i64 0, .int .i64 0, .slice none 0 0] 34) = w4 := ⟨_, rfl⟩
  have hn4 := heap_alloc_new w3 (.cells #[.int .i64 0, .int .i64 0, .slice none 0 0] 34)
  rw [hw4] at hn4
  have H3 := Lib.hid (H2.out.trans (hb3.mono H2.out.size))
  have H4 := Lib.hid (show Below w0.heap.size w0 w4 by rw [← hw4]; exact H3.out.alloc H3.out.size _)
  have HW4 := Lib.hid hw4
  obtain ⟨D, hD⟩ : ∃ D, w3.heap.size = D := ⟨_, rfl⟩
  rw [hD] at hn4
  obtain ⟨z0, z1, z2, -, -, -⟩ := row_cells3 hn4
  clear hw4 hb3 x0 x1 x2 x3 x4 H2 NP NG
  go_upto_region 5 with fail
  rw [HW4.out]
  clear HW4 hD
  go_wp2_with fail
  refine (SZ.out _).mono ?_
  rintro e w5 ⟨rfl, hb5⟩
  have H5 := Lib.hid (H4.out.trans (hb5.mono H4.out.size))
  clear hb5 z0 z1 z2 hn4 H3 H4 SZ
  go_wp2_with fail
  refine (nil_Len _).mono ?_
  rintro e wz ⟨rfl, rfl⟩
  go_wp2_with fail
  refine (nil_Entries _).mono ?_
  rintro e wz ⟨rfl, rfl⟩
  obtain ⟨x0, x1, x2, x3, x4⟩ := XC.out w5 H5.out
  have M5 := MU.out w5 H5.out
  clear MU
  by_cases hmu : 80 < t0.cnt + 1
  · rw [decide_eq_true hmu] at M5
    clear hmu
    go_wp2_with fail
    refine M5.mono ?_
    rintro e w6 ⟨rfl, hb6⟩
    have H6 := Lib.hid ((HBW.out _ H5.out).trans (hb6.mono (HBW.out _ H5.out).size))
    clear hb6 M5 x0 x1 x2 x3 x4
    go_wp2_with fail
    refine (LV.out _).mono ?_
    rintro e w7 ⟨rfl, hb7⟩
    have H7 := Lib.hid (H6.out.trans (hb7.mono H6.out.size))
    clear hb7
    go_wp2_with fail
    go_ret
    exact ⟨rfl, H7.out⟩
  rw [decide_eq_false hmu] at M5
  clear hmu
  go_wp2_with fail
  refine M5.mono ?_
  rintro e w6 ⟨rfl, hb6⟩
  have H6 := Lib.hid (H5.out.trans (hb6.mono H5.out.size))
  clear hb6 M5 x0 x1 x2 x3 x4 H5
  obtain ⟨x0, x1, x2, x3, x4⟩ := XC.out w6 H6.out
  have C6 := CH.out w6 H6.out
  clear CH
  go_wp2_with fail
  refine C6.mono ?_
  rintro e w7 ⟨rfl, hb7⟩
  have H7 := Lib.hid (H6.out.trans (hb7.mono H6.out.size))
  clear hb7 C6 x0 x1 x2 x3 x4 H6
  by_cases hz : zc = 0
  case neg =>
    have d1 : (zc != 0) = true := by simp [hz]
    have d1' : (zc == 0) = false := by simp [hz]
    go_wp2_with fail
    refine (LV.out _).mono ?_
    rintro e w8 ⟨rfl, hb8⟩
    have H8 := Lib.hid ((HBW.out _ H7.out).trans (hb8.mono (HBW.out _ H7.out).size))
    clear hb8
    go_wp2_with fail
    go_ret
    exact ⟨rfl, H8.out⟩
  case pos =>
    have d1 : (zc != 0) = false := by simp [hz]
    have d1' : (zc == 0) = true := by simp [hz]
    obtain ⟨x0, x1, x2, x3, x4⟩ := XC.out w7 H7.out
    by_cases hm0 : sm = 0
    · have d2 : ((sm : Int) == 0) = true := by simp [hm0]
      have d2' : (sm == 0) = true := by simp [hm0]
      clear hm0
      go_wp2_with fail
      refine (LV.out _).mono ?_
      rintro e w8 ⟨rfl, hb8⟩
      have H8 := Lib.hid ((HBW.out _ H7.out).trans (hb8.mono (HBW.out _ H7.out).size))
      clear hb8
      go_wp2_with fail
      go_ret
      exact ⟨rfl, H8.out⟩
    · have d2 : ((sm : Int) == 0) = false := by simp [hm0]
      have d2' : (sm == 0) = false := by simp [hm0]
      have hsm0 : 0 < sm := by omega
      clear hm0
      have N7 := NW.out w7
      clear NW x0 x1 x2 x3 x4
      obtain ⟨x0, x1, x2, x3, x4⟩ := XC.out w7 H7.out
      go_wp2_with fail
      refine N7.mono ?_
      rintro e w8 ⟨rfl, hs8, hb8⟩
      have hMX : w0.heap.size ≤ w7.heap.size := H7.out.size
      obtain ⟨M, hM⟩ : ∃ M, w7.heap.size = M := ⟨_, rfl⟩
      rw [hM] at hs8 hb8 hMX ⊢
      have H8 := Lib.hid (H7.out.trans (hb8.mono (by omega)))
      have lM8 := hs8.lt
      have lX8 : X < w8.heap.size := by have := HX.out; have := HSZ0.out; omega
      have hW8 : W.heap.size < w8.heap.size := by have := HX.out; omega
      have hMW : W.heap.size ≤ M := by have := HSZ0.out; omega
      have hn9 := heap_alloc_new w8 (.cells #[] 34)
      have b9 : Below w8.heap.size w8 (w8.alloc (.cells #[] 34)) := (Below.refl _ _).alloc (Nat.le_refl _) _
      have HO := Lib.hid (OwnT.emp (lim := W.heap.size) (B := w8.heap.size) hn9 (Nat.le_refl _))
      obtain ⟨nb, no, news, rfl, hN, hC⟩ := NS.out _ (H8.out.trans (b9.mono H8.out.size)) hsm0
      have HN := Lib.hid (show NodsS (w8.alloc (.cells #[] 34)) (offB (w8.alloc (.cells #[] 34)) W.heap.size w8.heap.size (.slice (some ⟨w8.heap.size, 0, none⟩) 0 0)) news t0.top from hN.carry (fun x hx => ⟨⟨by simp; omega, fun e => by have := Option.some.inj (show some w8.heap.size = some x from e); omega, .inl hx⟩, rfl⟩))
      have HCC := Lib.hid hC
      have HS8 := Lib.hid hs8
      have HB9 := Lib.hid b9
      obtain ⟨x0, x1, x2, x3, x4⟩ := XC.out w8 H8.out
      have hlen : ([] : List Nd).length + sm ≤ 1099511627776 := by simp only [List.length_nil]; omega
      clear N7 hb8 hn9 b9 hN hC hs8 hM x0 x1 x2 x3
      go_wp2_with (at_builtin; refine wpList_plain rfl fun _ hK => wp_append_t _ _ rfl rfl HO.out rfl hTL.out HN.out HCC.out (by simp) hsm0 hlen fun v7 u7 hO7 hg7 => hK _ _ ?_; (
        clear hK
        obtain ⟨gk, ck, a0, a1, a2, hv7, hgk, hgz, hck, c0, c1, c2, hfr⟩ := hO7.first (by rw [List.nil_append, hTL.out]; exact hsm0)
        rw [List.nil_append, hTL.out] at hv7 hck
        rw [List.nil_append] at hO7
        subst hv7
        have HU := Lib.hid (show Below w8.heap.size w8 u7 from (HB9.out).grown hg7 (by simp) (fun i hi => by have := Option.some.inj (show some w8.heap.size = some i from hi); omega))
        have HO7 := Lib.hid hO7
        have HFR := Lib.hid hfr
        have HC0 := Lib.hid c0
        have HC1 := Lib.hid c1
        have HC2 := Lib.hid c2
        have H9 := Lib.hid (H8.out.trans (HU.out.mono H8.out.size))
        clear hO7 hg7 hfr x4 c0 c1 c2
        obtain ⟨x0, x1, x2, x3, x4⟩ := XC.out u7 H9.out))
      have hzu := HU.out.size
      have P9 := PU.out M u7.heap.size u7 (.slice (some ⟨gk, 0, none⟩) sm ck) ((HS8.out.below HU.out).lift (by omega)) (Nat.le_refl _) (HO7.out.kidsS.carry (fun x hx => ⟨⟨hx.1, by rcases hx.2 with h | h <;> omega⟩, rfl⟩))
      clear HO HN HCC HB9 HO7
      (try go_wp2_with fail)
      refine P9.mono ?_
      rintro e w10 ⟨fresh, vs', g', rfl, hc, hs10, hg10, -, hk10⟩
      obtain ⟨v', rfl⟩ : ∃ v', vs' = [⟨ea0, eb0, dk0, dn0, v', t0⟩] := by
        rcases hc with ⟨h, _⟩ | ⟨_, ⟨_, _, h⟩ | ⟨h1, _, v', h2⟩⟩
        · exact absurd hz h
        · obtain ⟨p, hp, _⟩ := h; cases hp
        · exact ⟨v', h2⟩
      have hgkM : gk ≠ M := by omega
      have hblk : w10.heap[gk]? = u7.heap[gk]? := hk10.o gk hgz hgkM (fun e => by cases e)
      have y0 : w10.cell? ⟨gk, 0, none⟩ = some a0 := (World.cell?_of_block (a := ⟨gk, 0, none⟩) hblk).trans HC0.out
      have y1 : w10.cell? ⟨gk, 1, none⟩ = some a1 := (World.cell?_of_block (a := ⟨gk, 1, none⟩) hblk).trans HC1.out
      have y2 : w10.cell? ⟨gk, 2, none⟩ = some a2 := (World.cell?_of_block (a := ⟨gk, 2, none⟩) hblk).trans HC2.out
      have f0 : w10.frozen? ⟨gk, 0, none⟩ = false := (World.frozen?_of_block (a := ⟨gk, 0, none⟩) hblk).trans (HFR.out 0)
      have f1 : w10.frozen? ⟨gk, 1, none⟩ = false := (World.frozen?_of_block (a := ⟨gk, 1, none⟩) hblk).trans (HFR.out 1)
      have f2 : w10.frozen? ⟨gk, 2, none⟩ = false := (World.frozen?_of_block (a := ⟨gk, 2, none⟩) hblk).trans (HFR.out 2)
      have h10 : Below w0.heap.size w0 w10 := H9.out.trans (hk10.b w0.heap.size hMX (fun G e => by cases e) (by omega))
      have hsn := hs10.but (u3_but w10 gk (.int .i64 0) (.int .i64 0) (.slice none 0 0)) hgz hgkM
      have hbn := h10.trans (u3_below (w := w10) (b := gk) (.int .i64 0) (.int .i64 0) (.slice none 0 0) (show w0.heap.size ≤ gk by omega))
      obtain ⟨wn, hwn⟩ : ∃ wn, u3 w10 gk (.int .i64 0) (.int .i64 0) (.slice none 0 0) = wn := ⟨_, rfl⟩
      rw [hwn] at hsn hbn
      simp only [u3] at hwn
      have HWN := Lib.hid hwn
      have G11 := GE.out M u7.heap.size g' _ wn hsn
      have H11 := Lib.hid hbn
      have hsmI : (0 : Int) < (sm : Int) := by omega
      clear hc hs10 hg10 hk10 hblk h10 hsn hbn hwn P9 PU GE HC0 HC1 HC2 HFR x0 x1 x2 x3 x4 H9 H8 H7 HU HS8
      go_upto_region 13 with fail
      rw [HWN.out]
      clear y0 y1 y2 f0 f1 f2 HWN
      obtain ⟨x0, x1, x2, x3, x4⟩ := XC.out wn H11.out
      go_wp2_with fail
      refine G11.mono ?_
      rintro e w11 ⟨k, n, ja, jm, jc, ks, ok, rfl, hKk, hl, hb11⟩
      obtain ⟨rfl, rfl, rfl, rfl⟩ : ok = true ∧ k = dk0 ∧ n = dn0 ∧ ks = t0 := by
        rcases hl with ⟨h1, p, hp, _, _, h2, h3, h4⟩ | ⟨_, h, _⟩
        · rw [List.mem_singleton] at hp
          subst hp
          exact ⟨h1, h2, h3, h4⟩
        · exact absurd ⟨_, List.mem_singleton.2 rfl, rfl, rfl⟩ h
      obtain ⟨w12, hw12⟩ : ∃ w12, w11.alloc (.cells #[.int .i64 k, .int .i64 n, .slice ja jm jc] 34) = w12 := ⟨_, rfl⟩
      have hn12 := heap_alloc_new w11 (.cells #[.int .i64 k, .int .i64 n, .slice ja jm jc] 34)
      rw [hw12] at hn12
      have hb12 : Below w11.heap.size w11 w12 := by rw [← hw12]; exact (Below.refl _ _).alloc (Nat.le_refl _) _
      have H12 := Lib.hid (H11.out.trans ((hb11.trans (hb12.mono hb11.size)).mono H11.out.size))
      have S12 := SM.out w12 H12.out (.slice ja jm jc) ((hKk.below (Nat.le_refl _) hb12).mono hb12.size)
      have HW12 := Lib.hid hw12
      obtain ⟨D2, hD2⟩ : ∃ D2, w11.heap.size = D2 := ⟨_, rfl⟩
      rw [hD2] at hn12
      obtain ⟨z0, z1, z2, -, -, -⟩ := row_cells3 hn12
      clear hKk hl hb11 hb12 hw12 hn12 x0 x1 x2 x3 x4 H11 G11
      obtain ⟨x0, x1, x2, x3, x4⟩ := XC.out w12 H12.out
      go_upto_region 14 with fail
      rw [HW12.out]
      clear HW12 hD2
      go_wp2_with fail
      refine S12.mono ?_
      rintro e w13 ⟨rfl, hb13⟩
      have H13 := Lib.hid ((HBW.out _ H12.out).trans (hb13.mono (HBW.out _ H12.out).size))
      clear hb13 S12 x0 x1 x2 x3 x4 z0 z1 z2
      go_wp2_with fail
      refine (LV.out _).mono ?_
      rintro e w14 ⟨rfl, hb14⟩
      have H14 := Lib.hid (H13.out.trans (hb14.mono H13.out.size))
      clear hb14
      go_wp2_with fail
      go_ret
      exact ⟨rfl, H14.out⟩
end wmapNils
end Go.Proofs.Ytmbcfijhlpeddaa
