/- Put together by program (merge2.py): Needr Ext Exu. -/
import Derived.StillTailTactics
import Derived.Test.YtbhnlfgccldmaaaGreatZd24
/- Reference 15's Check, All, Has and Once. -/
namespace Go.Proofs.YtbhnlfgccldmaaaGreat
open Go.ChangeShapes Go.WideShapes Go.ChangeAt Go.RowKit
set_option linter.unusedVariables false
set_option maxRecDepth 100000 in
theorem r15_check (ks : Fo) (v : Value) (k n dir : Int) (lim : Nat) (W : World) (hN : ks.cnt ≤ 1048576) (hK : Kids W lim v ks) (hl : lim ≤ W.heap.size) (wk : -9223372036854775808 ≤ k ∧ k ≤ 9223372036854775807) (wn : -9223372036854775808 ≤ n ∧ n ≤ 9223372036854775807) (wf : ks.wf) :
    Calls Tryz.prog 48 #[.agg #[.int .i64 k, .int .i64 n, v], .int .i64 dir] W fun e w' => e = .returned (.int .i64 (ckd dir (chkd k n ks))) ∧ Below W.heap.size W w' := by
  have CK := Lib.hid (fun W h1 h2 => r14_check ks v k n lim W hN h1 h2 wk wn wf)
  obtain ⟨p, m, c, rfl, hc1, hc2, HM⟩ := hK.shape
  obtain ⟨w0, hw0, c0, c1, c2, hB, hsz⟩ := box3 W k n (.slice p m c) 24
  have hK0 := hK.below hl hB
  generalize chkd k n ks = ck at *
  by_cases hd : dir = 0 ∨ dir = 1
  · have E := Lib.hid (show ckd dir ck = ck from if_pos hd)
    rcases hd with rfl | rfl
    all_goals
      go_enter Tryz.func48, Tryz.ntmps48
      go_wp2_with fail
      rw [← hw0]
      clear hw0
      refine (CK.out _ hK0 (by omega)).mono ?_
      rintro e w1 ⟨rfl, b1⟩
      go_wp2_with fail
      go_ret
      exact ⟨ret_i64 E.out.symm, hB.trans (b1.mono hB.size)⟩
  · have E := Lib.hid (show ckd dir ck = 2 from if_neg hd)
    have d0 : (dir != 0) = true := by simp; omega
    have d1 : (dir != 1) = true := by simp; omega
    go_enter Tryz.func48, Tryz.ntmps48
    go_wp2_with fail
    rw [← hw0]
    go_ret
    exact ⟨ret_i64 E.out.symm, hB⟩
set_option maxRecDepth 100000 in
set_option maxHeartbeats 8000000 in
theorem r15_all (N : Nat) : ∀ (ks : Fo) (v : Value) (k n dir : Int) (lim : Nat) (W : World), ks.cnt ≤ N → N ≤ 1048576 → Kids W lim v ks → lim ≤ W.heap.size → (k = 7 → 0 < ks.len) → ks.sane →
    Calls Tryz.prog 49 #[.agg #[.int .i64 k, .int .i64 n, v], .int .i64 dir] W fun e w' => ∃ v', e = .returned v' ∧ OwnNm w' W.heap.size v' (namesN k n ks dir) ∧ Below W.heap.size W w' := by
  induction N using Nat.strongRecOn with
  | _ N ih =>
  intro ks v k n dir lim W hN hN2 hK hl h7 hsn
  obtain ⟨p, m, c, rfl, hc1, hc2, HM⟩ := hK.shape
  obtain ⟨w0, hw0, c0, c1, c2, hB, hsz⟩ := box3 W k n (.slice p m c) 24
  have hK0 := Lib.hid (hK.below hl hB)
  have x0 : W.heap.size < w0.heap.size := by omega
  have hll := named_len k n dir (ks.n 0)
  have E := Lib.hid (show namesN k n ks dir = namedL k n dir (ks.n 0) ++ ks.names (under k dir) by rw [namesN])
  have hmN := Fo.len_cnt ks
  have hmm : m ≤ 1048576 := by have := HM.out; omega
  have IH := Lib.hid ih
  have NS := Lib.hid (fun i d (hi : i < m) => names_step ks i d (by rw [← HM.out]; exact hi))
  have NE := Lib.hid (show ∀ d, (ks.drop m).names d = [] from fun d => by rw [HM.out]; exact names_end ks d)
  have N0 := Lib.hid (show (ks.drop 0).names (under k dir) = ks.names (under k dir) by rw [Fo.drop_zero])
  have SA := Lib.hid (fun i (hi : i < m) => Fo.sane_at ks i hsn (by rw [← HM.out]; exact hi))
  have PC := Lib.hid (fun i (hi : i < m) => (show (ks.kids i).cnt < ks.cnt from Fo.cnt_kids ks i (by rw [← HM.out]; exact hi)))
  have CD := Lib.hid (fun i (hi : i < m) => (show (ks.drop i).cnt = (ks.kids i).cnt + (ks.drop (i + 1)).cnt + 1 by rw [Fo.drop_at ks i (by rw [← HM.out]; exact hi), Fo.cnt]))
  have C0 := Lib.hid (show (ks.drop 0).cnt = ks.cnt by rw [Fo.drop_zero])
  have NLn := Lib.hid (fun i d => (show (namesN (ks.k i) (ks.n i) (ks.kids i) d).length ≤ 2 + 2 * (ks.kids i).cnt by
    have a1 := named_len (ks.k i) (ks.n i) d ((ks.kids i).n 0)
    have a2 := names_len (ks.kids i) (under (ks.k i) d)
    rw [namesN, List.length_append]; omega))
  have UL := Lib.hid (fun h => under_lo (k := k) (dir := dir) h)
  have UU := Lib.hid (fun h => under_up (k := k) (dir := dir) h)
  have HK7 := Lib.hid (fun (h : 0 < m) => hK.size h)
  have HO0 := Lib.hid (show OwnNm w0 w0.heap.size (.slice none 0 0) [] from World.ownsRow_nil w0 w0.heap.size 82 4)
  have R0 := Lib.hid (Below.refl w0.heap.size w0)
  have h7' : k = 7 → 0 < m := fun h => by rw [HM.out]; exact h7 h
  have NN := Lib.hid (fun a => (show namedL k n dir a = if k = 1 ∨ k = 3 ∨ k = 4 then [⟨1, n, 0, dir⟩] else if k = 6 then [⟨3, n, 0, dir⟩] else if k = 7 then [⟨2, n, 0, dir⟩, ⟨4, n, a, dir⟩] else [] from rfl))
  generalize namesN k n ks dir = R at *
  generalize ks.n 0 = A at *
  generalize under k dir = D at *
  clear ih hK hsn HM hmN h7
  have KB := Lib.hid (fun (w1 : World) (hb : Below w0.heap.size w0 w1) => (show w1.cell? ⟨W.heap.size, 0, none⟩ = some (.int .i64 k) ∧ w1.cell? ⟨W.heap.size, 1, none⟩ = some (.int .i64 n) ∧ w1.cell? ⟨W.heap.size, 2, none⟩ = some (.slice p m c) from ⟨(hb.cell (p := ⟨W.heap.size, 0, none⟩) x0).trans c0, (hb.cell (p := ⟨W.heap.size, 1, none⟩) x0).trans c1, (hb.cell (p := ⟨W.heap.size, 2, none⟩) x0).trans c2⟩))
  by_cases h1 : k = 1 ∨ k = 3 ∨ k = 4
  · have E1 := Lib.hid (show R = [⟨1, n, 0, dir⟩] ++ ks.names D by rw [E.out, NN.out, if_pos h1])
    have hD : D = dir := UU.out (by omega)
    subst hD
    have e6 : (k == 6) = false := by simp; omega
    have e7 : (k == 7) = false := by simp; omega
    rcases h1 with rfl | rfl | rfl
    · have HX := Lib.hid (show w0.heap.size = W.heap.size + 1 from hsz)
      have HW0 := Lib.hid hw0
      have HO1w := Lib.hid (show OwnNm (W.alloc (.cells #[.int .i64 1, .int .i64 n, .slice p m c] 24)) w0.heap.size (.slice none 0 0) [] from hw0 ▸ HO0.out)
      clear hw0
      go_enter Tryz.func49, Tryz.ntmps49
      go_wp2_with (at_builtin; refine append_nm (x := ⟨1, n, 0, D⟩) rfl _ _ rfl rfl HO1w.out (by show Value.slice (some ⟨W.heap.size + 1, 0, none⟩) 1 1 = _; simp) (by simp; omega) (by simp) ?_; (
        intro v1 w1 hO1 hb1 _ _
        rw [← HW0.out] at hb1
        obtain ⟨k0, k1, k2⟩ := KB.out _ hb1
        have HO1 := Lib.hid hO1
        have HB1 := Lib.hid hb1
        obtain ⟨g1, cg1, e1, _⟩ := hO1.row
        subst e1
        clear hO1 hb1))
      go_loopw [5, 7] (fun x y wr => ∃ (i : Nat) (L2 : List Nam), i ≤ m ∧ y = .int .i64 i ∧ L2.length + 2 * (ks.drop i).cnt ≤ 2 + 2 * ks.cnt ∧ Hid (OwnNm wr w0.heap.size x L2) ∧ Hid (L2 ++ (ks.drop i).names D = R) ∧ Hid (Below w0.heap.size w0 wr)) (fun _ y _ => m - (intOf y).toNat)
      case atStart => exact ⟨0, [⟨1, n, 0, D⟩], Nat.zero_le _, rfl, (by rw [C0.out]; simp), by simpa using HO1, Lib.hid (by rw [N0.out]; exact E1.out.symm), HB1⟩
      case round =>
        clear HO0 HB1 HO1
        obtain ⟨i, L2, hi, rfl, hb2, HO, HL, HB⟩ := hrel
        have hs := HB.out.size
        have k2 := (HB.out.cell (p := ⟨W.heap.size, 2, none⟩) x0).trans c2
        by_cases hlt : i < m
        · obtain ⟨b, o, v, e0, hb, g0, g1, g2, hKi⟩ := (hK0.out.below (by omega) HB.out).get hlt
          first | subst e0 | cases e0
          obtain ⟨a', m', c', rfl, _, _, _⟩ := hKi.shape
          have dd : decide ((i : Int) < (m : Int)) = true := decide_eq_true (by omega)
          have HL2 := HL.out
          rw [NS.out i _ hlt] at HL2
          have hcd := CD.out i hlt
          have hnl := NLn.out i D
          rw [hcd] at hb2
          have hb3 : (L2 ++ namesN (ks.k i) (ks.n i) (ks.kids i) D).length + 2 * (ks.drop (i + 1)).cnt ≤ 2 + 2 * ks.cnt := by rw [List.length_append]; omega
          have hb4 : L2.length + (namesN (ks.k i) (ks.n i) (ks.kids i) D).length < 8388608 := by omega
          have CI := Lib.hid (IH.out _ (show (ks.kids i).cnt < N by have := PC.out i hlt; omega) (ks.kids i) _ (ks.k i) (ks.n i) D lim wr (Nat.le_refl _) (by have := PC.out i hlt; omega) hKi (by omega) (SA.out i hlt).1 (SA.out i hlt).2)
          have HL3 := Lib.hid (show (L2 ++ namesN (ks.k i) (ks.n i) (ks.kids i) D) ++ (ks.drop (i + 1)).names D = R by rw [List.append_assoc]; exact HL2)
          obtain ⟨u, cu, rfl, _⟩ := HO.out.row
          clear hKi HL2 HL hcd hnl hb2 c0 c1
          generalize namesN (ks.k i) (ks.n i) (ks.kids i) D = l3 at *
          generalize ks.k i = X1 at *
          generalize ks.n i = X2 at *
          go_wp2_with fail
          refine CI.out.mono ?_
          rintro e w4 ⟨v4, rfl, hO4, b4⟩
          obtain ⟨a4, c4, rfl, hr4, _, _⟩ := hO4.row
          have HR4 := Lib.hid hr4
          have HO4 := Lib.hid (HO.out.below b4)
          have HB4 := Lib.hid (HB.out.trans (b4.mono hs))
          have hs4 := HB4.out.size
          clear hO4 hr4 b4
          go_wp2_with (at_builtin; refine append_nms rfl _ _ rfl rfl HO4.out rfl HR4.out hs4 hb4 ?_; intro v' w5 hO' hb'; have HO5 := Lib.hid hO'; have HB5 := Lib.hid (HB4.out.trans hb'); clear hO' hb')
          go_roundw
          case rel => exact ⟨i + 1, _, by omega, by go_num, hb3, HO5, HL3, HB5⟩
          case measure => (first | (simp [intOf]; done) | (simp [intOf]; omega) | (simp only [intOf]; omega))
        · obtain rfl : i = m := by omega
          have dd : decide ((i : Int) < (i : Int)) = false := decide_eq_false (by omega)
          have HL2 := HL.out
          rw [NE.out, List.append_nil] at HL2
          have HO2 := HO.out
          rw [HL2] at HO2
          have HO3 := Lib.hid HO2
          clear HO2 HL2
          go_wp2_with fail
          go_ret
          exact ⟨_, rfl, World.ownsRow.mono HO3.out (by omega), hB.trans (HB.out.mono hB.size)⟩
    · have HX := Lib.hid (show w0.heap.size = W.heap.size + 1 from hsz)
      have HW0 := Lib.hid hw0
      have HO1w := Lib.hid (show OwnNm (W.alloc (.cells #[.int .i64 3, .int .i64 n, .slice p m c] 24)) w0.heap.size (.slice none 0 0) [] from hw0 ▸ HO0.out)
      clear hw0
      go_enter Tryz.func49, Tryz.ntmps49
      go_wp2_with (at_builtin; refine append_nm (x := ⟨1, n, 0, D⟩) rfl _ _ rfl rfl HO1w.out (by show Value.slice (some ⟨W.heap.size + 1, 0, none⟩) 1 1 = _; simp) (by simp; omega) (by simp) ?_; (
        intro v1 w1 hO1 hb1 _ _
        rw [← HW0.out] at hb1
        obtain ⟨k0, k1, k2⟩ := KB.out _ hb1
        have HO1 := Lib.hid hO1
        have HB1 := Lib.hid hb1
        obtain ⟨g1, cg1, e1, _⟩ := hO1.row
        subst e1
        clear hO1 hb1))
      go_loopw [5, 7] (fun x y wr => ∃ (i : Nat) (L2 : List Nam), i ≤ m ∧ y = .int .i64 i ∧ L2.length + 2 * (ks.drop i).cnt ≤ 2 + 2 * ks.cnt ∧ Hid (OwnNm wr w0.heap.size x L2) ∧ Hid (L2 ++ (ks.drop i).names D = R) ∧ Hid (Below w0.heap.size w0 wr)) (fun _ y _ => m - (intOf y).toNat)
      case atStart => exact ⟨0, [⟨1, n, 0, D⟩], Nat.zero_le _, rfl, (by rw [C0.out]; simp), by simpa using HO1, Lib.hid (by rw [N0.out]; exact E1.out.symm), HB1⟩
      case round =>
        clear HO0 HB1 HO1
        obtain ⟨i, L2, hi, rfl, hb2, HO, HL, HB⟩ := hrel
        have hs := HB.out.size
        have k2 := (HB.out.cell (p := ⟨W.heap.size, 2, none⟩) x0).trans c2
        by_cases hlt : i < m
        · obtain ⟨b, o, v, e0, hb, g0, g1, g2, hKi⟩ := (hK0.out.below (by omega) HB.out).get hlt
          first | subst e0 | cases e0
          obtain ⟨a', m', c', rfl, _, _, _⟩ := hKi.shape
          have dd : decide ((i : Int) < (m : Int)) = true := decide_eq_true (by omega)
          have HL2 := HL.out
          rw [NS.out i _ hlt] at HL2
          have hcd := CD.out i hlt
          have hnl := NLn.out i D
          rw [hcd] at hb2
          have hb3 : (L2 ++ namesN (ks.k i) (ks.n i) (ks.kids i) D).length + 2 * (ks.drop (i + 1)).cnt ≤ 2 + 2 * ks.cnt := by rw [List.length_append]; omega
          have hb4 : L2.length + (namesN (ks.k i) (ks.n i) (ks.kids i) D).length < 8388608 := by omega
          have CI := Lib.hid (IH.out _ (show (ks.kids i).cnt < N by have := PC.out i hlt; omega) (ks.kids i) _ (ks.k i) (ks.n i) D lim wr (Nat.le_refl _) (by have := PC.out i hlt; omega) hKi (by omega) (SA.out i hlt).1 (SA.out i hlt).2)
          have HL3 := Lib.hid (show (L2 ++ namesN (ks.k i) (ks.n i) (ks.kids i) D) ++ (ks.drop (i + 1)).names D = R by rw [List.append_assoc]; exact HL2)
          obtain ⟨u, cu, rfl, _⟩ := HO.out.row
          clear hKi HL2 HL hcd hnl hb2 c0 c1
          generalize namesN (ks.k i) (ks.n i) (ks.kids i) D = l3 at *
          generalize ks.k i = X1 at *
          generalize ks.n i = X2 at *
          go_wp2_with fail
          refine CI.out.mono ?_
          rintro e w4 ⟨v4, rfl, hO4, b4⟩
          obtain ⟨a4, c4, rfl, hr4, _, _⟩ := hO4.row
          have HR4 := Lib.hid hr4
          have HO4 := Lib.hid (HO.out.below b4)
          have HB4 := Lib.hid (HB.out.trans (b4.mono hs))
          have hs4 := HB4.out.size
          clear hO4 hr4 b4
          go_wp2_with (at_builtin; refine append_nms rfl _ _ rfl rfl HO4.out rfl HR4.out hs4 hb4 ?_; intro v' w5 hO' hb'; have HO5 := Lib.hid hO'; have HB5 := Lib.hid (HB4.out.trans hb'); clear hO' hb')
          go_roundw
          case rel => exact ⟨i + 1, _, by omega, by go_num, hb3, HO5, HL3, HB5⟩
          case measure => (first | (simp [intOf]; done) | (simp [intOf]; omega) | (simp only [intOf]; omega))
        · obtain rfl : i = m := by omega
          have dd : decide ((i : Int) < (i : Int)) = false := decide_eq_false (by omega)
          have HL2 := HL.out
          rw [NE.out, List.append_nil] at HL2
          have HO2 := HO.out
          rw [HL2] at HO2
          have HO3 := Lib.hid HO2
          clear HO2 HL2
          go_wp2_with fail
          go_ret
          exact ⟨_, rfl, World.ownsRow.mono HO3.out (by omega), hB.trans (HB.out.mono hB.size)⟩
    · have HX := Lib.hid (show w0.heap.size = W.heap.size + 1 from hsz)
      have HW0 := Lib.hid hw0
      have HO1w := Lib.hid (show OwnNm (W.alloc (.cells #[.int .i64 4, .int .i64 n, .slice p m c] 24)) w0.heap.size (.slice none 0 0) [] from hw0 ▸ HO0.out)
      clear hw0
      go_enter Tryz.func49, Tryz.ntmps49
      go_wp2_with (at_builtin; refine append_nm (x := ⟨1, n, 0, D⟩) rfl _ _ rfl rfl HO1w.out (by show Value.slice (some ⟨W.heap.size + 1, 0, none⟩) 1 1 = _; simp) (by simp; omega) (by simp) ?_; (
        intro v1 w1 hO1 hb1 _ _
        rw [← HW0.out] at hb1
        obtain ⟨k0, k1, k2⟩ := KB.out _ hb1
        have HO1 := Lib.hid hO1
        have HB1 := Lib.hid hb1
        obtain ⟨g1, cg1, e1, _⟩ := hO1.row
        subst e1
        clear hO1 hb1))
      go_loopw [5, 7] (fun x y wr => ∃ (i : Nat) (L2 : List Nam), i ≤ m ∧ y = .int .i64 i ∧ L2.length + 2 * (ks.drop i).cnt ≤ 2 + 2 * ks.cnt ∧ Hid (OwnNm wr w0.heap.size x L2) ∧ Hid (L2 ++ (ks.drop i).names D = R) ∧ Hid (Below w0.heap.size w0 wr)) (fun _ y _ => m - (intOf y).toNat)
      case atStart => exact ⟨0, [⟨1, n, 0, D⟩], Nat.zero_le _, rfl, (by rw [C0.out]; simp), by simpa using HO1, Lib.hid (by rw [N0.out]; exact E1.out.symm), HB1⟩
      case round =>
        clear HO0 HB1 HO1
        obtain ⟨i, L2, hi, rfl, hb2, HO, HL, HB⟩ := hrel
        have hs := HB.out.size
        have k2 := (HB.out.cell (p := ⟨W.heap.size, 2, none⟩) x0).trans c2
        by_cases hlt : i < m
        · obtain ⟨b, o, v, e0, hb, g0, g1, g2, hKi⟩ := (hK0.out.below (by omega) HB.out).get hlt
          first | subst e0 | cases e0
          obtain ⟨a', m', c', rfl, _, _, _⟩ := hKi.shape
          have dd : decide ((i : Int) < (m : Int)) = true := decide_eq_true (by omega)
          have HL2 := HL.out
          rw [NS.out i _ hlt] at HL2
          have hcd := CD.out i hlt
          have hnl := NLn.out i D
          rw [hcd] at hb2
          have hb3 : (L2 ++ namesN (ks.k i) (ks.n i) (ks.kids i) D).length + 2 * (ks.drop (i + 1)).cnt ≤ 2 + 2 * ks.cnt := by rw [List.length_append]; omega
          have hb4 : L2.length + (namesN (ks.k i) (ks.n i) (ks.kids i) D).length < 8388608 := by omega
          have CI := Lib.hid (IH.out _ (show (ks.kids i).cnt < N by have := PC.out i hlt; omega) (ks.kids i) _ (ks.k i) (ks.n i) D lim wr (Nat.le_refl _) (by have := PC.out i hlt; omega) hKi (by omega) (SA.out i hlt).1 (SA.out i hlt).2)
          have HL3 := Lib.hid (show (L2 ++ namesN (ks.k i) (ks.n i) (ks.kids i) D) ++ (ks.drop (i + 1)).names D = R by rw [List.append_assoc]; exact HL2)
          obtain ⟨u, cu, rfl, _⟩ := HO.out.row
          clear hKi HL2 HL hcd hnl hb2 c0 c1
          generalize namesN (ks.k i) (ks.n i) (ks.kids i) D = l3 at *
          generalize ks.k i = X1 at *
          generalize ks.n i = X2 at *
          go_wp2_with fail
          refine CI.out.mono ?_
          rintro e w4 ⟨v4, rfl, hO4, b4⟩
          obtain ⟨a4, c4, rfl, hr4, _, _⟩ := hO4.row
          have HR4 := Lib.hid hr4
          have HO4 := Lib.hid (HO.out.below b4)
          have HB4 := Lib.hid (HB.out.trans (b4.mono hs))
          have hs4 := HB4.out.size
          clear hO4 hr4 b4
          go_wp2_with (at_builtin; refine append_nms rfl _ _ rfl rfl HO4.out rfl HR4.out hs4 hb4 ?_; intro v' w5 hO' hb'; have HO5 := Lib.hid hO'; have HB5 := Lib.hid (HB4.out.trans hb'); clear hO' hb')
          go_roundw
          case rel => exact ⟨i + 1, _, by omega, by go_num, hb3, HO5, HL3, HB5⟩
          case measure => (first | (simp [intOf]; done) | (simp [intOf]; omega) | (simp only [intOf]; omega))
        · obtain rfl : i = m := by omega
          have dd : decide ((i : Int) < (i : Int)) = false := decide_eq_false (by omega)
          have HL2 := HL.out
          rw [NE.out, List.append_nil] at HL2
          have HO2 := HO.out
          rw [HL2] at HO2
          have HO3 := Lib.hid HO2
          clear HO2 HL2
          go_wp2_with fail
          go_ret
          exact ⟨_, rfl, World.ownsRow.mono HO3.out (by omega), hB.trans (HB.out.mono hB.size)⟩
  by_cases h2 : k = 6
  · have E1 := Lib.hid (show R = [⟨3, n, 0, dir⟩] ++ ks.names D by rw [E.out, NN.out, if_neg h1, if_pos h2])
    have hD : D = 0 := UL.out (.inl h2)
    subst hD
    subst h2
    have HX := Lib.hid (show w0.heap.size = W.heap.size + 1 from hsz)
    have HW0 := Lib.hid hw0
    have HO1w := Lib.hid (show OwnNm (W.alloc (.cells #[.int .i64 6, .int .i64 n, .slice p m c] 24)) w0.heap.size (.slice none 0 0) [] from hw0 ▸ HO0.out)
    clear hw0
    go_enter Tryz.func49, Tryz.ntmps49
    go_wp2_with (at_builtin; refine append_nm (x := ⟨3, n, 0, dir⟩) rfl _ _ rfl rfl HO1w.out (by show Value.slice (some ⟨W.heap.size + 1, 0, none⟩) 1 1 = _; simp) (by simp; omega) (by simp) ?_; (
      intro v1 w1 hO1 hb1 _ _
      rw [← HW0.out] at hb1
      obtain ⟨k0, k1, k2⟩ := KB.out _ hb1
      have HO1 := Lib.hid hO1
      have HB1 := Lib.hid hb1
      obtain ⟨g1, cg1, e1, _⟩ := hO1.row
      subst e1
      clear hO1 hb1))
    go_loopw [5, 7] (fun x y wr => ∃ (i : Nat) (L2 : List Nam), i ≤ m ∧ y = .int .i64 i ∧ L2.length + 2 * (ks.drop i).cnt ≤ 2 + 2 * ks.cnt ∧ Hid (OwnNm wr w0.heap.size x L2) ∧ Hid (L2 ++ (ks.drop i).names 0 = R) ∧ Hid (Below w0.heap.size w0 wr)) (fun _ y _ => m - (intOf y).toNat)
    case atStart => exact ⟨0, [⟨3, n, 0, dir⟩], Nat.zero_le _, rfl, (by rw [C0.out]; simp), by simpa using HO1, Lib.hid (by rw [N0.out]; exact E1.out.symm), HB1⟩
    case round =>
      clear HO0 HB1 HO1
      obtain ⟨i, L2, hi, rfl, hb2, HO, HL, HB⟩ := hrel
      have hs := HB.out.size
      have k2 := (HB.out.cell (p := ⟨W.heap.size, 2, none⟩) x0).trans c2
      by_cases hlt : i < m
      · obtain ⟨b, o, v, e0, hb, g0, g1, g2, hKi⟩ := (hK0.out.below (by omega) HB.out).get hlt
        first | subst e0 | cases e0
        obtain ⟨a', m', c', rfl, _, _, _⟩ := hKi.shape
        have dd : decide ((i : Int) < (m : Int)) = true := decide_eq_true (by omega)
        have HL2 := HL.out
        rw [NS.out i _ hlt] at HL2
        have hcd := CD.out i hlt
        have hnl := NLn.out i 0
        rw [hcd] at hb2
        have hb3 : (L2 ++ namesN (ks.k i) (ks.n i) (ks.kids i) 0).length + 2 * (ks.drop (i + 1)).cnt ≤ 2 + 2 * ks.cnt := by rw [List.length_append]; omega
        have hb4 : L2.length + (namesN (ks.k i) (ks.n i) (ks.kids i) 0).length < 8388608 := by omega
        have CI := Lib.hid (IH.out _ (show (ks.kids i).cnt < N by have := PC.out i hlt; omega) (ks.kids i) _ (ks.k i) (ks.n i) 0 lim wr (Nat.le_refl _) (by have := PC.out i hlt; omega) hKi (by omega) (SA.out i hlt).1 (SA.out i hlt).2)
        have HL3 := Lib.hid (show (L2 ++ namesN (ks.k i) (ks.n i) (ks.kids i) 0) ++ (ks.drop (i + 1)).names 0 = R by rw [List.append_assoc]; exact HL2)
        obtain ⟨u, cu, rfl, _⟩ := HO.out.row
        clear hKi HL2 HL hcd hnl hb2 c0 c1
        generalize namesN (ks.k i) (ks.n i) (ks.kids i) 0 = l3 at *
        generalize ks.k i = X1 at *
        generalize ks.n i = X2 at *
        go_wp2_with fail
        refine CI.out.mono ?_
        rintro e w4 ⟨v4, rfl, hO4, b4⟩
        obtain ⟨a4, c4, rfl, hr4, _, _⟩ := hO4.row
        have HR4 := Lib.hid hr4
        have HO4 := Lib.hid (HO.out.below b4)
        have HB4 := Lib.hid (HB.out.trans (b4.mono hs))
        have hs4 := HB4.out.size
        clear hO4 hr4 b4
        go_wp2_with (at_builtin; refine append_nms rfl _ _ rfl rfl HO4.out rfl HR4.out hs4 hb4 ?_; intro v' w5 hO' hb'; have HO5 := Lib.hid hO'; have HB5 := Lib.hid (HB4.out.trans hb'); clear hO' hb')
        go_roundw
        case rel => exact ⟨i + 1, _, by omega, by go_num, hb3, HO5, HL3, HB5⟩
        case measure => (first | (simp [intOf]; done) | (simp [intOf]; omega) | (simp only [intOf]; omega))
      · obtain rfl : i = m := by omega
        have dd : decide ((i : Int) < (i : Int)) = false := decide_eq_false (by omega)
        have HL2 := HL.out
        rw [NE.out, List.append_nil] at HL2
        have HO2 := HO.out
        rw [HL2] at HO2
        have HO3 := Lib.hid HO2
        clear HO2 HL2
        go_wp2_with fail
        go_ret
        exact ⟨_, rfl, World.ownsRow.mono HO3.out (by omega), hB.trans (HB.out.mono hB.size)⟩
  by_cases h3 : k = 7
  · have E1 := Lib.hid (show R = [⟨2, n, 0, dir⟩, ⟨4, n, A, dir⟩] ++ ks.names D by rw [E.out, NN.out, if_neg h1, if_neg h2, if_pos h3])
    have hD : D = 0 := UL.out (.inr h3)
    subst hD
    have hm := h7' h3
    subst h3
    obtain ⟨b, o, rfl, hb, hk0⟩ := HK7.out hm
    have k0 : w0.cell? ⟨b, o + 1, none⟩ = some (.int .i64 A) := by simpa using (hB.cell (p := ⟨b, _, none⟩) (by show b < W.heap.size; omega)).trans hk0
    have dm : decide (0 < m) = true := decide_eq_true hm
    go_enter Tryz.func49, Tryz.ntmps49
    go_wp2_with fail
    rw [← hw0]
    clear hw0
    have KA := Lib.hid (fun (w1 w' : World) (hS : w1.cell? ⟨W.heap.size, 0, none⟩ = some (.int .i64 7) ∧ w1.cell? ⟨W.heap.size, 1, none⟩ = some (.int .i64 n) ∧ w1.cell? ⟨W.heap.size, 2, none⟩ = some (.slice (some ⟨b, o, none⟩) m c) ∧ w1.cell? ⟨b, o + 1, none⟩ = some (.int .i64 A) ∧ Below w0.heap.size w0 w1) (hb : Below w0.heap.size w1 w') => (show w'.cell? ⟨W.heap.size, 0, none⟩ = some (.int .i64 7) ∧ w'.cell? ⟨W.heap.size, 1, none⟩ = some (.int .i64 n) ∧ w'.cell? ⟨W.heap.size, 2, none⟩ = some (.slice (some ⟨b, o, none⟩) m c) ∧ w'.cell? ⟨b, o + 1, none⟩ = some (.int .i64 A) ∧ Below w0.heap.size w0 w' from ⟨(hb.cell (p := ⟨W.heap.size, 0, none⟩) x0).trans hS.1, (hb.cell (p := ⟨W.heap.size, 1, none⟩) x0).trans hS.2.1, (hb.cell (p := ⟨W.heap.size, 2, none⟩) x0).trans hS.2.2.1, (hb.cell (p := ⟨b, o + 1, none⟩) (by show b < _; omega)).trans hS.2.2.2.1, hS.2.2.2.2.trans hb⟩))
    have hAl := (Below.refl w0.heap.size w0).alloc (Nat.le_refl _) (.cells #[.int .i64 2, .int .i64 n, .int .i64 0, .int .i64 dir, .int .i64 4, .int .i64 n, .int .i64 A, .int .i64 dir] 82)
    have hnw := heap_alloc_new w0 (.cells #[.int .i64 2, .int .i64 n, .int .i64 0, .int .i64 dir, .int .i64 4, .int .i64 n, .int .i64 A, .int .i64 dir] 82)
    have HNR := Lib.hid (NRow.of2 hnw)
    have HOA := Lib.hid (show OwnNm (w0.alloc (.cells #[.int .i64 2, .int .i64 n, .int .i64 0, .int .i64 dir, .int .i64 4, .int .i64 n, .int .i64 A, .int .i64 dir] 82)) w0.heap.size (.slice none 0 0) [] from World.ownsRow_nil _ _ _ _)
    have hAd := hAl.drew
    have R1 := (Below.refl w0.heap.size w0).drew
    have hsA := hAl.size
    go_region_held3 (fun w' => w'.cell? ⟨W.heap.size, 0, none⟩ = some (.int .i64 7) ∧ w'.cell? ⟨W.heap.size, 1, none⟩ = some (.int .i64 n) ∧ w'.cell? ⟨W.heap.size, 2, none⟩ = some (.slice (some ⟨b, o, none⟩) m c) ∧ w'.cell? ⟨b, o + 1, none⟩ = some (.int .i64 A) ∧ Below w0.heap.size w0 w') (first | exact ⟨c0, c1, c2, k0, R1⟩ | assumption | exact KA.out _ _ ⟨c0, c1, c2, k0, Below.refl _ _⟩ hAl | exact KA.out _ _ ⟨c0, c1, c2, k0, Below.refl _ _⟩ hAd | exact KA.out _ _ (by assumption) hb2) (first | (refine step_plain ?_ ?_; rfl; refine wp_append_nms (l := []) (l2 := [⟨2, n, 0, dir⟩, ⟨4, n, A, dir⟩]) _ _ rfl rfl HOA.out (by show Value.slice (some ⟨W.heap.size + 1, 0, none⟩) 2 2 = _; rw [hsz]; rfl) HNR.out (by simp) hsA (by simp) ?_; intro v1 w1 hO1 hb2))
    rename_i hSS
    have HB1 := Lib.hid hSS.2.2.2.2
    have HO1 := Lib.hid (by assumption : OwnNm _ _ _ ([] ++ _))
    obtain ⟨g1, cg1, e1, _⟩ := HO1.out.row
    replace e1 : _ = Value.slice g1 2 cg1 := e1
    subst e1
    obtain ⟨k0', k1', k2', _⟩ := hSS
    clear KA hAl hnw HNR HOA hAd R1 hsA
    go_wp2_with fail
    go_loopw [5, 7] (fun x y wr => ∃ (i : Nat) (L2 : List Nam), i ≤ m ∧ y = .int .i64 i ∧ L2.length + 2 * (ks.drop i).cnt ≤ 2 + 2 * ks.cnt ∧ Hid (OwnNm wr w0.heap.size x L2) ∧ Hid (L2 ++ (ks.drop i).names 0 = R) ∧ Hid (Below w0.heap.size w0 wr)) (fun _ y _ => m - (intOf y).toNat)
    case atStart => exact ⟨0, [⟨2, n, 0, dir⟩, ⟨4, n, A, dir⟩], Nat.zero_le _, rfl, (by rw [C0.out]; simp), by simpa using HO1, Lib.hid (by rw [N0.out]; exact E1.out.symm), HB1⟩
    case round =>
      clear HO0 HB1 HO1
      obtain ⟨i, L2, hi, rfl, hb2, HO, HL, HB⟩ := hrel
      have hs := HB.out.size
      have k2 := (HB.out.cell (p := ⟨W.heap.size, 2, none⟩) x0).trans c2
      by_cases hlt : i < m
      · obtain ⟨b, o, v, e0, hb, g0, g1, g2, hKi⟩ := (hK0.out.below (by omega) HB.out).get hlt
        first | subst e0 | cases e0
        obtain ⟨a', m', c', rfl, _, _, _⟩ := hKi.shape
        have dd : decide ((i : Int) < (m : Int)) = true := decide_eq_true (by omega)
        have HL2 := HL.out
        rw [NS.out i _ hlt] at HL2
        have hcd := CD.out i hlt
        have hnl := NLn.out i 0
        rw [hcd] at hb2
        have hb3 : (L2 ++ namesN (ks.k i) (ks.n i) (ks.kids i) 0).length + 2 * (ks.drop (i + 1)).cnt ≤ 2 + 2 * ks.cnt := by rw [List.length_append]; omega
        have hb4 : L2.length + (namesN (ks.k i) (ks.n i) (ks.kids i) 0).length < 8388608 := by omega
        have CI := Lib.hid (IH.out _ (show (ks.kids i).cnt < N by have := PC.out i hlt; omega) (ks.kids i) _ (ks.k i) (ks.n i) 0 lim wr (Nat.le_refl _) (by have := PC.out i hlt; omega) hKi (by omega) (SA.out i hlt).1 (SA.out i hlt).2)
        have HL3 := Lib.hid (show (L2 ++ namesN (ks.k i) (ks.n i) (ks.kids i) 0) ++ (ks.drop (i + 1)).names 0 = R by rw [List.append_assoc]; exact HL2)
        obtain ⟨u, cu, rfl, _⟩ := HO.out.row
        clear hKi HL2 HL hcd hnl hb2 c0 c1
        generalize namesN (ks.k i) (ks.n i) (ks.kids i) 0 = l3 at *
        generalize ks.k i = X1 at *
        generalize ks.n i = X2 at *
        go_wp2_with fail
        refine CI.out.mono ?_
        rintro e w4 ⟨v4, rfl, hO4, b4⟩
        obtain ⟨a4, c4, rfl, hr4, _, _⟩ := hO4.row
        have HR4 := Lib.hid hr4
        have HO4 := Lib.hid (HO.out.below b4)
        have HB4 := Lib.hid (HB.out.trans (b4.mono hs))
        have hs4 := HB4.out.size
        clear hO4 hr4 b4
        go_wp2_with (at_builtin; refine append_nms rfl _ _ rfl rfl HO4.out rfl HR4.out hs4 hb4 ?_; intro v' w5 hO' hb'; have HO5 := Lib.hid hO'; have HB5 := Lib.hid (HB4.out.trans hb'); clear hO' hb')
        go_roundw
        case rel => exact ⟨i + 1, _, by omega, by go_num, hb3, HO5, HL3, HB5⟩
        case measure => (first | (simp [intOf]; done) | (simp [intOf]; omega) | (simp only [intOf]; omega))
      · obtain rfl : i = m := by omega
        have dd : decide ((i : Int) < (i : Int)) = false := decide_eq_false (by omega)
        have HL2 := HL.out
        rw [NE.out, List.append_nil] at HL2
        have HO2 := HO.out
        rw [HL2] at HO2
        have HO3 := Lib.hid HO2
        clear HO2 HL2
        go_wp2_with fail
        go_ret
        exact ⟨_, rfl, World.ownsRow.mono HO3.out (by omega), hB.trans (HB.out.mono hB.size)⟩
  · have E1 := Lib.hid (show R = [] ++ ks.names D by rw [E.out, NN.out, if_neg h1, if_neg h2, if_neg h3])
    have hD : D = dir := UU.out (by omega)
    subst hD
    have e1 : (k == 1) = false := by simp; omega
    have e3 : (k == 3) = false := by simp; omega
    have e4 : (k == 4) = false := by simp; omega
    have e6 : (k == 6) = false := by simp; omega
    have e7 : (k == 7) = false := by simp; omega
    go_enter Tryz.func49, Tryz.ntmps49
    go_wp2_with fail
    rw [← hw0]
    clear hw0
    go_loopw [5, 7] (fun x y wr => ∃ (i : Nat) (L2 : List Nam), i ≤ m ∧ y = .int .i64 i ∧ L2.length + 2 * (ks.drop i).cnt ≤ 2 + 2 * ks.cnt ∧ Hid (OwnNm wr w0.heap.size x L2) ∧ Hid (L2 ++ (ks.drop i).names D = R) ∧ Hid (Below w0.heap.size w0 wr)) (fun _ y _ => m - (intOf y).toNat)
    case atStart => exact ⟨0, [], Nat.zero_le _, rfl, (by rw [C0.out]; simp), HO0, Lib.hid (by rw [N0.out]; exact E1.out.symm), R0⟩
    case round =>
      clear HO0 R0
      obtain ⟨i, L2, hi, rfl, hb2, HO, HL, HB⟩ := hrel
      have hs := HB.out.size
      have k2 := (HB.out.cell (p := ⟨W.heap.size, 2, none⟩) x0).trans c2
      by_cases hlt : i < m
      · obtain ⟨b, o, v, e0, hb, g0, g1, g2, hKi⟩ := (hK0.out.below (by omega) HB.out).get hlt
        first | subst e0 | cases e0
        obtain ⟨a', m', c', rfl, _, _, _⟩ := hKi.shape
        have dd : decide ((i : Int) < (m : Int)) = true := decide_eq_true (by omega)
        have HL2 := HL.out
        rw [NS.out i _ hlt] at HL2
        have hcd := CD.out i hlt
        have hnl := NLn.out i D
        rw [hcd] at hb2
        have hb3 : (L2 ++ namesN (ks.k i) (ks.n i) (ks.kids i) D).length + 2 * (ks.drop (i + 1)).cnt ≤ 2 + 2 * ks.cnt := by rw [List.length_append]; omega
        have hb4 : L2.length + (namesN (ks.k i) (ks.n i) (ks.kids i) D).length < 8388608 := by omega
        have CI := Lib.hid (IH.out _ (show (ks.kids i).cnt < N by have := PC.out i hlt; omega) (ks.kids i) _ (ks.k i) (ks.n i) D lim wr (Nat.le_refl _) (by have := PC.out i hlt; omega) hKi (by omega) (SA.out i hlt).1 (SA.out i hlt).2)
        have HL3 := Lib.hid (show (L2 ++ namesN (ks.k i) (ks.n i) (ks.kids i) D) ++ (ks.drop (i + 1)).names D = R by rw [List.append_assoc]; exact HL2)
        obtain ⟨u, cu, rfl, _⟩ := HO.out.row
        clear hKi HL2 HL hcd hnl hb2 c0 c1
        generalize namesN (ks.k i) (ks.n i) (ks.kids i) D = l3 at *
        generalize ks.k i = X1 at *
        generalize ks.n i = X2 at *
        go_wp2_with fail
        refine CI.out.mono ?_
        rintro e w4 ⟨v4, rfl, hO4, b4⟩
        obtain ⟨a4, c4, rfl, hr4, _, _⟩ := hO4.row
        have HR4 := Lib.hid hr4
        have HO4 := Lib.hid (HO.out.below b4)
        have HB4 := Lib.hid (HB.out.trans (b4.mono hs))
        have hs4 := HB4.out.size
        clear hO4 hr4 b4
        go_wp2_with (at_builtin; refine append_nms rfl _ _ rfl rfl HO4.out rfl HR4.out hs4 hb4 ?_; intro v' w5 hO' hb'; have HO5 := Lib.hid hO'; have HB5 := Lib.hid (HB4.out.trans hb'); clear hO' hb')
        go_roundw
        case rel => exact ⟨i + 1, _, by omega, by go_num, hb3, HO5, HL3, HB5⟩
        case measure => (first | (simp [intOf]; done) | (simp [intOf]; omega) | (simp only [intOf]; omega))
      · obtain rfl : i = m := by omega
        have dd : decide ((i : Int) < (i : Int)) = false := decide_eq_false (by omega)
        have HL2 := HL.out
        rw [NE.out, List.append_nil] at HL2
        have HO2 := HO.out
        rw [HL2] at HO2
        have HO3 := Lib.hid HO2
        clear HO2 HL2
        go_wp2_with fail
        go_ret
        exact ⟨_, rfl, World.ownsRow.mono HO3.out (by omega), hB.trans (HB.out.mono hB.size)⟩
end Go.Proofs.YtbhnlfgccldmaaaGreat
/- Package exec: Run's errors, Do; reference 17's Check; the page's example. -/
namespace Go.Proofs.YtbhnlfgccldmaaaGreat
open Go.ChangeShapes Go.WideShapes Go.ChangeAt Go.RowKit
set_option linter.unusedVariables false
open Go.WideMaps Go.MapKept Go.WideElems Go.ChangeMaps
set_option linter.unusedSimpArgs false
/-- What Check tells of a plan, a direction and so many numbers. -/
def ckq (dir k n : Int) (ks : Fo) (M : Nat) : Int := if ckd dir (chkd k n ks) ≠ 0 then ckd dir (chkd k n ks) else if (M : Int) ≠ n then 5 else 0
theorem ckq_zero {dir k n : Int} {ks : Fo} {M : Nat} (h : ckq dir k n ks M = 0) : ckd dir (chkd k n ks) = 0 ∧ (M : Int) = n := by
  unfold ckq at h
  split at h
  · contradiction
  · rename_i h1
    split at h
    · omega
    · rename_i h2; exact ⟨by simpa using h1, by simpa using h2⟩
set_option maxRecDepth 100000 in
theorem r17_check (ks : Fo) (v : Value) (k n dir : Int) (M : Nat) (lim : Nat) (W : World) (hN : ks.cnt ≤ 1048576) (hK : Kids W lim v ks) (hl : lim ≤ W.heap.size) (wk : -9223372036854775808 ≤ k ∧ k ≤ 9223372036854775807) (wn : -9223372036854775808 ≤ n ∧ n ≤ 9223372036854775807) (wf : ks.wf) :
    Calls Tryz.prog 14 #[.agg #[.int .i64 k, .int .i64 n, v], .int .i64 dir, .int .i64 M] W fun e w' => e = .returned (.int .i64 (ckq dir k n ks M)) ∧ Below W.heap.size W w' := by
  obtain ⟨p, m, c, rfl, hc1, hc2, HM⟩ := hK.shape
  obtain ⟨w0, hw0, c0, c1, c2, hB, hsz⟩ := box3 W k n (.slice p m c) 24
  have CK := Lib.hid (r15_check ks (.slice p m c) k n dir lim w0 hN (hK.below hl hB) (by omega) wk wn wf)
  have EQ := Lib.hid (show ckq dir k n ks M = if ckd dir (chkd k n ks) ≠ 0 then ckd dir (chkd k n ks) else if (M : Int) ≠ n then 5 else 0 from rfl)
  have x0 : W.heap.size < w0.heap.size := by omega
  generalize ckq dir k n ks M = R at *
  generalize ckd dir (chkd k n ks) = z at *
  by_cases h1 : z = 0
  · have e1 : (z != 0) = false := by simp [h1]
    by_cases h2 : (M : Int) = n
    · have e2 : ((M : Int) != n) = false := by simp [h2]
      have E := Lib.hid (show R = 0 by rw [EQ.out]; simp [h1, h2])
      clear h2 h1
      go_enter Tryz.func14, Tryz.ntmps14
      go_wp2_with fail
      rw [← hw0]
      refine CK.out.mono ?_
      rintro e w1 ⟨rfl, b1⟩
      have k1 := (b1.cell (p := ⟨W.heap.size, 1, none⟩) x0).trans c1
      go_wp2_with fail
      go_ret
      exact ⟨ret_i64 E.out.symm, hB.trans (b1.mono hB.size)⟩
    · have e2 : ((M : Int) != n) = true := by simp [h2]
      have E := Lib.hid (show R = 5 by rw [EQ.out]; simp [h1, h2])
      clear h2 h1
      go_enter Tryz.func14, Tryz.ntmps14
      go_wp2_with fail
      rw [← hw0]
      refine CK.out.mono ?_
      rintro e w1 ⟨rfl, b1⟩
      have k1 := (b1.cell (p := ⟨W.heap.size, 1, none⟩) x0).trans c1
      go_wp2_with fail
      go_ret
      exact ⟨ret_i64 E.out.symm, hB.trans (b1.mono hB.size)⟩
  · have e1 : (z != 0) = true := by simp [h1]
    have E := Lib.hid (show R = z by rw [EQ.out]; simp [h1])
    clear h1
    go_enter Tryz.func14, Tryz.ntmps14
    go_wp2_with fail
    rw [← hw0]
    refine CK.out.mono ?_
    rintro e w1 ⟨rfl, b1⟩
    go_wp2_with fail
    go_ret
    exact ⟨ret_i64 E.out.symm, hB.trans (b1.mono hB.size)⟩
set_option maxRecDepth 100000 in
set_option maxHeartbeats 4000000 in
theorem exec_run_err (ks : Fo) (v : Value) (k n dir : Int) (M lim : Nat) (p : Option Addr) (c : Nat) (fv pv : Value) (W : World) (hN : ks.cnt ≤ 1048576) (hK : Kids W lim v ks) (hl : lim ≤ W.heap.size) (wn : -9223372036854775808 ≤ n ∧ n ≤ 9223372036854775807) (wf : ks.wf) (hc : ckq dir k n ks M ≠ 0) :
    Calls Tryz.prog 51 #[.agg #[.int .i64 k, .int .i64 n, v], .int .i64 dir, .slice p M c, fv, pv] W fun e w' => e = .returned (.tuple #[.slice none 0 0, .int .i64 (ckq dir k n ks M)]) ∧ Below W.heap.size W w' := by
  obtain ⟨sp, sm, sc, rfl, -⟩ := hK.shape
  obtain ⟨w0, hw0, c0, c1, c2, hB0, hsz⟩ := box3 W k n (.slice sp sm sc) 24
  have NT := Lib.hid (need_tables ks (.slice sp sm sc) k n dir lim w0 hN (hK.below hl hB0) (Nat.le_trans hl hB0.size) wn wf)
  have EQ := Lib.hid (show ckq dir k n ks M = if ckd dir (chkd k n ks) ≠ 0 then ckd dir (chkd k n ks) else if (M : Int) ≠ n then 5 else 0 from rfl)
  have x0 : W.heap.size < w0.heap.size := by omega
  generalize ckq dir k n ks M = R at *
  generalize tabsL k n ks dir = L at *
  generalize ckd dir (chkd k n ks) = z at *
  by_cases h1 : z = 0
  · have e1 : (z != 0) = false := by simp [h1]
    have h2 : ¬ (M : Int) = n := fun h2 => hc (by rw [EQ.out]; simp [h1, h2])
    have e2 : ((M : Int) != n) = true := by simp [h2]
    have E := Lib.hid (show R = 5 by rw [EQ.out]; simp [h1, h2])
    clear h2 h1 hc
    go_enter Tryz.func51, Tryz.ntmps51
    go_wp2_with fail
    rw [← hw0]
    refine NT.out.mono ?_
    rintro e w1 ⟨la, lc, rfl, -, -, -, b1⟩
    have k1 := (b1.cell (p := ⟨W.heap.size, 1, none⟩) x0).trans c1
    go_wp2_with fail
    go_ret2
    exact ⟨by rw [E.out]; rfl, hB0.trans (b1.mono hB0.size)⟩
  · have e1 : (z != 0) = true := by simp [h1]
    have E := Lib.hid (show R = z by rw [EQ.out]; simp [h1])
    clear h1 hc
    go_enter Tryz.func51, Tryz.ntmps51
    go_wp2_with fail
    rw [← hw0]
    refine NT.out.mono ?_
    rintro e w1 ⟨la, lc, rfl, -, -, -, b1⟩
    go_wp2_with fail
    go_ret2
    exact ⟨by rw [E.out]; rfl, hB0.trans (b1.mono hB0.size)⟩
set_option maxRecDepth 100000 in
theorem exec_do_err (ks : Fo) (v : Value) (k n dir : Int) (M lim : Nat) (p : Option Addr) (c : Nat) (W : World) (hN : ks.cnt ≤ 1048576) (hK : Kids W lim v ks) (hl : lim ≤ W.heap.size) (wn : -9223372036854775808 ≤ n ∧ n ≤ 9223372036854775807) (wf : ks.wf) (hc : ckq dir k n ks M ≠ 0) :
    Calls Tryz.prog 16 #[.agg #[.int .i64 k, .int .i64 n, v], .int .i64 dir, .slice p M c] W fun e w' => e = .returned (.tuple #[.slice none 0 0, .int .i64 (ckq dir k n ks M)]) ∧ Below W.heap.size W w' := by
  obtain ⟨sp, sm, sc, rfl, -⟩ := hK.shape
  obtain ⟨w0, hw0, c0, c1, c2, hB0, hsz⟩ := box3 W k n (.slice sp sm sc) 24
  have ER := Lib.hid (fun fv pv => exec_run_err ks (.slice sp sm sc) k n dir M lim p c fv pv w0 hN (hK.below hl hB0) (Nat.le_trans hl hB0.size) wn wf hc)
  generalize ckq dir k n ks M = R at *
  clear hc hK
  go_enter Tryz.func16, Tryz.ntmps16
  go_wp2_with fail
  rw [← hw0]
  refine (ER.out _ _).mono ?_
  rintro e w1 ⟨rfl, b1⟩
  go_wp2_with fail
  go_ret2
  exact ⟨rfl, hB0.trans (b1.mono hB0.size)⟩
set_option maxRecDepth 100000 in
theorem exec_do (ks : Fo) (v : Value) (k dir : Int) (N lim : Nat) (p : Option Addr) (c : Nat) (xs : List Int) (W : World) (hN : ks.cnt ≤ 1048576) (hK : Kids W lim v ks) (hl : lim ≤ W.heap.size) (wk : -9223372036854775808 ≤ k ∧ k ≤ 9223372036854775807) (wf : ks.wf) (hx : Row W p N xs) (hc : ckd dir (chkd k N ks) = 0) :
    Calls Tryz.prog 16 #[.agg #[.int .i64 k, .int .i64 N, v], .int .i64 dir, .slice p N c] W (GivesOk W N (horl (rdir N dir) xs N)) := by
  obtain ⟨sp, sm, sc, rfl, -⟩ := hK.shape
  obtain ⟨w0, hw0, c0, c1, c2, hB0, hsz⟩ := box3 W k N (.slice sp sm sc) 24
  have ER := Lib.hid (exec_run_ok ks (.slice sp sm sc) k dir N lim p c xs w0 hN (hK.below hl hB0) (Nat.le_trans hl hB0.size) wk wf (hx.below hB0) hc)
  generalize horl (rdir N dir) xs N = R at *
  clear hc hK hx
  go_enter Tryz.func16, Tryz.ntmps16
  go_wp2_with fail
  rw [← hw0]
  refine ER.out.mono ?_
  rintro e w1 ⟨a1, d1, rfl, r1, b1⟩
  have HR := Lib.hid r1
  clear r1
  go_wp2_with fail
  go_ret2
  exact ⟨_, _, rfl, HR.out, hB0.trans (b1.mono hB0.size)⟩
end Go.Proofs.YtbhnlfgccldmaaaGreat
/- Law 17: little, the page's example. -/
namespace Go.Proofs.YtbhnlfgccldmaaaGreat
open Go.ChangeShapes Go.WideShapes Go.ChangeAt Go.RowKit
set_option linter.unusedVariables false
open Go.WideMaps Go.MapKept Go.WideElems Go.ChangeMaps
set_option linter.unusedSimpArgs false
/-- Yes or no. -/
def BoolE (e : Ending) : Prop := ∃ b, e = .returned (.bool b)
set_option maxRecDepth 100000 in
set_option maxHeartbeats 4000000 in
theorem l17_little (ks : Fo) (v : Value) (k n dir : Int) (lim : Nat) (W : World) (hN : ks.cnt ≤ 1048576) (hK : Kids W lim v ks) (hl : lim ≤ W.heap.size) (wn : -9223372036854775808 ≤ n ∧ n ≤ 9223372036854775807) (wf : ks.wf) (hc : ckd dir (chkd k n ks) = 0) :
    Calls Tryz.prog 15 #[.agg #[.int .i64 k, .int .i64 n, v], .int .i64 dir] W fun e w' => BoolE e ∧ Below W.heap.size W w' := by
  obtain ⟨hd, h0⟩ := ckd_dir hc
  obtain ⟨h7, hsn, h59⟩ := chk_sane h0
  obtain ⟨sp, sm, sc, rfl, -⟩ := hK.shape
  obtain ⟨w0, hw0, c0, c1, c2, hB0, hsz⟩ := box3 W k n (.slice sp sm sc) 24
  have RA := Lib.hid (r15_all 1048576 ks (.slice sp sm sc) k n dir lim w0 hN (Nat.le_refl _) (hK.below hl hB0) (Nat.le_trans hl hB0.size) h7 hsn)
  have hlen : (namesN k n ks dir).length ≤ 2 + 2 * ks.cnt := by
    unfold namesN
    rw [List.length_append]
    have := named_len k n dir (ks.n 0)
    have := names_len ks (under k dir)
    omega
  have LW := Lib.hid (fun x hx => namesN_wf (k := k) wn (show -9223372036854775808 ≤ dir ∧ dir ≤ 9223372036854775807 from by rcases hd with rfl | rfl <;> omega) wf x hx)
  generalize namesN k n ks dir = L at *
  have HLEN := Lib.hid (show L.length ≤ 200 by omega)
  have x0 : W.heap.size < w0.heap.size := by omega
  clear hK hc h0 h7 hsn h59 wf hlen hd
  go_enter Tryz.func15, Tryz.ntmps15
  go_wp2_with fail
  rw [← hw0]
  refine RA.out.mono ?_
  rintro e w1 ⟨lv, rfl, hO, b1⟩
  obtain ⟨la, lc, rfl, hr, -, -⟩ := hO.row
  have HR := Lib.hid hr
  have HB1 := Lib.hid b1
  clear hr hO b1
  go_wp2_with fail
  go_loopw [6, 7] (fun x y wr => ∃ (i : Nat) (t : Int), i ≤ L.length ∧ y = .int .i64 i ∧ x = .int .i64 t ∧ Hid (Below w1.heap.size w1 wr)) (fun _ y _ => L.length - (intOf y).toNat)
  case atStart => exact ⟨0, 0, Nat.zero_le _, rfl, rfl, Lib.hid (Below.refl _ _)⟩
  case round =>
    obtain ⟨i, t, hi, rfl, rfl, HB⟩ := hrel
    by_cases hil : i < L.length
    · have hii : (i : Int) < (L.length : Int) := by omega
      have WI := Lib.hid (show wrap64 ((i : Int) + 1) = ((i + 1 : Nat) : Int) by have := HLEN.out; simp only [wrap64]; omega)
      obtain ⟨x, hx⟩ : ∃ x, L[i]? = some x := ⟨_, List.getElem?_eq_getElem hil⟩
      have hxL : x ∈ L := List.mem_of_getElem? hx
      obtain ⟨b, o, rfl, hb, k0, k1, k2, k3⟩ := (HR.out.carry HB.out).get hil
      have hxe : L[i] = x := by rw [List.getElem?_eq_getElem hil] at hx; exact Option.some.inj hx
      rw [hxe] at k0 k1 k2 k3
      have NR := Lib.hid (fun (w : World) => r15_room x.k x.n x.m x.d w (LW.out x hxL).2.1 (LW.out x hxL).2.2.1.2)
      clear hxe hx hxL
      go_wp2_with fail
      refine (NR.out _).mono ?_
      rintro e w5 ⟨rfl, b5⟩
      have HB5 := Lib.hid (HB.out.trans (b5.mono HB.out.size))
      clear b5 k0 k1 k2 k3
      go_wp2_with fail
      go_roundw
      case rel => exact ⟨i + 1, _, by omega, by first | rw [WI.out] | go_num, rfl, HB5⟩
      case measure => first | (first | (simp [intOf]; done) | (simp [intOf]; omega) | (simp only [intOf]; omega)) | (rw [WI.out]; simp only [intOf]; omega)
    · have hii : ¬ (i : Int) < (L.length : Int) := by omega
      have Bq := HB1.out.trans (HB.out.mono HB1.out.size)
      have k1 := (Bq.cell (p := ⟨W.heap.size, 1, none⟩) x0).trans c1
      have HBq := Lib.hid (hB0.trans (Bq.mono hB0.size))
      clear Bq
      by_cases ht : t ≤ 1200
      · go_wp2_with fail
        go_ret
        exact ⟨⟨_, rfl⟩, HBq.out⟩
      · go_wp2_with fail
        go_ret
        exact ⟨⟨_, rfl⟩, HBq.out⟩
theorem live17_chk : ckd 0 (chkd 2 (2 : Nat) .nil) = 0 := by decide +kernel
theorem live17_is : horl (rdir (2 : Nat) 0) [1, 2] 2 = [3, 18446744069414584320] := by
  have : rdir (2 : Nat) 0 = 18446744069414584320 := by
    unfold rdir; rw [if_neg (by omega)]; exact rt_two
  rw [this]; decide +kernel
set_option maxRecDepth 100000 in
theorem live17 (W : World) : Calls Tryz.prog 13 #[] W fun e w' => e = .returned (.bool true) ∧ Below W.heap.size W w' := by
  obtain ⟨w1, hw1⟩ : ∃ w1, W.alloc (.cells #[.int .u64 1, .int .u64 2] 62) = w1 := ⟨_, rfl⟩
  have r1 : RowAt w1 W.heap.size 62 [1, 2] := by subst hw1; unfold RowAt; rw [heap_alloc_new]; rfl
  have b1 : Below W.heap.size W w1 := hw1 ▸ (Below.refl _ _).alloc (Nat.le_refl _) _
  have hs1 : 0 ≤ w1.heap.size := Nat.zero_le _
  have ED := Lib.hid (exec_do .nil (.slice none 0 0) 2 0 2 w1.heap.size (some ⟨W.heap.size, 0, none⟩) 2 [1, 2] w1 (by decide) (Kids.nought _ _) (Nat.le_refl _) (by omega) trivial (Row.of_at r1 (by decide) rfl (by decide)) live17_chk)
  rw [live17_is] at ED
  have HB1 := Lib.hid b1
  clear r1 b1
  go_enter Tryz.func13, Tryz.ntmps13
  go_wp2_with fail
  (try rw [hw1])
  refine ED.out.mono ?_
  rintro e w2 ⟨a, c, rfl, r2, b2⟩
  have HR2 := Lib.hid r2
  have HB2 := Lib.hid (HB1.out.trans (b2.mono HB1.out.size))
  obtain ⟨w3, hw3⟩ : ∃ w3, w2.alloc (.cells #[.int .u64 3, .int .u64 18446744069414584320] 62) = w3 := ⟨_, rfl⟩
  have r3 : RowAt w3 w2.heap.size 62 [3, 18446744069414584320] := by subst hw3; unfold RowAt; rw [heap_alloc_new]; rfl
  have b3 : Below w2.heap.size w2 w3 := hw3 ▸ (Below.refl _ _).alloc (Nat.le_refl _) _
  have SM := Lib.hid (c_same (c := c) (d := 2) (r2.below b3) (Row.of_at r3 (by decide) rfl (by decide)))
  have HB3 := Lib.hid (HB2.out.trans (b3.mono HB2.out.size))
  clear r2 b2 r3 b3
  go_wp2_with fail
  (try rw [hw3])
  refine SM.out.mono ?_
  rintro e w4 ⟨rfl, b4⟩
  go_wp2_with fail
  go_ret
  exact ⟨rfl, HB3.out.trans (b4.mono HB3.out.size)⟩
end Go.Proofs.YtbhnlfgccldmaaaGreat
