/- Reference 15's Check, All, Has and Once. -/
import Derived.Test.YticljddfdeocbaaAppn
import Derived.Test.YticljddfdeocbaaNsame
import Derived.StillTailTactics
namespace Go.Proofs.Yticljddfdeocbaa
open Go.ChangeShapes Go.WideShapes Go.ChangeAt Go.RowKit
set_option linter.unusedVariables false
set_option maxRecDepth 100000 in
theorem r15_check (ks : Fo) (v : Value) (k n dir : Int) (lim : Nat) (W : World) (hN : ks.cnt ≤ 1048576) (hK : Kids W lim v ks) (hl : lim ≤ W.heap.size) (wk : -9223372036854775808 ≤ k ∧ k ≤ 9223372036854775807) (wn : -9223372036854775808 ≤ n ∧ n ≤ 9223372036854775807) (wf : ks.wf) :
    Calls Try.prog 48 #[.agg #[.int .i64 k, .int .i64 n, v], .int .i64 dir] W fun e w' => e = .returned (.int .i64 (ckd dir (chkd k n ks))) ∧ Below W.heap.size W w' := by
  have CK := Lib.hid (fun W h1 h2 => r14_check ks v k n lim W hN h1 h2 wk wn wf)
  obtain ⟨p, m, c, rfl, hc1, hc2, HM⟩ := hK.shape
  obtain ⟨w0, hw0, c0, c1, c2, hB, hsz⟩ := box3 W k n (.slice p m c) 24
  have hK0 := hK.below hl hB
  generalize chkd k n ks = ck at *
  by_cases hd : dir = 0 ∨ dir = 1
  · have E := Lib.hid (show ckd dir ck = ck from if_pos hd)
    rcases hd with rfl | rfl
    all_goals
      go_enter Try.func48, Try.ntmps48
      go_wp2_with fail
      rw [← hw0]
      clear hw0
      refine (CK.out _ hK0 (by omega)).mono ?_
      rintro e w1 ⟨rfl, b1⟩
      go_wp2_with fail
      go_ret
      exact ⟨ret_i64 E.out.symm, hB.trans (b1.mono hB.size)⟩
  · have E := Lib.hid (show ckd dir ck = 2 from if_neg hd)
    have d0 : (dir != 0) = true := by simp; omega
    have d1 : (dir != 1) = true := by simp; omega
    go_enter Try.func48, Try.ntmps48
    go_wp2_with fail
    rw [← hw0]
    go_ret
    exact ⟨ret_i64 E.out.symm, hB⟩
theorem sum_len (L l1 : List Nam) : (L ++ l1).length = L.length + l1.length := List.length_append
set_option maxRecDepth 100000 in
set_option maxHeartbeats 8000000 in
theorem r15_all (N : Nat) : ∀ (ks : Fo) (v : Value) (k n dir : Int) (lim : Nat) (W : World), ks.cnt ≤ N → N ≤ 1048576 → Kids W lim v ks → lim ≤ W.heap.size → (k = 7 → 0 < ks.len) → ks.sane →
    Calls Try.prog 50 #[.agg #[.int .i64 k, .int .i64 n, v], .int .i64 dir] W fun e w' => ∃ v', e = .returned v' ∧ OwnNm w' W.heap.size v' (namesN k n ks dir) ∧ Below W.heap.size W w' := by
  induction N using Nat.strongRecOn with
  | _ N ih =>
  intro ks v k n dir lim W hN hN2 hK hl h7 hsn
  obtain ⟨p, m, c, rfl, hc1, hc2, HM⟩ := hK.shape
  obtain ⟨w0, hw0, c0, c1, c2, hB, hsz⟩ := box3 W k n (.slice p m c) 24
  have hK0 := Lib.hid (hK.below hl hB)
  have x0 : W.heap.size < w0.heap.size := by omega
  have hll := named_len k n dir (ks.n 0)
  have E := Lib.hid (show namesN k n ks dir = namedL k n dir (ks.n 0) ++ ks.names (under k dir) by rw [namesN])
  have hmN := Fo.len_cnt ks
  have hmm : m ≤ 1048576 := by have := HM.out; omega
  have IH := Lib.hid ih
  have NS := Lib.hid (fun i d (hi : i < m) => names_step ks i d (by rw [← HM.out]; exact hi))
  have NE := Lib.hid (show ∀ d, (ks.drop m).names d = [] from fun d => by rw [HM.out]; exact names_end ks d)
  have N0 := Lib.hid (show (ks.drop 0).names (under k dir) = ks.names (under k dir) by rw [Fo.drop_zero])
  have SA := Lib.hid (fun i (hi : i < m) => Fo.sane_at ks i hsn (by rw [← HM.out]; exact hi))
  have PC := Lib.hid (fun i (hi : i < m) => (show (ks.kids i).cnt < ks.cnt from Fo.cnt_kids ks i (by rw [← HM.out]; exact hi)))
  have CD := Lib.hid (fun i (hi : i < m) => (show (ks.drop i).cnt = (ks.kids i).cnt + (ks.drop (i + 1)).cnt + 1 by rw [Fo.drop_at ks i (by rw [← HM.out]; exact hi), Fo.cnt]))
  have C0 := Lib.hid (show (ks.drop 0).cnt = ks.cnt by rw [Fo.drop_zero])
  have NLn := Lib.hid (fun i d => (show (namesN (ks.k i) (ks.n i) (ks.kids i) d).length ≤ 2 + 2 * (ks.kids i).cnt by
    have a1 := named_len (ks.k i) (ks.n i) d ((ks.kids i).n 0)
    have a2 := names_len (ks.kids i) (under (ks.k i) d)
    rw [namesN, List.length_append]; omega))
  have UL := Lib.hid (fun h => under_lo (k := k) (dir := dir) h)
  have UU := Lib.hid (fun h => under_up (k := k) (dir := dir) h)
  have HK7 := Lib.hid (fun (h : 0 < m) => hK.size h)
  have HO0 := Lib.hid (show OwnNm w0 w0.heap.size (.slice none 0 0) [] from World.ownsRow_nil w0 w0.heap.size 54 4)
  have R0 := Lib.hid (Below.refl w0.heap.size w0)
  have h7' : k = 7 → 0 < m := fun h => by rw [HM.out]; exact h7 h
  have NN := Lib.hid (fun a => (show namedL k n dir a = if k = 1 ∨ k = 3 ∨ k = 4 then [⟨1, n, 0, dir⟩] else if k = 6 then [⟨3, n, 0, dir⟩] else if k = 7 then [⟨2, n, 0, dir⟩, ⟨4, n, a, dir⟩] else [] from rfl))
  generalize namesN k n ks dir = R at *
  generalize ks.n 0 = A at *
  generalize under k dir = D at *
  clear ih hK hsn HM hmN h7
  have KB := Lib.hid (fun (w1 : World) (hb : Below w0.heap.size w0 w1) => (show w1.cell? ⟨W.heap.size, 0, none⟩ = some (.int .i64 k) ∧ w1.cell? ⟨W.heap.size, 1, none⟩ = some (.int .i64 n) ∧ w1.cell? ⟨W.heap.size, 2, none⟩ = some (.slice p m c) from ⟨(hb.cell (p := ⟨W.heap.size, 0, none⟩) x0).trans c0, (hb.cell (p := ⟨W.heap.size, 1, none⟩) x0).trans c1, (hb.cell (p := ⟨W.heap.size, 2, none⟩) x0).trans c2⟩))
  by_cases h1 : k = 1 ∨ k = 3 ∨ k = 4
  · have E1 := Lib.hid (show R = [⟨1, n, 0, dir⟩] ++ ks.names D by rw [E.out, NN.out, if_pos h1])
    have hD : D = dir := UU.out (by omega)
    subst hD
    have e6 : (k == 6) = false := by simp; omega
    have e7 : (k == 7) = false := by simp; omega
    rcases h1 with rfl | rfl | rfl
    · have HX := Lib.hid (show w0.heap.size = W.heap.size + 1 from hsz)
      have HW0 := Lib.hid hw0
      have HO1w := Lib.hid (show OwnNm (W.alloc (.cells #[.int .i64 1, .int .i64 n, .slice p m c] 24)) w0.heap.size (.slice none 0 0) [] from hw0 ▸ HO0.out)
      clear hw0
      go_enter Try.func50, Try.ntmps50
      go_wp2_with (at_builtin; refine append_nm (x := ⟨1, n, 0, D⟩) rfl _ _ rfl rfl HO1w.out (by show Value.slice (some ⟨W.heap.size + 1, 0, none⟩) 1 1 = _; simp) (by simp; omega) (by simp) ?_; (
        intro v1 w1 hO1 hb1 _ _
        rw [← HW0.out] at hb1
        obtain ⟨k0, k1, k2⟩ := KB.out _ hb1
        have HO1 := Lib.hid hO1
        have HB1 := Lib.hid hb1
        obtain ⟨g1, cg1, e1, _⟩ := hO1.row
        subst e1
        clear hO1 hb1))
      go_loopw [5, 7] (fun x y wr => ∃ (i : Nat) (L2 : List Nam), i ≤ m ∧ y = .int .i64 i ∧ L2.length + 2 * (ks.drop i).cnt ≤ 2 + 2 * ks.cnt ∧ Hid (OwnNm wr w0.heap.size x L2) ∧ Hid (L2 ++ (ks.drop i).names D = R) ∧ Hid (Below w0.heap.size w0 wr)) (fun _ y _ => m - (intOf y).toNat)
      case atStart => exact ⟨0, [⟨1, n, 0, D⟩], Nat.zero_le _, rfl, (by rw [C0.out]; simp), by simpa using HO1, Lib.hid (by rw [N0.out]; exact E1.out.symm), HB1⟩
      case round =>
        clear HO0 HB1 HO1
        obtain ⟨i, L2, hi, rfl, hb2, HO, HL, HB⟩ := hrel
        have hs := HB.out.size
        have k2 := (HB.out.cell (p := ⟨W.heap.size, 2, none⟩) x0).trans c2
        by_cases hlt : i < m
        · obtain ⟨b, o, v, e0, hb, g0, g1, g2, hKi⟩ := (hK0.out.below (by omega) HB.out).get hlt
          first | subst e0 | cases e0
          obtain ⟨a', m', c', rfl, _, _, _⟩ := hKi.shape
          have dd : decide ((i : Int) < (m : Int)) = true := decide_eq_true (by omega)
          have HL2 := HL.out
          rw [NS.out i _ hlt] at HL2
          have hcd := CD.out i hlt
          have hnl := NLn.out i D
          rw [hcd] at hb2
          have hb3 : (L2 ++ namesN (ks.k i) (ks.n i) (ks.kids i) D).length + 2 * (ks.drop (i + 1)).cnt ≤ 2 + 2 * ks.cnt := by rw [List.length_append]; omega
          have hb4 : L2.length + (namesN (ks.k i) (ks.n i) (ks.kids i) D).length < 8388608 := by omega
          have CI := Lib.hid (IH.out _ (show (ks.kids i).cnt < N by have := PC.out i hlt; omega) (ks.kids i) _ (ks.k i) (ks.n i) D lim wr (Nat.le_refl _) (by have := PC.out i hlt; omega) hKi (by omega) (SA.out i hlt).1 (SA.out i hlt).2)
          have HL3 := Lib.hid (show (L2 ++ namesN (ks.k i) (ks.n i) (ks.kids i) D) ++ (ks.drop (i + 1)).names D = R by rw [List.append_assoc]; exact HL2)
          obtain ⟨u, cu, rfl, _⟩ := HO.out.row
          clear hKi HL2 HL hcd hnl hb2 c0 c1
          generalize namesN (ks.k i) (ks.n i) (ks.kids i) D = l3 at *
          generalize ks.k i = X1 at *
          generalize ks.n i = X2 at *
          go_wp2_with fail
          refine CI.out.mono ?_
          rintro e w4 ⟨v4, rfl, hO4, b4⟩
          obtain ⟨a4, c4, rfl, hr4, _, _⟩ := hO4.row
          have HR4 := Lib.hid hr4
          have HO4 := Lib.hid (HO.out.below b4)
          have HB4 := Lib.hid (HB.out.trans (b4.mono hs))
          have hs4 := HB4.out.size
          clear hO4 hr4 b4
          go_wp2_with (at_builtin; refine append_nms rfl _ _ rfl rfl HO4.out rfl HR4.out hs4 hb4 ?_; intro v' w5 hO' hb'; have HO5 := Lib.hid hO'; have HB5 := Lib.hid (HB4.out.trans hb'); clear hO' hb')
          go_roundw
          case rel => exact ⟨i + 1, _, by omega, by go_num, hb3, HO5, HL3, HB5⟩
          case measure => (first | (simp [intOf]; done) | (simp [intOf]; omega) | (simp only [intOf]; omega))
        · obtain rfl : i = m := by omega
          have dd : decide ((i : Int) < (i : Int)) = false := decide_eq_false (by omega)
          have HL2 := HL.out
          rw [NE.out, List.append_nil] at HL2
          have HO2 := HO.out
          rw [HL2] at HO2
          have HO3 := Lib.hid HO2
          clear HO2 HL2
          go_wp2_with fail
          go_ret
          exact ⟨_, rfl, World.ownsRow.mono HO3.out (by omega), hB.trans (HB.out.mono hB.size)⟩
    · have HX := Lib.hid (show w0.heap.size = W.heap.size + 1 from hsz)
      have HW0 := Lib.hid hw0
      have HO1w := Lib.hid (show OwnNm (W.alloc (.cells #[.int .i64 3, .int .i64 n, .slice p m c] 24)) w0.heap.size (.slice none 0 0) [] from hw0 ▸ HO0.out)
      clear hw0
      go_enter Try.func50, Try.ntmps50
      go_wp2_with (at_builtin; refine append_nm (x := ⟨1, n, 0, D⟩) rfl _ _ rfl rfl HO1w.out (by show Value.slice (some ⟨W.heap.size + 1, 0, none⟩) 1 1 = _; simp) (by simp; omega) (by simp) ?_; (
        intro v1 w1 hO1 hb1 _ _
        rw [← HW0.out] at hb1
        obtain ⟨k0, k1, k2⟩ := KB.out _ hb1
        have HO1 := Lib.hid hO1
        have HB1 := Lib.hid hb1
        obtain ⟨g1, cg1, e1, _⟩ := hO1.row
        subst e1
        clear hO1 hb1))
      go_loopw [5, 7] (fun x y wr => ∃ (i : Nat) (L2 : List Nam), i ≤ m ∧ y = .int .i64 i ∧ L2.length + 2 * (ks.drop i).cnt ≤ 2 + 2 * ks.cnt ∧ Hid (OwnNm wr w0.heap.size x L2) ∧ Hid (L2 ++ (ks.drop i).names D = R) ∧ Hid (Below w0.heap.size w0 wr)) (fun _ y _ => m - (intOf y).toNat)
      case atStart => exact ⟨0, [⟨1, n, 0, D⟩], Nat.zero_le _, rfl, (by rw [C0.out]; simp), by simpa using HO1, Lib.hid (by rw [N0.out]; exact E1.out.symm), HB1⟩
      case round =>
        clear HO0 HB1 HO1
        obtain ⟨i, L2, hi, rfl, hb2, HO, HL, HB⟩ := hrel
        have hs := HB.out.size
        have k2 := (HB.out.cell (p := ⟨W.heap.size, 2, none⟩) x0).trans c2
        by_cases hlt : i < m
        · obtain ⟨b, o, v, e0, hb, g0, g1, g2, hKi⟩ := (hK0.out.below (by omega) HB.out).get hlt
          first | subst e0 | cases e0
          obtain ⟨a', m', c', rfl, _, _, _⟩ := hKi.shape
          have dd : decide ((i : Int) < (m : Int)) = true := decide_eq_true (by omega)
          have HL2 := HL.out
          rw [NS.out i _ hlt] at HL2
          have hcd := CD.out i hlt
          have hnl := NLn.out i D
          rw [hcd] at hb2
          have hb3 : (L2 ++ namesN (ks.k i) (ks.n i) (ks.kids i) D).length + 2 * (ks.drop (i + 1)).cnt ≤ 2 + 2 * ks.cnt := by rw [List.length_append]; omega
          have hb4 : L2.length + (namesN (ks.k i) (ks.n i) (ks.kids i) D).length < 8388608 := by omega
          have CI := Lib.hid (IH.out _ (show (ks.kids i).cnt < N by have := PC.out i hlt; omega) (ks.kids i) _ (ks.k i) (ks.n i) D lim wr (Nat.le_refl _) (by have := PC.out i hlt; omega) hKi (by omega) (SA.out i hlt).1 (SA.out i hlt).2)
          have HL3 := Lib.hid (show (L2 ++ namesN (ks.k i) (ks.n i) (ks.kids i) D) ++ (ks.drop (i + 1)).names D = R by rw [List.append_assoc]; exact HL2)
          obtain ⟨u, cu, rfl, _⟩ := HO.out.row
          clear hKi HL2 HL hcd hnl hb2 c0 c1
          generalize namesN (ks.k i) (ks.n i) (ks.kids i) D = l3 at *
          generalize ks.k i = X1 at *
          generalize ks.n i = X2 at *
          go_wp2_with fail
          refine CI.out.mono ?_
          rintro e w4 ⟨v4, rfl, hO4, b4⟩
          obtain ⟨a4, c4, rfl, hr4, _, _⟩ := hO4.row
          have HR4 := Lib.hid hr4
          have HO4 := Lib.hid (HO.out.below b4)
          have HB4 := Lib.hid (HB.out.trans (b4.mono hs))
          have hs4 := HB4.out.size
          clear hO4 hr4 b4
          go_wp2_with (at_builtin; refine append_nms rfl _ _ rfl rfl HO4.out rfl HR4.out hs4 hb4 ?_; intro v' w5 hO' hb'; have HO5 := Lib.hid hO'; have HB5 := Lib.hid (HB4.out.trans hb'); clear hO' hb')
          go_roundw
          case rel => exact ⟨i + 1, _, by omega, by go_num, hb3, HO5, HL3, HB5⟩
          case measure => (first | (simp [intOf]; done) | (simp [intOf]; omega) | (simp only [intOf]; omega))
        · obtain rfl : i = m := by omega
          have dd : decide ((i : Int) < (i : Int)) = false := decide_eq_false (by omega)
          have HL2 := HL.out
          rw [NE.out, List.append_nil] at HL2
          have HO2 := HO.out
          rw [HL2] at HO2
          have HO3 := Lib.hid HO2
          clear HO2 HL2
          go_wp2_with fail
          go_ret
          exact ⟨_, rfl, World.ownsRow.mono HO3.out (by omega), hB.trans (HB.out.mono hB.size)⟩
    · have HX := Lib.hid (show w0.heap.size = W.heap.size + 1 from hsz)
      have HW0 := Lib.hid hw0
      have HO1w := Lib.hid (show OwnNm (W.alloc (.cells #[.int .i64 4, .int .i64 n, .slice p m c] 24)) w0.heap.size (.slice none 0 0) [] from hw0 ▸ HO0.out)
      clear hw0
      go_enter Try.func50, Try.ntmps50
      go_wp2_with (at_builtin; refine append_nm (x := ⟨1, n, 0, D⟩) rfl _ _ rfl rfl HO1w.out (by show Value.slice (some ⟨W.heap.size + 1, 0, none⟩) 1 1 = _; simp) (by simp; omega) (by simp) ?_; (
        intro v1 w1 hO1 hb1 _ _
        rw [← HW0.out] at hb1
        obtain ⟨k0, k1, k2⟩ := KB.out _ hb1
        have HO1 := Lib.hid hO1
        have HB1 := Lib.hid hb1
        obtain ⟨g1, cg1, e1, _⟩ := hO1.row
        subst e1
        clear hO1 hb1))
      go_loopw [5, 7] (fun x y wr => ∃ (i : Nat) (L2 : List Nam), i ≤ m ∧ y = .int .i64 i ∧ L2.length + 2 * (ks.drop i).cnt ≤ 2 + 2 * ks.cnt ∧ Hid (OwnNm wr w0.heap.size x L2) ∧ Hid (L2 ++ (ks.drop i).names D = R) ∧ Hid (Below w0.heap.size w0 wr)) (fun _ y _ => m - (intOf y).toNat)
      case atStart => exact ⟨0, [⟨1, n, 0, D⟩], Nat.zero_le _, rfl, (by rw [C0.out]; simp), by simpa using HO1, Lib.hid (by rw [N0.out]; exact E1.out.symm), HB1⟩
      case round =>
        clear HO0 HB1 HO1
        obtain ⟨i, L2, hi, rfl, hb2, HO, HL, HB⟩ := hrel
        have hs := HB.out.size
        have k2 := (HB.out.cell (p := ⟨W.heap.size, 2, none⟩) x0).trans c2
        by_cases hlt : i < m
        · obtain ⟨b, o, v, e0, hb, g0, g1, g2, hKi⟩ := (hK0.out.below (by omega) HB.out).get hlt
          first | subst e0 | cases e0
          obtain ⟨a', m', c', rfl, _, _, _⟩ := hKi.shape
          have dd : decide ((i : Int) < (m : Int)) = true := decide_eq_true (by omega)
          have HL2 := HL.out
          rw [NS.out i _ hlt] at HL2
          have hcd := CD.out i hlt
          have hnl := NLn.out i D
          rw [hcd] at hb2
          have hb3 : (L2 ++ namesN (ks.k i) (ks.n i) (ks.kids i) D).length + 2 * (ks.drop (i + 1)).cnt ≤ 2 + 2 * ks.cnt := by rw [List.length_append]; omega
          have hb4 : L2.length + (namesN (ks.k i) (ks.n i) (ks.kids i) D).length < 8388608 := by omega
          have CI := Lib.hid (IH.out _ (show (ks.kids i).cnt < N by have := PC.out i hlt; omega) (ks.kids i) _ (ks.k i) (ks.n i) D lim wr (Nat.le_refl _) (by have := PC.out i hlt; omega) hKi (by omega) (SA.out i hlt).1 (SA.out i hlt).2)
          have HL3 := Lib.hid (show (L2 ++ namesN (ks.k i) (ks.n i) (ks.kids i) D) ++ (ks.drop (i + 1)).names D = R by rw [List.append_assoc]; exact HL2)
          obtain ⟨u, cu, rfl, _⟩ := HO.out.row
          clear hKi HL2 HL hcd hnl hb2 c0 c1
          generalize namesN (ks.k i) (ks.n i) (ks.kids i) D = l3 at *
          generalize ks.k i = X1 at *
          generalize ks.n i = X2 at *
          go_wp2_with fail
          refine CI.out.mono ?_
          rintro e w4 ⟨v4, rfl, hO4, b4⟩
          obtain ⟨a4, c4, rfl, hr4, _, _⟩ := hO4.row
          have HR4 := Lib.hid hr4
          have HO4 := Lib.hid (HO.out.below b4)
          have HB4 := Lib.hid (HB.out.trans (b4.mono hs))
          have hs4 := HB4.out.size
          clear hO4 hr4 b4
          go_wp2_with (at_builtin; refine append_nms rfl _ _ rfl rfl HO4.out rfl HR4.out hs4 hb4 ?_; intro v' w5 hO' hb'; have HO5 := Lib.hid hO'; have HB5 := Lib.hid (HB4.out.trans hb'); clear hO' hb')
          go_roundw
          case rel => exact ⟨i + 1, _, by omega, by go_num, hb3, HO5, HL3, HB5⟩
          case measure => (first | (simp [intOf]; done) | (simp [intOf]; omega) | (simp only [intOf]; omega))
        · obtain rfl : i = m := by omega
          have dd : decide ((i : Int) < (i : Int)) = false := decide_eq_false (by omega)
          have HL2 := HL.out
          rw [NE.out, List.append_nil] at HL2
          have HO2 := HO.out
          rw [HL2] at HO2
          have HO3 := Lib.hid HO2
          clear HO2 HL2
          go_wp2_with fail
          go_ret
          exact ⟨_, rfl, World.ownsRow.mono HO3.out (by omega), hB.trans (HB.out.mono hB.size)⟩
  by_cases h2 : k = 6
  · have E1 := Lib.hid (show R = [⟨3, n, 0, dir⟩] ++ ks.names D by rw [E.out, NN.out, if_neg h1, if_pos h2])
    have hD : D = 0 := UL.out (.inl h2)
    subst hD
    subst h2
    have HX := Lib.hid (show w0.heap.size = W.heap.size + 1 from hsz)
    have HW0 := Lib.hid hw0
    have HO1w := Lib.hid (show OwnNm (W.alloc (.cells #[.int .i64 6, .int .i64 n, .slice p m c] 24)) w0.heap.size (.slice none 0 0) [] from hw0 ▸ HO0.out)
    clear hw0
    go_enter Try.func50, Try.ntmps50
    go_wp2_with (at_builtin; refine append_nm (x := ⟨3, n, 0, dir⟩) rfl _ _ rfl rfl HO1w.out (by show Value.slice (some ⟨W.heap.size + 1, 0, none⟩) 1 1 = _; simp) (by simp; omega) (by simp) ?_; (
      intro v1 w1 hO1 hb1 _ _
      rw [← HW0.out] at hb1
      obtain ⟨k0, k1, k2⟩ := KB.out _ hb1
      have HO1 := Lib.hid hO1
      have HB1 := Lib.hid hb1
      obtain ⟨g1, cg1, e1, _⟩ := hO1.row
      subst e1
      clear hO1 hb1))
    go_loopw [5, 7] (fun x y wr => ∃ (i : Nat) (L2 : List Nam), i ≤ m ∧ y = .int .i64 i ∧ L2.length + 2 * (ks.drop i).cnt ≤ 2 + 2 * ks.cnt ∧ Hid (OwnNm wr w0.heap.size x L2) ∧ Hid (L2 ++ (ks.drop i).names 0 = R) ∧ Hid (Below w0.heap.size w0 wr)) (fun _ y _ => m - (intOf y).toNat)
    case atStart => exact ⟨0, [⟨3, n, 0, dir⟩], Nat.zero_le _, rfl, (by rw [C0.out]; simp), by simpa using HO1, Lib.hid (by rw [N0.out]; exact E1.out.symm), HB1⟩
    case round =>
      clear HO0 HB1 HO1
      obtain ⟨i, L2, hi, rfl, hb2, HO, HL, HB⟩ := hrel
      have hs := HB.out.size
      have k2 := (HB.out.cell (p := ⟨W.heap.size, 2, none⟩) x0).trans c2
      by_cases hlt : i < m
      · obtain ⟨b, o, v, e0, hb, g0, g1, g2, hKi⟩ := (hK0.out.below (by omega) HB.out).get hlt
        first | subst e0 | cases e0
        obtain ⟨a', m', c', rfl, _, _, _⟩ := hKi.shape
        have dd : decide ((i : Int) < (m : Int)) = true := decide_eq_true (by omega)
        have HL2 := HL.out
        rw [NS.out i _ hlt] at HL2
        have hcd := CD.out i hlt
        have hnl := NLn.out i 0
        rw [hcd] at hb2
        have hb3 : (L2 ++ namesN (ks.k i) (ks.n i) (ks.kids i) 0).length + 2 * (ks.drop (i + 1)).cnt ≤ 2 + 2 * ks.cnt := by rw [List.length_append]; omega
        have hb4 : L2.length + (namesN (ks.k i) (ks.n i) (ks.kids i) 0).length < 8388608 := by omega
        have CI := Lib.hid (IH.out _ (show (ks.kids i).cnt < N by have := PC.out i hlt; omega) (ks.kids i) _ (ks.k i) (ks.n i) 0 lim wr (Nat.le_refl _) (by have := PC.out i hlt; omega) hKi (by omega) (SA.out i hlt).1 (SA.out i hlt).2)
        have HL3 := Lib.hid (show (L2 ++ namesN (ks.k i) (ks.n i) (ks.kids i) 0) ++ (ks.drop (i + 1)).names 0 = R by rw [List.append_assoc]; exact HL2)
        obtain ⟨u, cu, rfl, _⟩ := HO.out.row
        clear hKi HL2 HL hcd hnl hb2 c0 c1
        generalize namesN (ks.k i) (ks.n i) (ks.kids i) 0 = l3 at *
        generalize ks.k i = X1 at *
        generalize ks.n i = X2 at *
        go_wp2_with fail
        refine CI.out.mono ?_
        rintro e w4 ⟨v4, rfl, hO4, b4⟩
        obtain ⟨a4, c4, rfl, hr4, _, _⟩ := hO4.row
        have HR4 := Lib.hid hr4
        have HO4 := Lib.hid (HO.out.below b4)
        have HB4 := Lib.hid (HB.out.trans (b4.mono hs))
        have hs4 := HB4.out.size
        clear hO4 hr4 b4
        go_wp2_with (at_builtin; refine append_nms rfl _ _ rfl rfl HO4.out rfl HR4.out hs4 hb4 ?_; intro v' w5 hO' hb'; have HO5 := Lib.hid hO'; have HB5 := Lib.hid (HB4.out.trans hb'); clear hO' hb')
        go_roundw
        case rel => exact ⟨i + 1, _, by omega, by go_num, hb3, HO5, HL3, HB5⟩
        case measure => (first | (simp [intOf]; done) | (simp [intOf]; omega) | (simp only [intOf]; omega))
      · obtain rfl : i = m := by omega
        have dd : decide ((i : Int) < (i : Int)) = false := decide_eq_false (by omega)
        have HL2 := HL.out
        rw [NE.out, List.append_nil] at HL2
        have HO2 := HO.out
        rw [HL2] at HO2
        have HO3 := Lib.hid HO2
        clear HO2 HL2
        go_wp2_with fail
        go_ret
        exact ⟨_, rfl, World.ownsRow.mono HO3.out (by omega), hB.trans (HB.out.mono hB.size)⟩
  by_cases h3 : k = 7
  · have E1 := Lib.hid (show R = [⟨2, n, 0, dir⟩, ⟨4, n, A, dir⟩] ++ ks.names D by rw [E.out, NN.out, if_neg h1, if_neg h2, if_pos h3])
    have hD : D = 0 := UL.out (.inr h3)
    subst hD
    have hm := h7' h3
    subst h3
    obtain ⟨b, o, rfl, hb, hk0⟩ := HK7.out hm
    have k0 : w0.cell? ⟨b, o + 1, none⟩ = some (.int .i64 A) := by simpa using (hB.cell (p := ⟨b, _, none⟩) (by show b < W.heap.size; omega)).trans hk0
    have dm : decide (0 < m) = true := decide_eq_true hm
    go_enter Try.func50, Try.ntmps50
    go_wp2_with fail
    rw [← hw0]
    clear hw0
    have KA := Lib.hid (fun (w1 w' : World) (hS : w1.cell? ⟨W.heap.size, 0, none⟩ = some (.int .i64 7) ∧ w1.cell? ⟨W.heap.size, 1, none⟩ = some (.int .i64 n) ∧ w1.cell? ⟨W.heap.size, 2, none⟩ = some (.slice (some ⟨b, o, none⟩) m c) ∧ w1.cell? ⟨b, o + 1, none⟩ = some (.int .i64 A) ∧ Below w0.heap.size w0 w1) (hb : Below w0.heap.size w1 w') => (show w'.cell? ⟨W.heap.size, 0, none⟩ = some (.int .i64 7) ∧ w'.cell? ⟨W.heap.size, 1, none⟩ = some (.int .i64 n) ∧ w'.cell? ⟨W.heap.size, 2, none⟩ = some (.slice (some ⟨b, o, none⟩) m c) ∧ w'.cell? ⟨b, o + 1, none⟩ = some (.int .i64 A) ∧ Below w0.heap.size w0 w' from ⟨(hb.cell (p := ⟨W.heap.size, 0, none⟩) x0).trans hS.1, (hb.cell (p := ⟨W.heap.size, 1, none⟩) x0).trans hS.2.1, (hb.cell (p := ⟨W.heap.size, 2, none⟩) x0).trans hS.2.2.1, (hb.cell (p := ⟨b, o + 1, none⟩) (by show b < _; omega)).trans hS.2.2.2.1, hS.2.2.2.2.trans hb⟩))
    have hAl := (Below.refl w0.heap.size w0).alloc (Nat.le_refl _) (.cells #[.int .i64 2, .int .i64 n, .int .i64 0, .int .i64 dir, .int .i64 4, .int .i64 n, .int .i64 A, .int .i64 dir] 54)
    have hnw := heap_alloc_new w0 (.cells #[.int .i64 2, .int .i64 n, .int .i64 0, .int .i64 dir, .int .i64 4, .int .i64 n, .int .i64 A, .int .i64 dir] 54)
    have HNR := Lib.hid (NRow.of2 hnw)
    have HOA := Lib.hid (show OwnNm (w0.alloc (.cells #[.int .i64 2, .int .i64 n, .int .i64 0, .int .i64 dir, .int .i64 4, .int .i64 n, .int .i64 A, .int .i64 dir] 54)) w0.heap.size (.slice none 0 0) [] from World.ownsRow_nil _ _ _ _)
    have hAd := hAl.drew
    have R1 := (Below.refl w0.heap.size w0).drew
    have hsA := hAl.size
    go_region_held3 (fun w' => w'.cell? ⟨W.heap.size, 0, none⟩ = some (.int .i64 7) ∧ w'.cell? ⟨W.heap.size, 1, none⟩ = some (.int .i64 n) ∧ w'.cell? ⟨W.heap.size, 2, none⟩ = some (.slice (some ⟨b, o, none⟩) m c) ∧ w'.cell? ⟨b, o + 1, none⟩ = some (.int .i64 A) ∧ Below w0.heap.size w0 w') (first | exact ⟨c0, c1, c2, k0, R1⟩ | assumption | exact KA.out _ _ ⟨c0, c1, c2, k0, Below.refl _ _⟩ hAl | exact KA.out _ _ ⟨c0, c1, c2, k0, Below.refl _ _⟩ hAd | exact KA.out _ _ (by assumption) hb2) (first | (refine step_plain ?_ ?_; rfl; refine wp_append_nms (l := []) (l2 := [⟨2, n, 0, dir⟩, ⟨4, n, A, dir⟩]) _ _ rfl rfl HOA.out (by show Value.slice (some ⟨W.heap.size + 1, 0, none⟩) 2 2 = _; rw [hsz]; rfl) HNR.out (by simp) hsA (by simp) ?_; intro v1 w1 hO1 hb2))
    rename_i hSS
    have HB1 := Lib.hid hSS.2.2.2.2
    have HO1 := Lib.hid (by assumption : OwnNm _ _ _ ([] ++ _))
    obtain ⟨g1, cg1, e1, _⟩ := HO1.out.row
    replace e1 : _ = Value.slice g1 2 cg1 := e1
    subst e1
    obtain ⟨k0', k1', k2', _⟩ := hSS
    clear KA hAl hnw HNR HOA hAd R1 hsA
    go_wp2_with fail
    go_loopw [5, 7] (fun x y wr => ∃ (i : Nat) (L2 : List Nam), i ≤ m ∧ y = .int .i64 i ∧ L2.length + 2 * (ks.drop i).cnt ≤ 2 + 2 * ks.cnt ∧ Hid (OwnNm wr w0.heap.size x L2) ∧ Hid (L2 ++ (ks.drop i).names 0 = R) ∧ Hid (Below w0.heap.size w0 wr)) (fun _ y _ => m - (intOf y).toNat)
    case atStart => exact ⟨0, [⟨2, n, 0, dir⟩, ⟨4, n, A, dir⟩], Nat.zero_le _, rfl, (by rw [C0.out]; simp), by simpa using HO1, Lib.hid (by rw [N0.out]; exact E1.out.symm), HB1⟩
    case round =>
      clear HO0 HB1 HO1
      obtain ⟨i, L2, hi, rfl, hb2, HO, HL, HB⟩ := hrel
      have hs := HB.out.size
      have k2 := (HB.out.cell (p := ⟨W.heap.size, 2, none⟩) x0).trans c2
      by_cases hlt : i < m
      · obtain ⟨b, o, v, e0, hb, g0, g1, g2, hKi⟩ := (hK0.out.below (by omega) HB.out).get hlt
        first | subst e0 | cases e0
        obtain ⟨a', m', c', rfl, _, _, _⟩ := hKi.shape
        have dd : decide ((i : Int) < (m : Int)) = true := decide_eq_true (by omega)
        have HL2 := HL.out
        rw [NS.out i _ hlt] at HL2
        have hcd := CD.out i hlt
        have hnl := NLn.out i 0
        rw [hcd] at hb2
        have hb3 : (L2 ++ namesN (ks.k i) (ks.n i) (ks.kids i) 0).length + 2 * (ks.drop (i + 1)).cnt ≤ 2 + 2 * ks.cnt := by rw [List.length_append]; omega
        have hb4 : L2.length + (namesN (ks.k i) (ks.n i) (ks.kids i) 0).length < 8388608 := by omega
        have CI := Lib.hid (IH.out _ (show (ks.kids i).cnt < N by have := PC.out i hlt; omega) (ks.kids i) _ (ks.k i) (ks.n i) 0 lim wr (Nat.le_refl _) (by have := PC.out i hlt; omega) hKi (by omega) (SA.out i hlt).1 (SA.out i hlt).2)
        have HL3 := Lib.hid (show (L2 ++ namesN (ks.k i) (ks.n i) (ks.kids i) 0) ++ (ks.drop (i + 1)).names 0 = R by rw [List.append_assoc]; exact HL2)
        obtain ⟨u, cu, rfl, _⟩ := HO.out.row
        clear hKi HL2 HL hcd hnl hb2 c0 c1
        generalize namesN (ks.k i) (ks.n i) (ks.kids i) 0 = l3 at *
        generalize ks.k i = X1 at *
        generalize ks.n i = X2 at *
        go_wp2_with fail
        refine CI.out.mono ?_
        rintro e w4 ⟨v4, rfl, hO4, b4⟩
        obtain ⟨a4, c4, rfl, hr4, _, _⟩ := hO4.row
        have HR4 := Lib.hid hr4
        have HO4 := Lib.hid (HO.out.below b4)
        have HB4 := Lib.hid (HB.out.trans (b4.mono hs))
        have hs4 := HB4.out.size
        clear hO4 hr4 b4
        go_wp2_with (at_builtin; refine append_nms rfl _ _ rfl rfl HO4.out rfl HR4.out hs4 hb4 ?_; intro v' w5 hO' hb'; have HO5 := Lib.hid hO'; have HB5 := Lib.hid (HB4.out.trans hb'); clear hO' hb')
        go_roundw
        case rel => exact ⟨i + 1, _, by omega, by go_num, hb3, HO5, HL3, HB5⟩
        case measure => (first | (simp [intOf]; done) | (simp [intOf]; omega) | (simp only [intOf]; omega))
      · obtain rfl : i = m := by omega
        have dd : decide ((i : Int) < (i : Int)) = false := decide_eq_false (by omega)
        have HL2 := HL.out
        rw [NE.out, List.append_nil] at HL2
        have HO2 := HO.out
        rw [HL2] at HO2
        have HO3 := Lib.hid HO2
        clear HO2 HL2
        go_wp2_with fail
        go_ret
        exact ⟨_, rfl, World.ownsRow.mono HO3.out (by omega), hB.trans (HB.out.mono hB.size)⟩
  · have E1 := Lib.hid (show R = [] ++ ks.names D by rw [E.out, NN.out, if_neg h1, if_neg h2, if_neg h3])
    have hD : D = dir := UU.out (by omega)
    subst hD
    have e1 : (k == 1) = false := by simp; omega
    have e3 : (k == 3) = false := by simp; omega
    have e4 : (k == 4) = false := by simp; omega
    have e6 : (k == 6) = false := by simp; omega
    have e7 : (k == 7) = false := by simp; omega
    go_enter Try.func50, Try.ntmps50
    go_wp2_with fail
    rw [← hw0]
    clear hw0
    go_loopw [5, 7] (fun x y wr => ∃ (i : Nat) (L2 : List Nam), i ≤ m ∧ y = .int .i64 i ∧ L2.length + 2 * (ks.drop i).cnt ≤ 2 + 2 * ks.cnt ∧ Hid (OwnNm wr w0.heap.size x L2) ∧ Hid (L2 ++ (ks.drop i).names D = R) ∧ Hid (Below w0.heap.size w0 wr)) (fun _ y _ => m - (intOf y).toNat)
    case atStart => exact ⟨0, [], Nat.zero_le _, rfl, (by rw [C0.out]; simp), HO0, Lib.hid (by rw [N0.out]; exact E1.out.symm), R0⟩
    case round =>
      clear HO0 R0
      obtain ⟨i, L2, hi, rfl, hb2, HO, HL, HB⟩ := hrel
      have hs := HB.out.size
      have k2 := (HB.out.cell (p := ⟨W.heap.size, 2, none⟩) x0).trans c2
      by_cases hlt : i < m
      · obtain ⟨b, o, v, e0, hb, g0, g1, g2, hKi⟩ := (hK0.out.below (by omega) HB.out).get hlt
        first | subst e0 | cases e0
        obtain ⟨a', m', c', rfl, _, _, _⟩ := hKi.shape
        have dd : decide ((i : Int) < (m : Int)) = true := decide_eq_true (by omega)
        have HL2 := HL.out
        rw [NS.out i _ hlt] at HL2
        have hcd := CD.out i hlt
        have hnl := NLn.out i D
        rw [hcd] at hb2
        have hb3 : (L2 ++ namesN (ks.k i) (ks.n i) (ks.kids i) D).length + 2 * (ks.drop (i + 1)).cnt ≤ 2 + 2 * ks.cnt := by rw [List.length_append]; omega
        have hb4 : L2.length + (namesN (ks.k i) (ks.n i) (ks.kids i) D).length < 8388608 := by omega
        have CI := Lib.hid (IH.out _ (show (ks.kids i).cnt < N by have := PC.out i hlt; omega) (ks.kids i) _ (ks.k i) (ks.n i) D lim wr (Nat.le_refl _) (by have := PC.out i hlt; omega) hKi (by omega) (SA.out i hlt).1 (SA.out i hlt).2)
        have HL3 := Lib.hid (show (L2 ++ namesN (ks.k i) (ks.n i) (ks.kids i) D) ++ (ks.drop (i + 1)).names D = R by rw [List.append_assoc]; exact HL2)
        obtain ⟨u, cu, rfl, _⟩ := HO.out.row
        clear hKi HL2 HL hcd hnl hb2 c0 c1
        generalize namesN (ks.k i) (ks.n i) (ks.kids i) D = l3 at *
        generalize ks.k i = X1 at *
        generalize ks.n i = X2 at *
        go_wp2_with fail
        refine CI.out.mono ?_
        rintro e w4 ⟨v4, rfl, hO4, b4⟩
        obtain ⟨a4, c4, rfl, hr4, _, _⟩ := hO4.row
        have HR4 := Lib.hid hr4
        have HO4 := Lib.hid (HO.out.below b4)
        have HB4 := Lib.hid (HB.out.trans (b4.mono hs))
        have hs4 := HB4.out.size
        clear hO4 hr4 b4
        go_wp2_with (at_builtin; refine append_nms rfl _ _ rfl rfl HO4.out rfl HR4.out hs4 hb4 ?_; intro v' w5 hO' hb'; have HO5 := Lib.hid hO'; have HB5 := Lib.hid (HB4.out.trans hb'); clear hO' hb')
        go_roundw
        case rel => exact ⟨i + 1, _, by omega, by go_num, hb3, HO5, HL3, HB5⟩
        case measure => (first | (simp [intOf]; done) | (simp [intOf]; omega) | (simp only [intOf]; omega))
      · obtain rfl : i = m := by omega
        have dd : decide ((i : Int) < (i : Int)) = false := decide_eq_false (by omega)
        have HL2 := HL.out
        rw [NE.out, List.append_nil] at HL2
        have HO2 := HO.out
        rw [HL2] at HO2
        have HO3 := Lib.hid HO2
        clear HO2 HL2
        go_wp2_with fail
        go_ret
        exact ⟨_, rfl, World.ownsRow.mono HO3.out (by omega), hB.trans (HB.out.mono hB.size)⟩
end Go.Proofs.Yticljddfdeocbaa
