/- package desc's Depth, for every tree. -/
import Derived.Test.YtfjioflggkmhcaaD11
namespace Go.Proofs.Ytfjioflggkmhcaa
open Go.ChangeShapes Go.WideShapes Go.ChangeAt Go.RowKit
set_option linter.unusedVariables false
set_option maxRecDepth 100000 in
set_option maxHeartbeats 2000000 in
theorem desc_depth (N : Nat) : ∀ (ks : Fo) (v : Value) (k n : Int) (lim : Nat) (W : World), ks.cnt ≤ N → N ≤ 1048576 → Kids W lim v ks → lim ≤ W.heap.size →
    Calls Try.prog 18 #[.agg #[.int .i64 k, .int .i64 n, v]] W fun e w' => e = .returned (.int .i64 ((ks.depth + 1 : Nat) : Int)) ∧ Below W.heap.size W w' := by
  induction N using Nat.strongRecOn with
  | _ N ih =>
  intro ks v k n lim W hN hN2 hK hl
  obtain ⟨p, m, c, rfl, hc1, hc2, HM⟩ := hK.shape
  obtain ⟨w0, hw0, c0, c1, c2, hB, hsz⟩ := box3 W k n (.slice p m c) 24
  have hK0 := hK.below hl hB
  have x0 : W.heap.size < w0.heap.size := by omega
  have IH := Lib.hid ih
  have DS := Lib.hid (fun i (hi : i < m) => Fo.depth_drop ks i (by rw [← HM.out]; exact hi))
  have D0 := Lib.hid (show max 0 (ks.drop 0).depth = ks.depth by rw [Fo.drop_zero]; omega)
  have DE := Lib.hid (show (ks.drop m).depth = 0 by rw [HM.out, Fo.drop_len]; rfl)
  have DC := Nat.le_trans (Fo.depth_cnt ks) hN
  have PC := Lib.hid (fun i (hi : i < m) => (show (ks.kids i).cnt < N from Nat.lt_of_lt_of_le (Fo.cnt_kids ks i (by rw [← HM.out]; exact hi)) hN))
  have hB0 := Below.refl w0.heap.size w0
  clear ih HM
  generalize hD : ks.depth = D at *
  clear hD
  go_enter Try.func18, Try.ntmps18
  go_wp2_with fail
  rw [← hw0]
  clear hw0
  go_loopw [3, 9] (fun x y wr => ∃ i q : Nat, i ≤ m ∧ x = .int .i64 q ∧ y = .int .i64 i ∧ Hid (max q (ks.drop i).depth = D) ∧ Hid (Below w0.heap.size w0 wr)) (fun _ y _ => m - (intOf y).toNat)
  case atStart => exact ⟨0, 0, Nat.zero_le _, rfl, rfl, D0, Lib.hid hB0⟩
  case round =>
    clear hB0 D0
    obtain ⟨i, q, hi, rfl, rfl, HD, HB⟩ := hrel
    have hs := HB.out.size
    have k2 := (HB.out.cell (p := ⟨W.heap.size, 2, none⟩) x0).trans c2
    by_cases hlt : i < m
    · obtain ⟨b, o, v, rfl, hb, g0, g1, g2, hKi⟩ := (hK0.below (by omega) HB.out).get hlt
      obtain ⟨a', m', c', rfl, _, _, _⟩ := hKi.shape
      have dd : decide ((i : Int) < (m : Int)) = true := decide_eq_true (by omega)
      obtain ⟨wb, hwb, j0, j1, j2, hBb, hsb⟩ := box3 wr (ks.k i) (ks.n i) (.slice a' m' c') 24
      have HB2 := Lib.hid (HB.out.trans (hBb.mono hs))
      have hs2 := HB2.out.size
      have CI := Lib.hid (IH.out _ (PC.out i hlt) (ks.kids i) _ (ks.k i) (ks.n i) lim wb (Nat.le_refl _) (by have := PC.out i hlt; omega) (hKi.below (by omega) hBb) (by omega))
      have DS1 := DS.out i hlt
      have HD1 := HD.out
      rw [DS1] at HD1
      obtain ⟨t, ht⟩ : ∃ t, (ks.kids i).depth + 1 = t := ⟨_, rfl⟩
      rw [ht] at CI HD1
      have tD : t ≤ D := by omega
      have H1 := Lib.hid (show q < t → max t (ks.drop (i + 1)).depth = D by intro _; omega)
      have H2 := Lib.hid (show ¬ q < t → max q (ks.drop (i + 1)).depth = D by intro _; omega)
      clear hKi c0 c1 c2 DS1 HD1 HD ht
      have hwb' := hwb.symm
      clear hwb
      by_cases hqt : q < t
      · have dq : decide ((q : Int) < (t : Int)) = true := decide_eq_true (by omega)
        have dm : max (q : Int) (t : Int) = (t : Int) := by omega
        go_wp2_with fail
        refine CI.out.mono ?_
        rintro e w4 ⟨rfl, b4⟩
        go_wp2_with fail
        go_roundw
        case rel => exact ⟨i + 1, t, by omega, by go_num, by go_num, Lib.hid (H1.out hqt), Lib.hid (HB2.out.trans (b4.mono hs2))⟩
        case measure => (first | (simp [intOf]; done) | (simp [intOf]; omega) | (simp only [intOf]; omega))
      · have dq : decide ((q : Int) < (t : Int)) = false := decide_eq_false (by omega)
        have dm : max (q : Int) (t : Int) = (q : Int) := by omega
        go_wp2_with fail
        refine CI.out.mono ?_
        rintro e w4 ⟨rfl, b4⟩
        go_wp2_with fail
        go_roundw
        case rel => exact ⟨i + 1, q, by omega, by go_num, by go_num, Lib.hid (H2.out hqt), Lib.hid (HB2.out.trans (b4.mono hs2))⟩
        case measure => (first | (simp [intOf]; done) | (simp [intOf]; omega) | (simp only [intOf]; omega))
    · obtain rfl : i = m := by omega
      have dd : decide ((i : Int) < (i : Int)) = false := decide_eq_false (by omega)
      have E := HD.out
      rw [DE.out] at E
      obtain rfl : q = D := by omega
      go_wp2_with fail
      go_ret
      exact ⟨by go_num, hB.trans (HB.out.mono hB.size)⟩
end Go.Proofs.Ytfjioflggkmhcaa
