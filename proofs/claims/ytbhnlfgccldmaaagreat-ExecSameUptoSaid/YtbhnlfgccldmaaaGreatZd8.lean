/- Put together by program (merge.py): Noder. -/
import Derived.Test.YtbhnlfgccldmaaaGreatZd4
import Derived.Test.YtbhnlfgccldmaaaGreatZd7
/- Reference 14's Node and power. -/
namespace Go.Proofs.YtbhnlfgccldmaaaGreat
open Go.ChangeShapes Go.WideShapes Go.ChangeAt Go.RowKit
set_option linter.unusedVariables false
/-- The nodes' sizes. -/
def Fo.sizes : Fo → List Int
  | .nil => []
  | .cons _ n _ r => n :: r.sizes
theorem Fo.sizes_len : ∀ f : Fo, f.sizes.length = f.len
  | .nil => rfl
  | .cons _ _ _ r => by simp [Fo.sizes, Fo.len, Fo.sizes_len r]
theorem Fo.sizes_at : ∀ (f : Fo) (i : Nat), f.sizes.getD i 0 = f.n i
  | .nil, i => by simp [Fo.sizes, Fo.n]
  | .cons _ _ _ r, 0 => by simp [Fo.sizes, Fo.n]
  | .cons _ _ _ r, i + 1 => by have := Fo.sizes_at r i; simpa [Fo.sizes, Fo.n] using this
theorem hasp_pw {n : Int} (h : n ≤ 16777216) : hasp n = pwb n := by unfold hasp; rw [decide_eq_true h]; rfl
theorem hasp_big {n : Int} (h : ¬ n ≤ 16777216) : hasp n = false := by unfold hasp; rw [decide_eq_false h]; rfl
theorem hasp_low {n : Int} (h : ¬ 1 ≤ n) : hasp n = false := by unfold hasp; rw [pwb_no (fun x => h x.1), Bool.and_false]
theorem r14_power (n : Int) (w : World) (hn : n ≤ 9223372036854775807) : Calls Tryz.prog 136 #[.int .i64 n] w fun e w' => e = .returned (.bool (hasp n)) ∧ w = w' := by
  by_cases h1 : 1 ≤ n
  case neg =>
    rw [hasp_low h1]
    have d1 : decide (1 ≤ n) = false := decide_eq_false h1
    go_enter Tryz.func136, Tryz.ntmps136
    go_wp2
    go_ret
    exact ⟨rfl, rfl⟩
  have d1 : decide (1 ≤ n) = true := decide_eq_true h1
  by_cases h2 : n ≤ 16777216
  case neg =>
    rw [hasp_big h2]
    have d2 : decide (n ≤ 16777216) = false := decide_eq_false h2
    go_enter Tryz.func136, Tryz.ntmps136
    go_wp2
    go_ret
    exact ⟨rfl, rfl⟩
  have d2 : decide (n ≤ 16777216) = true := decide_eq_true h2
  have PW := Lib.hid (fun w => r8_power n w hn)
  rw [hasp_pw h2]
  go_enter Tryz.func136, Tryz.ntmps136
  go_wp2_with fail
  refine (PW.out _).mono ?_
  rintro e w1 ⟨rfl, rfl⟩
  go_wp2_with fail
  go_ret
  exact ⟨rfl, rfl⟩
set_option maxRecDepth 100000 in
set_option maxHeartbeats 8000000 in
theorem r14_node_1 (k n : Int) (m c : Nat) (p : Option Addr) (ks : Fo) (lim : Nat) (W : World) (wn : -9223372036854775808 ≤ n ∧ n ≤ 9223372036854775807) (hK : Kids W lim (.slice p m c) ks) (hl : lim ≤ W.heap.size) (wk : ks.wf) (hm2 : m ≤ 1048576) (hk : k = 1) :
    Calls Tryz.prog 100 #[.agg #[.int .i64 k, .int .i64 n, .slice p m c]] W fun e w' => e = .returned (.bool (nodeB k n m (ks.n 0) (ks.n 1))) ∧ Below W.heap.size W w' := by
  subst hk
  have H := Lib.hid (fun w => r4_has n w wn.1 wn.2)
  have PR := Lib.hid (fun w => r3_prime n w wn.2)
  have PW := Lib.hid (fun n w h => r14_power n w h)
  have GC := Lib.hid (fun A B w h1 h2 => r3_gcdq A B w h1 h2)
  obtain ⟨_, _, _, he, hc1, hc2, HM⟩ := hK.shape
  cases he
  have wA := fun (h : 0 < m) => (Fo.wf_at ks 0 wk (by have := HM.out; omega)).2.1
  have wB := fun (h : 1 < m) => (Fo.wf_at ks 1 wk (by have := HM.out; omega)).2.1
  have HS0 := Lib.hid (Fo.sizes_at ks 0)
  have HS1 := Lib.hid (Fo.sizes_at ks 1)
  have HSL := Lib.hid (show ks.sizes.length = m by rw [Fo.sizes_len, HM.out])
  have KS := Lib.hid (fun i (hi : i < m) => (show ∃ b o, p = some ⟨b, o, none⟩ ∧ b < lim ∧ W.cell? ⟨b, o + i * 3 + 1, none⟩ = some (.int .i64 (ks.sizes.getD i 0)) by rw [Fo.sizes_at]; exact hK.size hi))
  generalize ks.n 0 = A at *
  generalize ks.n 1 = B at *
  have Z := Lib.hid (show nodeB 1 n m A B = (decide (m = 0) && decide (n ≤ 64) && hasb n) from rfl)
  generalize nodeB 1 n m A B = z at *
  generalize ks.sizes = ys at *
  obtain ⟨w0, hw0, c0, c1, c2, hB, hsz⟩ := box3 W 1 n (.slice p m c) 24
  clear hK wk HM
  have hB0 : Below w0.heap.size w0 w0 := Below.refl _ _
  have HO0 := Owns.nil w0 w0.heap.size 3 .i64
  go_enter Tryz.func100, Tryz.ntmps100
  go_wp2_with fail
  rw [← hw0]
  clear hw0
  go_loopw [3, 4] (fun x y wr => ∃ i : Nat, i ≤ m ∧ y = .int .i64 i ∧ Hid (Owns wr w0.heap.size 3 .i64 x (upto ys i)) ∧ Hid (Below w0.heap.size w0 wr)) (fun _ y _ => m - (intOf y).toNat)
  case atStart => exact ⟨0, Nat.zero_le _, rfl, Lib.hid HO0, Lib.hid hB0⟩
  case round =>
    clear hB0 HO0
    obtain ⟨i, hi, rfl, HO, HB⟩ := hrel
    have hs := HB.out.size
    have x0 : W.heap.size < w0.heap.size := by omega
    have k0 := (HB.out.cell (p := ⟨W.heap.size, 0, none⟩) x0).trans c0
    have k1 := (HB.out.cell (p := ⟨W.heap.size, 1, none⟩) x0).trans c1
    have k2 := (HB.out.cell (p := ⟨W.heap.size, 2, none⟩) x0).trans c2
    by_cases hlt : i < m
    · obtain ⟨b, o, rfl, hb, hc⟩ := KS.out i hlt
      have k3 := (HB.out.cell (p := ⟨b, o + i * 3 + 1, none⟩) (by show b < w0.heap.size; omega)).trans ((hB.cell (p := ⟨b, o + i * 3 + 1, none⟩) (by show b < W.heap.size; omega)).trans hc)
      have dd : decide ((i : Int) < (m : Int)) = true := decide_eq_true (by omega)
      have HL := Lib.hid (upto_len ys i (by rw [HSL.out]; omega))
      have HN := Lib.hid (upto_snoc ys i (ys.getD i 0) (by rw [HSL.out]; omega) rfl)
      clear hc c0 c1 c2
      generalize ys.getD i 0 = y at *
      go_wp2_with (at_builtin; refine append_one Tryz.underlying37 info_i64 rfl _ _ rfl rfl HO.out rfl hs (by rw [HL.out]; omega) ?_; intro v' w' hO hb')
      go_roundw
      case rel => exact ⟨i + 1, by omega, by go_num, Lib.hid (by rw [← HN.out]; exact hO), Lib.hid (HB.out.trans (hb'.mono (by omega)))⟩
      case measure => (first | (simp [intOf]; done) | (simp [intOf]; omega) | (simp only [intOf]; omega))
    · obtain rfl : i = m := by omega
      have dd : decide ((i : Int) < (i : Int)) = false := decide_eq_false (by omega)
      have hBB := hB.trans (HB.out.mono hB.size)
      have HO2 := HO.out
      rw [upto_full ys i HSL.out] at HO2
      obtain ⟨q, cq, rfl, hrd, hq1, hq2⟩ := HO2.shape
      rw [HSL.out] at hq1 ⊢
      have RC := Lib.hid (fun j (hj : j < i) => (show ∃ b o, q = some ⟨b, o, none⟩ ∧ wr.cell? ⟨b, o + j, none⟩ = some (.int .i64 (ys.getD j 0)) by
        rcases hrd with h | ⟨b, o, e, _, h⟩
        · have := HSL.out; rw [h] at this; simp at this; omega
        · exact ⟨b, o, e, h j (by rw [HSL.out]; exact hj)⟩))
      clear HO HO2 hrd KS c0 c1 c2 HB hB
      by_cases h0 : i = 0
      case neg =>
        rw [decide_eq_false h0] at Z
        simp only [Bool.false_and, Bool.and_false, Bool.true_and, Bool.and_true] at Z
        have d0 : ((i : Int) == 0) = false := by simp; omega
        go_wp2_with fail
        go_ret
        exact ⟨ret_bool Z.out.symm, by repeat (first | exact hBB | refine below_drewN ?_ _)⟩
      rw [decide_eq_true h0] at Z
      subst h0
      cases hh : hasb n with
      | false =>
        rw [hh] at Z H
        simp only [Bool.false_and, Bool.and_false, Bool.true_and, Bool.and_true] at Z
        go_wp2_with fail
        refine (H.out _).mono ?_
        rintro e w1 ⟨rfl, rfl⟩
        go_wp2_with fail
        go_ret
        exact ⟨ret_bool Z.out.symm, by repeat (first | exact hBB | refine below_drewN ?_ _)⟩
      | true =>
        rw [hh] at Z H
        have d1 : (decide (n ≤ 64)) = decide (n ≤ 64) := rfl
        clear d1
        go_wp2_with fail
        refine (H.out _).mono ?_
        rintro e w1 ⟨rfl, rfl⟩
        go_wp2_with fail
        go_ret
        exact ⟨ret_bool (by rw [Z.out]; simp), by repeat (first | exact hBB | refine below_drewN ?_ _)⟩
set_option maxRecDepth 100000 in
set_option maxHeartbeats 8000000 in
theorem r14_node_2 (k n : Int) (m c : Nat) (p : Option Addr) (ks : Fo) (lim : Nat) (W : World) (wn : -9223372036854775808 ≤ n ∧ n ≤ 9223372036854775807) (hK : Kids W lim (.slice p m c) ks) (hl : lim ≤ W.heap.size) (wk : ks.wf) (hm2 : m ≤ 1048576) (hk : k = 2) :
    Calls Tryz.prog 100 #[.agg #[.int .i64 k, .int .i64 n, .slice p m c]] W fun e w' => e = .returned (.bool (nodeB k n m (ks.n 0) (ks.n 1))) ∧ Below W.heap.size W w' := by
  subst hk
  have H := Lib.hid (fun w => r4_has n w wn.1 wn.2)
  have PR := Lib.hid (fun w => r3_prime n w wn.2)
  have PW := Lib.hid (fun n w h => r14_power n w h)
  have GC := Lib.hid (fun A B w h1 h2 => r3_gcdq A B w h1 h2)
  obtain ⟨_, _, _, he, hc1, hc2, HM⟩ := hK.shape
  cases he
  have wA := fun (h : 0 < m) => (Fo.wf_at ks 0 wk (by have := HM.out; omega)).2.1
  have wB := fun (h : 1 < m) => (Fo.wf_at ks 1 wk (by have := HM.out; omega)).2.1
  have HS0 := Lib.hid (Fo.sizes_at ks 0)
  have HS1 := Lib.hid (Fo.sizes_at ks 1)
  have HSL := Lib.hid (show ks.sizes.length = m by rw [Fo.sizes_len, HM.out])
  have KS := Lib.hid (fun i (hi : i < m) => (show ∃ b o, p = some ⟨b, o, none⟩ ∧ b < lim ∧ W.cell? ⟨b, o + i * 3 + 1, none⟩ = some (.int .i64 (ks.sizes.getD i 0)) by rw [Fo.sizes_at]; exact hK.size hi))
  generalize ks.n 0 = A at *
  generalize ks.n 1 = B at *
  have Z := Lib.hid (show nodeB 2 n m A B = (decide (m = 0) && decide (2 ≤ n) && few n) from rfl)
  generalize nodeB 2 n m A B = z at *
  generalize ks.sizes = ys at *
  obtain ⟨w0, hw0, c0, c1, c2, hB, hsz⟩ := box3 W 2 n (.slice p m c) 24
  clear hK wk HM
  have hB0 : Below w0.heap.size w0 w0 := Below.refl _ _
  have HO0 := Owns.nil w0 w0.heap.size 3 .i64
  go_enter Tryz.func100, Tryz.ntmps100
  go_wp2_with fail
  rw [← hw0]
  clear hw0
  go_loopw [3, 4] (fun x y wr => ∃ i : Nat, i ≤ m ∧ y = .int .i64 i ∧ Hid (Owns wr w0.heap.size 3 .i64 x (upto ys i)) ∧ Hid (Below w0.heap.size w0 wr)) (fun _ y _ => m - (intOf y).toNat)
  case atStart => exact ⟨0, Nat.zero_le _, rfl, Lib.hid HO0, Lib.hid hB0⟩
  case round =>
    clear hB0 HO0
    obtain ⟨i, hi, rfl, HO, HB⟩ := hrel
    have hs := HB.out.size
    have x0 : W.heap.size < w0.heap.size := by omega
    have k0 := (HB.out.cell (p := ⟨W.heap.size, 0, none⟩) x0).trans c0
    have k1 := (HB.out.cell (p := ⟨W.heap.size, 1, none⟩) x0).trans c1
    have k2 := (HB.out.cell (p := ⟨W.heap.size, 2, none⟩) x0).trans c2
    by_cases hlt : i < m
    · obtain ⟨b, o, rfl, hb, hc⟩ := KS.out i hlt
      have k3 := (HB.out.cell (p := ⟨b, o + i * 3 + 1, none⟩) (by show b < w0.heap.size; omega)).trans ((hB.cell (p := ⟨b, o + i * 3 + 1, none⟩) (by show b < W.heap.size; omega)).trans hc)
      have dd : decide ((i : Int) < (m : Int)) = true := decide_eq_true (by omega)
      have HL := Lib.hid (upto_len ys i (by rw [HSL.out]; omega))
      have HN := Lib.hid (upto_snoc ys i (ys.getD i 0) (by rw [HSL.out]; omega) rfl)
      clear hc c0 c1 c2
      generalize ys.getD i 0 = y at *
      go_wp2_with (at_builtin; refine append_one Tryz.underlying37 info_i64 rfl _ _ rfl rfl HO.out rfl hs (by rw [HL.out]; omega) ?_; intro v' w' hO hb')
      go_roundw
      case rel => exact ⟨i + 1, by omega, by go_num, Lib.hid (by rw [← HN.out]; exact hO), Lib.hid (HB.out.trans (hb'.mono (by omega)))⟩
      case measure => (first | (simp [intOf]; done) | (simp [intOf]; omega) | (simp only [intOf]; omega))
    · obtain rfl : i = m := by omega
      have dd : decide ((i : Int) < (i : Int)) = false := decide_eq_false (by omega)
      have hBB := hB.trans (HB.out.mono hB.size)
      have HO2 := HO.out
      rw [upto_full ys i HSL.out] at HO2
      obtain ⟨q, cq, rfl, hrd, hq1, hq2⟩ := HO2.shape
      rw [HSL.out] at hq1 ⊢
      have RC := Lib.hid (fun j (hj : j < i) => (show ∃ b o, q = some ⟨b, o, none⟩ ∧ wr.cell? ⟨b, o + j, none⟩ = some (.int .i64 (ys.getD j 0)) by
        rcases hrd with h | ⟨b, o, e, _, h⟩
        · have := HSL.out; rw [h] at this; simp at this; omega
        · exact ⟨b, o, e, h j (by rw [HSL.out]; exact hj)⟩))
      clear HO HO2 hrd KS c0 c1 c2 HB hB
      by_cases h0 : i = 0
      case neg =>
        rw [decide_eq_false h0] at Z
        simp only [Bool.false_and, Bool.and_false, Bool.true_and, Bool.and_true] at Z
        have d0 : ((i : Int) == 0) = false := by simp; omega
        go_wp2_with fail
        go_ret
        exact ⟨ret_bool Z.out.symm, by repeat (first | exact hBB | refine below_drewN ?_ _)⟩
      rw [decide_eq_true h0] at Z
      subst h0
      by_cases h1 : 2 ≤ n
      case neg =>
        rw [decide_eq_false h1] at Z
        simp only [Bool.false_and, Bool.and_false, Bool.true_and, Bool.and_true] at Z
        have d1 : decide (2 ≤ n) = false := decide_eq_false h1
        go_wp2_with fail
        go_ret
        exact ⟨ret_bool Z.out.symm, by repeat (first | exact hBB | refine below_drewN ?_ _)⟩
      rw [decide_eq_true h1] at Z
      have d1 : decide (2 ≤ n) = true := decide_eq_true h1
      go_wp2_with fail
      go_ret
      exact ⟨ret_bool (by rw [Z.out]; unfold few; simp; omega), by repeat (first | exact hBB | refine below_drewN ?_ _)⟩
set_option maxRecDepth 100000 in
set_option maxHeartbeats 8000000 in
theorem r14_node_3 (k n : Int) (m c : Nat) (p : Option Addr) (ks : Fo) (lim : Nat) (W : World) (wn : -9223372036854775808 ≤ n ∧ n ≤ 9223372036854775807) (hK : Kids W lim (.slice p m c) ks) (hl : lim ≤ W.heap.size) (wk : ks.wf) (hm2 : m ≤ 1048576) (hk : k = 3) :
    Calls Tryz.prog 100 #[.agg #[.int .i64 k, .int .i64 n, .slice p m c]] W fun e w' => e = .returned (.bool (nodeB k n m (ks.n 0) (ks.n 1))) ∧ Below W.heap.size W w' := by
  subst hk
  have H := Lib.hid (fun w => r4_has n w wn.1 wn.2)
  have PR := Lib.hid (fun w => r3_prime n w wn.2)
  have PW := Lib.hid (fun n w h => r14_power n w h)
  have GC := Lib.hid (fun A B w h1 h2 => r3_gcdq A B w h1 h2)
  obtain ⟨_, _, _, he, hc1, hc2, HM⟩ := hK.shape
  cases he
  have wA := fun (h : 0 < m) => (Fo.wf_at ks 0 wk (by have := HM.out; omega)).2.1
  have wB := fun (h : 1 < m) => (Fo.wf_at ks 1 wk (by have := HM.out; omega)).2.1
  have HS0 := Lib.hid (Fo.sizes_at ks 0)
  have HS1 := Lib.hid (Fo.sizes_at ks 1)
  have HSL := Lib.hid (show ks.sizes.length = m by rw [Fo.sizes_len, HM.out])
  have KS := Lib.hid (fun i (hi : i < m) => (show ∃ b o, p = some ⟨b, o, none⟩ ∧ b < lim ∧ W.cell? ⟨b, o + i * 3 + 1, none⟩ = some (.int .i64 (ks.sizes.getD i 0)) by rw [Fo.sizes_at]; exact hK.size hi))
  generalize ks.n 0 = A at *
  generalize ks.n 1 = B at *
  have Z := Lib.hid (show nodeB 3 n m A B = (decide (m = 0) && decide (2 ≤ n) && hasp n) from rfl)
  generalize nodeB 3 n m A B = z at *
  generalize ks.sizes = ys at *
  obtain ⟨w0, hw0, c0, c1, c2, hB, hsz⟩ := box3 W 3 n (.slice p m c) 24
  clear hK wk HM
  have hB0 : Below w0.heap.size w0 w0 := Below.refl _ _
  have HO0 := Owns.nil w0 w0.heap.size 3 .i64
  go_enter Tryz.func100, Tryz.ntmps100
  go_wp2_with fail
  rw [← hw0]
  clear hw0
  go_loopw [3, 4] (fun x y wr => ∃ i : Nat, i ≤ m ∧ y = .int .i64 i ∧ Hid (Owns wr w0.heap.size 3 .i64 x (upto ys i)) ∧ Hid (Below w0.heap.size w0 wr)) (fun _ y _ => m - (intOf y).toNat)
  case atStart => exact ⟨0, Nat.zero_le _, rfl, Lib.hid HO0, Lib.hid hB0⟩
  case round =>
    clear hB0 HO0
    obtain ⟨i, hi, rfl, HO, HB⟩ := hrel
    have hs := HB.out.size
    have x0 : W.heap.size < w0.heap.size := by omega
    have k0 := (HB.out.cell (p := ⟨W.heap.size, 0, none⟩) x0).trans c0
    have k1 := (HB.out.cell (p := ⟨W.heap.size, 1, none⟩) x0).trans c1
    have k2 := (HB.out.cell (p := ⟨W.heap.size, 2, none⟩) x0).trans c2
    by_cases hlt : i < m
    · obtain ⟨b, o, rfl, hb, hc⟩ := KS.out i hlt
      have k3 := (HB.out.cell (p := ⟨b, o + i * 3 + 1, none⟩) (by show b < w0.heap.size; omega)).trans ((hB.cell (p := ⟨b, o + i * 3 + 1, none⟩) (by show b < W.heap.size; omega)).trans hc)
      have dd : decide ((i : Int) < (m : Int)) = true := decide_eq_true (by omega)
      have HL := Lib.hid (upto_len ys i (by rw [HSL.out]; omega))
      have HN := Lib.hid (upto_snoc ys i (ys.getD i 0) (by rw [HSL.out]; omega) rfl)
      clear hc c0 c1 c2
      generalize ys.getD i 0 = y at *
      go_wp2_with (at_builtin; refine append_one Tryz.underlying37 info_i64 rfl _ _ rfl rfl HO.out rfl hs (by rw [HL.out]; omega) ?_; intro v' w' hO hb')
      go_roundw
      case rel => exact ⟨i + 1, by omega, by go_num, Lib.hid (by rw [← HN.out]; exact hO), Lib.hid (HB.out.trans (hb'.mono (by omega)))⟩
      case measure => (first | (simp [intOf]; done) | (simp [intOf]; omega) | (simp only [intOf]; omega))
    · obtain rfl : i = m := by omega
      have dd : decide ((i : Int) < (i : Int)) = false := decide_eq_false (by omega)
      have hBB := hB.trans (HB.out.mono hB.size)
      have HO2 := HO.out
      rw [upto_full ys i HSL.out] at HO2
      obtain ⟨q, cq, rfl, hrd, hq1, hq2⟩ := HO2.shape
      rw [HSL.out] at hq1 ⊢
      have RC := Lib.hid (fun j (hj : j < i) => (show ∃ b o, q = some ⟨b, o, none⟩ ∧ wr.cell? ⟨b, o + j, none⟩ = some (.int .i64 (ys.getD j 0)) by
        rcases hrd with h | ⟨b, o, e, _, h⟩
        · have := HSL.out; rw [h] at this; simp at this; omega
        · exact ⟨b, o, e, h j (by rw [HSL.out]; exact hj)⟩))
      clear HO HO2 hrd KS c0 c1 c2 HB hB
      by_cases h0 : i = 0
      case neg =>
        rw [decide_eq_false h0] at Z
        simp only [Bool.false_and, Bool.and_false, Bool.true_and, Bool.and_true] at Z
        have d0 : ((i : Int) == 0) = false := by simp; omega
        go_wp2_with fail
        go_ret
        exact ⟨ret_bool Z.out.symm, by repeat (first | exact hBB | refine below_drewN ?_ _)⟩
      rw [decide_eq_true h0] at Z
      subst h0
      by_cases h1 : 2 ≤ n
      case neg =>
        rw [decide_eq_false h1] at Z
        simp only [Bool.false_and, Bool.and_false, Bool.true_and, Bool.and_true] at Z
        have d1 : decide (2 ≤ n) = false := decide_eq_false h1
        go_wp2_with fail
        go_ret
        exact ⟨ret_bool Z.out.symm, by repeat (first | exact hBB | refine below_drewN ?_ _)⟩
      rw [decide_eq_true h1] at Z
      have d1 : decide (2 ≤ n) = true := decide_eq_true h1
      go_wp2_with fail
      refine (PW.out n _ wn.2).mono ?_
      rintro e w1 ⟨rfl, rfl⟩
      go_wp2_with fail
      go_ret
      exact ⟨ret_bool Z.out.symm, by repeat (first | exact hBB | refine below_drewN ?_ _)⟩
set_option maxRecDepth 100000 in
set_option maxHeartbeats 8000000 in
theorem r14_node_4 (k n : Int) (m c : Nat) (p : Option Addr) (ks : Fo) (lim : Nat) (W : World) (wn : -9223372036854775808 ≤ n ∧ n ≤ 9223372036854775807) (hK : Kids W lim (.slice p m c) ks) (hl : lim ≤ W.heap.size) (wk : ks.wf) (hm2 : m ≤ 1048576) (hk : k = 4) :
    Calls Tryz.prog 100 #[.agg #[.int .i64 k, .int .i64 n, .slice p m c]] W fun e w' => e = .returned (.bool (nodeB k n m (ks.n 0) (ks.n 1))) ∧ Below W.heap.size W w' := by
  subst hk
  have H := Lib.hid (fun w => r4_has n w wn.1 wn.2)
  have PR := Lib.hid (fun w => r3_prime n w wn.2)
  have PW := Lib.hid (fun n w h => r14_power n w h)
  have GC := Lib.hid (fun A B w h1 h2 => r3_gcdq A B w h1 h2)
  obtain ⟨_, _, _, he, hc1, hc2, HM⟩ := hK.shape
  cases he
  have wA := fun (h : 0 < m) => (Fo.wf_at ks 0 wk (by have := HM.out; omega)).2.1
  have wB := fun (h : 1 < m) => (Fo.wf_at ks 1 wk (by have := HM.out; omega)).2.1
  have HS0 := Lib.hid (Fo.sizes_at ks 0)
  have HS1 := Lib.hid (Fo.sizes_at ks 1)
  have HSL := Lib.hid (show ks.sizes.length = m by rw [Fo.sizes_len, HM.out])
  have KS := Lib.hid (fun i (hi : i < m) => (show ∃ b o, p = some ⟨b, o, none⟩ ∧ b < lim ∧ W.cell? ⟨b, o + i * 3 + 1, none⟩ = some (.int .i64 (ks.sizes.getD i 0)) by rw [Fo.sizes_at]; exact hK.size hi))
  generalize ks.n 0 = A at *
  generalize ks.n 1 = B at *
  have Z := Lib.hid (show nodeB 4 n m A B = (decide (m = 2) && hasb n && prodb n A B) from rfl)
  generalize nodeB 4 n m A B = z at *
  generalize ks.sizes = ys at *
  obtain ⟨w0, hw0, c0, c1, c2, hB, hsz⟩ := box3 W 4 n (.slice p m c) 24
  clear hK wk HM
  have hB0 : Below w0.heap.size w0 w0 := Below.refl _ _
  have HO0 := Owns.nil w0 w0.heap.size 3 .i64
  go_enter Tryz.func100, Tryz.ntmps100
  go_wp2_with fail
  rw [← hw0]
  clear hw0
  go_loopw [3, 4] (fun x y wr => ∃ i : Nat, i ≤ m ∧ y = .int .i64 i ∧ Hid (Owns wr w0.heap.size 3 .i64 x (upto ys i)) ∧ Hid (Below w0.heap.size w0 wr)) (fun _ y _ => m - (intOf y).toNat)
  case atStart => exact ⟨0, Nat.zero_le _, rfl, Lib.hid HO0, Lib.hid hB0⟩
  case round =>
    clear hB0 HO0
    obtain ⟨i, hi, rfl, HO, HB⟩ := hrel
    have hs := HB.out.size
    have x0 : W.heap.size < w0.heap.size := by omega
    have k0 := (HB.out.cell (p := ⟨W.heap.size, 0, none⟩) x0).trans c0
    have k1 := (HB.out.cell (p := ⟨W.heap.size, 1, none⟩) x0).trans c1
    have k2 := (HB.out.cell (p := ⟨W.heap.size, 2, none⟩) x0).trans c2
    by_cases hlt : i < m
    · obtain ⟨b, o, rfl, hb, hc⟩ := KS.out i hlt
      have k3 := (HB.out.cell (p := ⟨b, o + i * 3 + 1, none⟩) (by show b < w0.heap.size; omega)).trans ((hB.cell (p := ⟨b, o + i * 3 + 1, none⟩) (by show b < W.heap.size; omega)).trans hc)
      have dd : decide ((i : Int) < (m : Int)) = true := decide_eq_true (by omega)
      have HL := Lib.hid (upto_len ys i (by rw [HSL.out]; omega))
      have HN := Lib.hid (upto_snoc ys i (ys.getD i 0) (by rw [HSL.out]; omega) rfl)
      clear hc c0 c1 c2
      generalize ys.getD i 0 = y at *
      go_wp2_with (at_builtin; refine append_one Tryz.underlying37 info_i64 rfl _ _ rfl rfl HO.out rfl hs (by rw [HL.out]; omega) ?_; intro v' w' hO hb')
      go_roundw
      case rel => exact ⟨i + 1, by omega, by go_num, Lib.hid (by rw [← HN.out]; exact hO), Lib.hid (HB.out.trans (hb'.mono (by omega)))⟩
      case measure => (first | (simp [intOf]; done) | (simp [intOf]; omega) | (simp only [intOf]; omega))
    · obtain rfl : i = m := by omega
      have dd : decide ((i : Int) < (i : Int)) = false := decide_eq_false (by omega)
      have hBB := hB.trans (HB.out.mono hB.size)
      have HO2 := HO.out
      rw [upto_full ys i HSL.out] at HO2
      obtain ⟨q, cq, rfl, hrd, hq1, hq2⟩ := HO2.shape
      rw [HSL.out] at hq1 ⊢
      have RC := Lib.hid (fun j (hj : j < i) => (show ∃ b o, q = some ⟨b, o, none⟩ ∧ wr.cell? ⟨b, o + j, none⟩ = some (.int .i64 (ys.getD j 0)) by
        rcases hrd with h | ⟨b, o, e, _, h⟩
        · have := HSL.out; rw [h] at this; simp at this; omega
        · exact ⟨b, o, e, h j (by rw [HSL.out]; exact hj)⟩))
      clear HO HO2 hrd KS c0 c1 c2 HB hB
      by_cases h0 : i = 2
      case neg =>
        rw [decide_eq_false h0] at Z
        simp only [Bool.false_and, Bool.and_false, Bool.true_and, Bool.and_true] at Z
        have d0 : ((i : Int) == 2) = false := by simp; omega
        have d1 : ((i : Int) != 2) = true := by simp; omega
        go_wp2_with fail
        go_quiet (fail)
        go_wp2_with fail
        go_ret
        exact ⟨ret_bool Z.out.symm, by repeat (first | exact hBB | refine below_drewN ?_ _)⟩
      rw [decide_eq_true h0] at Z
      subst h0
      have wA' := wA (by omega)
      have wB' := wB (by omega)
      obtain ⟨b0, o0, rfl, r0⟩ := RC.out 0 (by omega)
      rw [HS0.out] at r0
      obtain ⟨b1, o1, e1, r1⟩ := RC.out 1 (by omega)
      cases e1
      rw [HS1.out] at r1
      clear RC wA wB
      simp only [Nat.add_zero] at r0
      cases hh : hasb n with
      | false =>
        rw [hh] at Z H
        simp only [Bool.false_and, Bool.and_false, Bool.true_and, Bool.and_true] at Z
        go_wp2_with fail
        go_quiet ((go_at_call 29; exact quiet_l (H.out _)))
        go_wp2_with fail
        go_ret
        exact ⟨ret_bool Z.out.symm, by repeat (first | exact hBB | refine below_drewN ?_ _)⟩
      | true =>
        rw [hh] at Z H
        have hn := hasb_dvd hh
        by_cases hA : 2 ≤ A
        case neg =>
          have Z2 := Lib.hid (show prodb n A B = false by unfold prodb; rw [decide_eq_false hA]; rfl)
          rw [Z2.out] at Z
          simp only [Bool.false_and, Bool.and_false, Bool.true_and, Bool.and_true] at Z
          have d1 : decide (A < 2) = true := decide_eq_true (by omega)
          go_wp2_with fail
          go_quiet ((go_at_call 29; exact quiet_l (H.out _)))
          go_wp2_with fail
          go_ret
          exact ⟨ret_bool Z.out.symm, by repeat (first | exact hBB | refine below_drewN ?_ _)⟩
        have d1 : decide (A < 2) = false := decide_eq_false (by omega)
        by_cases hB : 2 ≤ B
        case neg =>
          have Z2 := Lib.hid (show prodb n A B = false by unfold prodb; rw [decide_eq_false hB, Bool.and_false]; rfl)
          rw [Z2.out] at Z
          simp only [Bool.false_and, Bool.and_false, Bool.true_and, Bool.and_true] at Z
          have d2 : decide (B < 2) = true := decide_eq_true (by omega)
          go_wp2_with fail
          go_quiet ((go_at_call 29; exact quiet_l (H.out _)))
          go_wp2_with fail
          go_ret
          exact ⟨ret_bool Z.out.symm, by repeat (first | exact hBB | refine below_drewN ?_ _)⟩
        have d2 : decide (B < 2) = false := decide_eq_false (by omega)
        have hA0 : (A == 0) = false := by simp; omega
        have hA1 : ¬ (A = 0) := by omega
        have T1 : n.tmod A = n % A := Int.tmod_eq_emod_of_nonneg (by omega)
        have T2 : n.tdiv A = n / A := Int.tdiv_eq_ediv_of_nonneg (by omega)
        have T3 := Int.ediv_le_self A (show 0 ≤ n by omega)
        have T4 : 0 ≤ n / A := Int.ediv_nonneg (by omega) (by omega)
        have Z2 := Lib.hid (show prodb n A B = (decide (n % A = 0) && decide (n / A = B)) by unfold prodb; rw [decide_eq_true hA, decide_eq_true hB]; rfl)
        rw [Z2.out] at Z
        clear Z2
        have T5 := Int.emod_nonneg n hA1
        have T6 := Int.emod_lt_of_pos n (show 0 < A by omega)
        have T7 : IntKind.i64.wrap (n / A) = n / A := IntWalk.i64_in _ (by have h9 : n / A ≤ n := Int.ediv_le_self _ (by omega); omega)
        clear T3
        generalize n % A = x at *
        generalize n / A = y at *
        by_cases hx : x = 0
        case neg =>
          rw [decide_eq_false hx] at Z
          simp only [Bool.false_and, Bool.and_false, Bool.true_and, Bool.and_true] at Z
          have d3 : (x != 0) = true := by simp [hx]
          go_wp2_with fail
          go_quiet ((go_at_call 29; exact quiet_l (H.out _)))
          go_wp2_with fail
          go_ret
          exact ⟨ret_bool Z.out.symm, by repeat (first | exact hBB | refine below_drewN ?_ _)⟩
        rw [decide_eq_true hx] at Z
        have d3 : (x != 0) = false := by simp [hx]
        by_cases hy : y = B
        case neg =>
          rw [decide_eq_false hy] at Z
          simp only [Bool.false_and, Bool.and_false, Bool.true_and, Bool.and_true] at Z
          have d4 : (y != B) = true := by simp [hy]
          go_wp2_with fail
          go_quiet ((go_at_call 29; exact quiet_l (H.out _)))
          go_wp2_with fail
          go_ret
          exact ⟨ret_bool Z.out.symm, by repeat (first | exact hBB | refine below_drewN ?_ _)⟩
        rw [decide_eq_true hy] at Z
        have d4 : (y != B) = false := by simp [hy]
        go_wp2_with fail
        go_quiet ((go_at_call 29; exact quiet_l (H.out _)))
        go_wp2_with fail
        go_quiet (fail)
        go_wp2_with fail
        go_ret
        exact ⟨ret_bool Z.out.symm, by repeat (first | exact hBB | refine below_drewN ?_ _)⟩
set_option maxRecDepth 100000 in
set_option maxHeartbeats 8000000 in
theorem r14_node_5 (k n : Int) (m c : Nat) (p : Option Addr) (ks : Fo) (lim : Nat) (W : World) (wn : -9223372036854775808 ≤ n ∧ n ≤ 9223372036854775807) (hK : Kids W lim (.slice p m c) ks) (hl : lim ≤ W.heap.size) (wk : ks.wf) (hm2 : m ≤ 1048576) (hk : k = 5) :
    Calls Tryz.prog 100 #[.agg #[.int .i64 k, .int .i64 n, .slice p m c]] W fun e w' => e = .returned (.bool (nodeB k n m (ks.n 0) (ks.n 1))) ∧ Below W.heap.size W w' := by
  subst hk
  have H := Lib.hid (fun w => r4_has n w wn.1 wn.2)
  have PR := Lib.hid (fun w => r3_prime n w wn.2)
  have PW := Lib.hid (fun n w h => r14_power n w h)
  have GC := Lib.hid (fun A B w h1 h2 => r3_gcdq A B w h1 h2)
  obtain ⟨_, _, _, he, hc1, hc2, HM⟩ := hK.shape
  cases he
  have wA := fun (h : 0 < m) => (Fo.wf_at ks 0 wk (by have := HM.out; omega)).2.1
  have wB := fun (h : 1 < m) => (Fo.wf_at ks 1 wk (by have := HM.out; omega)).2.1
  have HS0 := Lib.hid (Fo.sizes_at ks 0)
  have HS1 := Lib.hid (Fo.sizes_at ks 1)
  have HSL := Lib.hid (show ks.sizes.length = m by rw [Fo.sizes_len, HM.out])
  have KS := Lib.hid (fun i (hi : i < m) => (show ∃ b o, p = some ⟨b, o, none⟩ ∧ b < lim ∧ W.cell? ⟨b, o + i * 3 + 1, none⟩ = some (.int .i64 (ks.sizes.getD i 0)) by rw [Fo.sizes_at]; exact hK.size hi))
  generalize ks.n 0 = A at *
  generalize ks.n 1 = B at *
  have Z := Lib.hid (show nodeB 5 n m A B = (decide (m = 2) && hasb n && prodb n A B && decide (gcdz A B = 1)) from rfl)
  generalize nodeB 5 n m A B = z at *
  generalize ks.sizes = ys at *
  obtain ⟨w0, hw0, c0, c1, c2, hB, hsz⟩ := box3 W 5 n (.slice p m c) 24
  clear hK wk HM
  have hB0 : Below w0.heap.size w0 w0 := Below.refl _ _
  have HO0 := Owns.nil w0 w0.heap.size 3 .i64
  go_enter Tryz.func100, Tryz.ntmps100
  go_wp2_with fail
  rw [← hw0]
  clear hw0
  go_loopw [3, 4] (fun x y wr => ∃ i : Nat, i ≤ m ∧ y = .int .i64 i ∧ Hid (Owns wr w0.heap.size 3 .i64 x (upto ys i)) ∧ Hid (Below w0.heap.size w0 wr)) (fun _ y _ => m - (intOf y).toNat)
  case atStart => exact ⟨0, Nat.zero_le _, rfl, Lib.hid HO0, Lib.hid hB0⟩
  case round =>
    clear hB0 HO0
    obtain ⟨i, hi, rfl, HO, HB⟩ := hrel
    have hs := HB.out.size
    have x0 : W.heap.size < w0.heap.size := by omega
    have k0 := (HB.out.cell (p := ⟨W.heap.size, 0, none⟩) x0).trans c0
    have k1 := (HB.out.cell (p := ⟨W.heap.size, 1, none⟩) x0).trans c1
    have k2 := (HB.out.cell (p := ⟨W.heap.size, 2, none⟩) x0).trans c2
    by_cases hlt : i < m
    · obtain ⟨b, o, rfl, hb, hc⟩ := KS.out i hlt
      have k3 := (HB.out.cell (p := ⟨b, o + i * 3 + 1, none⟩) (by show b < w0.heap.size; omega)).trans ((hB.cell (p := ⟨b, o + i * 3 + 1, none⟩) (by show b < W.heap.size; omega)).trans hc)
      have dd : decide ((i : Int) < (m : Int)) = true := decide_eq_true (by omega)
      have HL := Lib.hid (upto_len ys i (by rw [HSL.out]; omega))
      have HN := Lib.hid (upto_snoc ys i (ys.getD i 0) (by rw [HSL.out]; omega) rfl)
      clear hc c0 c1 c2
      generalize ys.getD i 0 = y at *
      go_wp2_with (at_builtin; refine append_one Tryz.underlying37 info_i64 rfl _ _ rfl rfl HO.out rfl hs (by rw [HL.out]; omega) ?_; intro v' w' hO hb')
      go_roundw
      case rel => exact ⟨i + 1, by omega, by go_num, Lib.hid (by rw [← HN.out]; exact hO), Lib.hid (HB.out.trans (hb'.mono (by omega)))⟩
      case measure => (first | (simp [intOf]; done) | (simp [intOf]; omega) | (simp only [intOf]; omega))
    · obtain rfl : i = m := by omega
      have dd : decide ((i : Int) < (i : Int)) = false := decide_eq_false (by omega)
      have hBB := hB.trans (HB.out.mono hB.size)
      have HO2 := HO.out
      rw [upto_full ys i HSL.out] at HO2
      obtain ⟨q, cq, rfl, hrd, hq1, hq2⟩ := HO2.shape
      rw [HSL.out] at hq1 ⊢
      have RC := Lib.hid (fun j (hj : j < i) => (show ∃ b o, q = some ⟨b, o, none⟩ ∧ wr.cell? ⟨b, o + j, none⟩ = some (.int .i64 (ys.getD j 0)) by
        rcases hrd with h | ⟨b, o, e, _, h⟩
        · have := HSL.out; rw [h] at this; simp at this; omega
        · exact ⟨b, o, e, h j (by rw [HSL.out]; exact hj)⟩))
      clear HO HO2 hrd KS c0 c1 c2 HB hB
      by_cases h0 : i = 2
      case neg =>
        rw [decide_eq_false h0] at Z
        simp only [Bool.false_and, Bool.and_false, Bool.true_and, Bool.and_true] at Z
        have d0 : ((i : Int) == 2) = false := by simp; omega
        have d1 : ((i : Int) != 2) = true := by simp; omega
        go_wp2_with fail
        go_quiet (fail)
        go_wp2_with fail
        go_ret
        exact ⟨ret_bool Z.out.symm, by repeat (first | exact hBB | refine below_drewN ?_ _)⟩
      rw [decide_eq_true h0] at Z
      subst h0
      have wA' := wA (by omega)
      have wB' := wB (by omega)
      obtain ⟨b0, o0, rfl, r0⟩ := RC.out 0 (by omega)
      rw [HS0.out] at r0
      obtain ⟨b1, o1, e1, r1⟩ := RC.out 1 (by omega)
      cases e1
      rw [HS1.out] at r1
      clear RC wA wB
      simp only [Nat.add_zero] at r0
      cases hh : hasb n with
      | false =>
        rw [hh] at Z H
        simp only [Bool.false_and, Bool.and_false, Bool.true_and, Bool.and_true] at Z
        go_wp2_with fail
        go_quiet ((go_at_call 29; exact quiet_l (H.out _)))
        go_wp2_with fail
        go_ret
        exact ⟨ret_bool Z.out.symm, by repeat (first | exact hBB | refine below_drewN ?_ _)⟩
      | true =>
        rw [hh] at Z H
        have hn := hasb_dvd hh
        by_cases hA : 2 ≤ A
        case neg =>
          have Z2 := Lib.hid (show prodb n A B = false by unfold prodb; rw [decide_eq_false hA]; rfl)
          rw [Z2.out] at Z
          simp only [Bool.false_and, Bool.and_false, Bool.true_and, Bool.and_true] at Z
          have d1 : decide (A < 2) = true := decide_eq_true (by omega)
          go_wp2_with fail
          go_quiet ((go_at_call 29; exact quiet_l (H.out _)))
          go_wp2_with fail
          go_ret
          exact ⟨ret_bool Z.out.symm, by repeat (first | exact hBB | refine below_drewN ?_ _)⟩
        have d1 : decide (A < 2) = false := decide_eq_false (by omega)
        by_cases hB : 2 ≤ B
        case neg =>
          have Z2 := Lib.hid (show prodb n A B = false by unfold prodb; rw [decide_eq_false hB, Bool.and_false]; rfl)
          rw [Z2.out] at Z
          simp only [Bool.false_and, Bool.and_false, Bool.true_and, Bool.and_true] at Z
          have d2 : decide (B < 2) = true := decide_eq_true (by omega)
          go_wp2_with fail
          go_quiet ((go_at_call 29; exact quiet_l (H.out _)))
          go_wp2_with fail
          go_ret
          exact ⟨ret_bool Z.out.symm, by repeat (first | exact hBB | refine below_drewN ?_ _)⟩
        have d2 : decide (B < 2) = false := decide_eq_false (by omega)
        have hA0 : (A == 0) = false := by simp; omega
        have hA1 : ¬ (A = 0) := by omega
        have T1 : n.tmod A = n % A := Int.tmod_eq_emod_of_nonneg (by omega)
        have T2 : n.tdiv A = n / A := Int.tdiv_eq_ediv_of_nonneg (by omega)
        have T3 := Int.ediv_le_self A (show 0 ≤ n by omega)
        have T4 : 0 ≤ n / A := Int.ediv_nonneg (by omega) (by omega)
        have Z2 := Lib.hid (show prodb n A B = (decide (n % A = 0) && decide (n / A = B)) by unfold prodb; rw [decide_eq_true hA, decide_eq_true hB]; rfl)
        rw [Z2.out] at Z
        clear Z2
        have T5 := Int.emod_nonneg n hA1
        have T6 := Int.emod_lt_of_pos n (show 0 < A by omega)
        have T7 : IntKind.i64.wrap (n / A) = n / A := IntWalk.i64_in _ (by have h9 : n / A ≤ n := Int.ediv_le_self _ (by omega); omega)
        clear T3
        generalize n % A = x at *
        generalize n / A = y at *
        by_cases hx : x = 0
        case neg =>
          rw [decide_eq_false hx] at Z
          simp only [Bool.false_and, Bool.and_false, Bool.true_and, Bool.and_true] at Z
          have d3 : (x != 0) = true := by simp [hx]
          go_wp2_with fail
          go_quiet ((go_at_call 29; exact quiet_l (H.out _)))
          go_wp2_with fail
          go_ret
          exact ⟨ret_bool Z.out.symm, by repeat (first | exact hBB | refine below_drewN ?_ _)⟩
        rw [decide_eq_true hx] at Z
        have d3 : (x != 0) = false := by simp [hx]
        by_cases hy : y = B
        case neg =>
          rw [decide_eq_false hy] at Z
          simp only [Bool.false_and, Bool.and_false, Bool.true_and, Bool.and_true] at Z
          have d4 : (y != B) = true := by simp [hy]
          go_wp2_with fail
          go_quiet ((go_at_call 29; exact quiet_l (H.out _)))
          go_wp2_with fail
          go_ret
          exact ⟨ret_bool Z.out.symm, by repeat (first | exact hBB | refine below_drewN ?_ _)⟩
        rw [decide_eq_true hy] at Z
        have d4 : (y != B) = false := by simp [hy]
        go_wp2_with fail
        go_quiet ((go_at_call 29; exact quiet_l (H.out _)))
        go_wp2_with fail
        go_quiet ((go_at_call 137; exact quiet_al (GC.out A B _ wA'.2 wB'.2)))
        go_wp2_with fail
        go_ret
        exact ⟨ret_bool Z.out.symm, by repeat (first | exact hBB | refine below_drewN ?_ _)⟩
set_option maxRecDepth 100000 in
set_option maxHeartbeats 8000000 in
theorem r14_node_6 (k n : Int) (m c : Nat) (p : Option Addr) (ks : Fo) (lim : Nat) (W : World) (wn : -9223372036854775808 ≤ n ∧ n ≤ 9223372036854775807) (hK : Kids W lim (.slice p m c) ks) (hl : lim ≤ W.heap.size) (wk : ks.wf) (hm2 : m ≤ 1048576) (hk : k = 6) :
    Calls Tryz.prog 100 #[.agg #[.int .i64 k, .int .i64 n, .slice p m c]] W fun e w' => e = .returned (.bool (nodeB k n m (ks.n 0) (ks.n 1))) ∧ Below W.heap.size W w' := by
  subst hk
  have H := Lib.hid (fun w => r4_has n w wn.1 wn.2)
  have PR := Lib.hid (fun w => r3_prime n w wn.2)
  have PW := Lib.hid (fun n w h => r14_power n w h)
  have GC := Lib.hid (fun A B w h1 h2 => r3_gcdq A B w h1 h2)
  obtain ⟨_, _, _, he, hc1, hc2, HM⟩ := hK.shape
  cases he
  have wA := fun (h : 0 < m) => (Fo.wf_at ks 0 wk (by have := HM.out; omega)).2.1
  have wB := fun (h : 1 < m) => (Fo.wf_at ks 1 wk (by have := HM.out; omega)).2.1
  have HS0 := Lib.hid (Fo.sizes_at ks 0)
  have HS1 := Lib.hid (Fo.sizes_at ks 1)
  have HSL := Lib.hid (show ks.sizes.length = m by rw [Fo.sizes_len, HM.out])
  have KS := Lib.hid (fun i (hi : i < m) => (show ∃ b o, p = some ⟨b, o, none⟩ ∧ b < lim ∧ W.cell? ⟨b, o + i * 3 + 1, none⟩ = some (.int .i64 (ks.sizes.getD i 0)) by rw [Fo.sizes_at]; exact hK.size hi))
  generalize ks.n 0 = A at *
  generalize ks.n 1 = B at *
  have Z := Lib.hid (show nodeB 6 n m A B = (decide (m = 1) && decide (3 ≤ n) && hasb n && prb n && decide (A = n - 1)) from rfl)
  generalize nodeB 6 n m A B = z at *
  generalize ks.sizes = ys at *
  obtain ⟨w0, hw0, c0, c1, c2, hB, hsz⟩ := box3 W 6 n (.slice p m c) 24
  clear hK wk HM
  have hB0 : Below w0.heap.size w0 w0 := Below.refl _ _
  have HO0 := Owns.nil w0 w0.heap.size 3 .i64
  go_enter Tryz.func100, Tryz.ntmps100
  go_wp2_with fail
  rw [← hw0]
  clear hw0
  go_loopw [3, 4] (fun x y wr => ∃ i : Nat, i ≤ m ∧ y = .int .i64 i ∧ Hid (Owns wr w0.heap.size 3 .i64 x (upto ys i)) ∧ Hid (Below w0.heap.size w0 wr)) (fun _ y _ => m - (intOf y).toNat)
  case atStart => exact ⟨0, Nat.zero_le _, rfl, Lib.hid HO0, Lib.hid hB0⟩
  case round =>
    clear hB0 HO0
    obtain ⟨i, hi, rfl, HO, HB⟩ := hrel
    have hs := HB.out.size
    have x0 : W.heap.size < w0.heap.size := by omega
    have k0 := (HB.out.cell (p := ⟨W.heap.size, 0, none⟩) x0).trans c0
    have k1 := (HB.out.cell (p := ⟨W.heap.size, 1, none⟩) x0).trans c1
    have k2 := (HB.out.cell (p := ⟨W.heap.size, 2, none⟩) x0).trans c2
    by_cases hlt : i < m
    · obtain ⟨b, o, rfl, hb, hc⟩ := KS.out i hlt
      have k3 := (HB.out.cell (p := ⟨b, o + i * 3 + 1, none⟩) (by show b < w0.heap.size; omega)).trans ((hB.cell (p := ⟨b, o + i * 3 + 1, none⟩) (by show b < W.heap.size; omega)).trans hc)
      have dd : decide ((i : Int) < (m : Int)) = true := decide_eq_true (by omega)
      have HL := Lib.hid (upto_len ys i (by rw [HSL.out]; omega))
      have HN := Lib.hid (upto_snoc ys i (ys.getD i 0) (by rw [HSL.out]; omega) rfl)
      clear hc c0 c1 c2
      generalize ys.getD i 0 = y at *
      go_wp2_with (at_builtin; refine append_one Tryz.underlying37 info_i64 rfl _ _ rfl rfl HO.out rfl hs (by rw [HL.out]; omega) ?_; intro v' w' hO hb')
      go_roundw
      case rel => exact ⟨i + 1, by omega, by go_num, Lib.hid (by rw [← HN.out]; exact hO), Lib.hid (HB.out.trans (hb'.mono (by omega)))⟩
      case measure => (first | (simp [intOf]; done) | (simp [intOf]; omega) | (simp only [intOf]; omega))
    · obtain rfl : i = m := by omega
      have dd : decide ((i : Int) < (i : Int)) = false := decide_eq_false (by omega)
      have hBB := hB.trans (HB.out.mono hB.size)
      have HO2 := HO.out
      rw [upto_full ys i HSL.out] at HO2
      obtain ⟨q, cq, rfl, hrd, hq1, hq2⟩ := HO2.shape
      rw [HSL.out] at hq1 ⊢
      have RC := Lib.hid (fun j (hj : j < i) => (show ∃ b o, q = some ⟨b, o, none⟩ ∧ wr.cell? ⟨b, o + j, none⟩ = some (.int .i64 (ys.getD j 0)) by
        rcases hrd with h | ⟨b, o, e, _, h⟩
        · have := HSL.out; rw [h] at this; simp at this; omega
        · exact ⟨b, o, e, h j (by rw [HSL.out]; exact hj)⟩))
      clear HO HO2 hrd KS c0 c1 c2 HB hB
      by_cases h0 : i = 1
      case neg =>
        rw [decide_eq_false h0] at Z
        simp only [Bool.false_and, Bool.and_false, Bool.true_and, Bool.and_true] at Z
        have d0 : ((i : Int) == 1) = false := by simp; omega
        go_wp2_with fail
        go_quiet (fail)
        go_wp2_with fail
        go_ret
        exact ⟨ret_bool Z.out.symm, by repeat (first | exact hBB | refine below_drewN ?_ _)⟩
      rw [decide_eq_true h0] at Z
      subst h0
      have wA' := wA (by omega)
      obtain ⟨b0, o0, rfl, r0⟩ := RC.out 0 (by omega)
      rw [HS0.out] at r0
      clear RC wA wB
      simp only [Nat.add_zero] at r0
      by_cases h1 : 3 ≤ n
      case neg =>
        rw [decide_eq_false h1] at Z
        simp only [Bool.false_and, Bool.and_false, Bool.true_and, Bool.and_true] at Z
        have d1 : decide (3 ≤ n) = false := decide_eq_false h1
        go_wp2_with fail
        go_quiet (fail)
        go_wp2_with fail
        go_ret
        exact ⟨ret_bool Z.out.symm, by repeat (first | exact hBB | refine below_drewN ?_ _)⟩
      rw [decide_eq_true h1] at Z
      have d1 : decide (3 ≤ n) = true := decide_eq_true h1
      cases hh : hasb n with
      | false =>
        rw [hh] at Z H
        simp only [Bool.false_and, Bool.and_false, Bool.true_and, Bool.and_true] at Z
        go_wp2_with fail
        go_quiet ((first | (go_at_call 29; exact quiet_l (H.out _)) | (go_at_call 75; exact quiet_l (PR.out _))))
        go_wp2_with fail
        go_ret
        exact ⟨ret_bool Z.out.symm, by repeat (first | exact hBB | refine below_drewN ?_ _)⟩
      | true =>
        rw [hh] at Z H
        have hn := hasb_dvd hh
        have wn1 : IntKind.i64.wrap (n - 1) = n - 1 := IntWalk.i64_in _ (by omega)
        cases hp : prb n with
        | false =>
          rw [hp] at Z PR
          simp only [Bool.false_and, Bool.and_false, Bool.true_and, Bool.and_true] at Z
          go_wp2_with fail
          go_quiet ((first | (go_at_call 29; exact quiet_l (H.out _)) | (go_at_call 75; exact quiet_l (PR.out _))))
          go_wp2_with fail
          go_ret
          exact ⟨ret_bool Z.out.symm, by repeat (first | exact hBB | refine below_drewN ?_ _)⟩
        | true =>
          rw [hp] at Z PR
          simp only [Bool.false_and, Bool.and_false, Bool.true_and, Bool.and_true] at Z
          go_wp2_with fail
          go_quiet ((first | (go_at_call 29; exact quiet_l (H.out _)) | (go_at_call 75; exact quiet_l (PR.out _))))
          go_wp2_with fail
          go_ret
          exact ⟨ret_bool Z.out.symm, by repeat (first | exact hBB | refine below_drewN ?_ _)⟩
set_option maxRecDepth 100000 in
set_option maxHeartbeats 8000000 in
theorem r14_node_7 (k n : Int) (m c : Nat) (p : Option Addr) (ks : Fo) (lim : Nat) (W : World) (wn : -9223372036854775808 ≤ n ∧ n ≤ 9223372036854775807) (hK : Kids W lim (.slice p m c) ks) (hl : lim ≤ W.heap.size) (wk : ks.wf) (hm2 : m ≤ 1048576) (hk : k = 7) :
    Calls Tryz.prog 100 #[.agg #[.int .i64 k, .int .i64 n, .slice p m c]] W fun e w' => e = .returned (.bool (nodeB k n m (ks.n 0) (ks.n 1))) ∧ Below W.heap.size W w' := by
  subst hk
  have H := Lib.hid (fun w => r4_has n w wn.1 wn.2)
  have PR := Lib.hid (fun w => r3_prime n w wn.2)
  have PW := Lib.hid (fun n w h => r14_power n w h)
  have GC := Lib.hid (fun A B w h1 h2 => r3_gcdq A B w h1 h2)
  obtain ⟨_, _, _, he, hc1, hc2, HM⟩ := hK.shape
  cases he
  have wA := fun (h : 0 < m) => (Fo.wf_at ks 0 wk (by have := HM.out; omega)).2.1
  have wB := fun (h : 1 < m) => (Fo.wf_at ks 1 wk (by have := HM.out; omega)).2.1
  have HS0 := Lib.hid (Fo.sizes_at ks 0)
  have HS1 := Lib.hid (Fo.sizes_at ks 1)
  have HSL := Lib.hid (show ks.sizes.length = m by rw [Fo.sizes_len, HM.out])
  have KS := Lib.hid (fun i (hi : i < m) => (show ∃ b o, p = some ⟨b, o, none⟩ ∧ b < lim ∧ W.cell? ⟨b, o + i * 3 + 1, none⟩ = some (.int .i64 (ks.sizes.getD i 0)) by rw [Fo.sizes_at]; exact hK.size hi))
  generalize ks.n 0 = A at *
  generalize ks.n 1 = B at *
  have Z := Lib.hid (show nodeB 7 n m A B = (decide (m = 1) && decide (2 ≤ n) && hasb n && hasp A && decide (2 * n - 1 ≤ A)) from rfl)
  generalize nodeB 7 n m A B = z at *
  generalize ks.sizes = ys at *
  obtain ⟨w0, hw0, c0, c1, c2, hB, hsz⟩ := box3 W 7 n (.slice p m c) 24
  clear hK wk HM
  have hB0 : Below w0.heap.size w0 w0 := Below.refl _ _
  have HO0 := Owns.nil w0 w0.heap.size 3 .i64
  go_enter Tryz.func100, Tryz.ntmps100
  go_wp2_with fail
  rw [← hw0]
  clear hw0
  go_loopw [3, 4] (fun x y wr => ∃ i : Nat, i ≤ m ∧ y = .int .i64 i ∧ Hid (Owns wr w0.heap.size 3 .i64 x (upto ys i)) ∧ Hid (Below w0.heap.size w0 wr)) (fun _ y _ => m - (intOf y).toNat)
  case atStart => exact ⟨0, Nat.zero_le _, rfl, Lib.hid HO0, Lib.hid hB0⟩
  case round =>
    clear hB0 HO0
    obtain ⟨i, hi, rfl, HO, HB⟩ := hrel
    have hs := HB.out.size
    have x0 : W.heap.size < w0.heap.size := by omega
    have k0 := (HB.out.cell (p := ⟨W.heap.size, 0, none⟩) x0).trans c0
    have k1 := (HB.out.cell (p := ⟨W.heap.size, 1, none⟩) x0).trans c1
    have k2 := (HB.out.cell (p := ⟨W.heap.size, 2, none⟩) x0).trans c2
    by_cases hlt : i < m
    · obtain ⟨b, o, rfl, hb, hc⟩ := KS.out i hlt
      have k3 := (HB.out.cell (p := ⟨b, o + i * 3 + 1, none⟩) (by show b < w0.heap.size; omega)).trans ((hB.cell (p := ⟨b, o + i * 3 + 1, none⟩) (by show b < W.heap.size; omega)).trans hc)
      have dd : decide ((i : Int) < (m : Int)) = true := decide_eq_true (by omega)
      have HL := Lib.hid (upto_len ys i (by rw [HSL.out]; omega))
      have HN := Lib.hid (upto_snoc ys i (ys.getD i 0) (by rw [HSL.out]; omega) rfl)
      clear hc c0 c1 c2
      generalize ys.getD i 0 = y at *
      go_wp2_with (at_builtin; refine append_one Tryz.underlying37 info_i64 rfl _ _ rfl rfl HO.out rfl hs (by rw [HL.out]; omega) ?_; intro v' w' hO hb')
      go_roundw
      case rel => exact ⟨i + 1, by omega, by go_num, Lib.hid (by rw [← HN.out]; exact hO), Lib.hid (HB.out.trans (hb'.mono (by omega)))⟩
      case measure => (first | (simp [intOf]; done) | (simp [intOf]; omega) | (simp only [intOf]; omega))
    · obtain rfl : i = m := by omega
      have dd : decide ((i : Int) < (i : Int)) = false := decide_eq_false (by omega)
      have hBB := hB.trans (HB.out.mono hB.size)
      have HO2 := HO.out
      rw [upto_full ys i HSL.out] at HO2
      obtain ⟨q, cq, rfl, hrd, hq1, hq2⟩ := HO2.shape
      rw [HSL.out] at hq1 ⊢
      have RC := Lib.hid (fun j (hj : j < i) => (show ∃ b o, q = some ⟨b, o, none⟩ ∧ wr.cell? ⟨b, o + j, none⟩ = some (.int .i64 (ys.getD j 0)) by
        rcases hrd with h | ⟨b, o, e, _, h⟩
        · have := HSL.out; rw [h] at this; simp at this; omega
        · exact ⟨b, o, e, h j (by rw [HSL.out]; exact hj)⟩))
      clear HO HO2 hrd KS c0 c1 c2 HB hB
      by_cases h0 : i = 1
      case neg =>
        rw [decide_eq_false h0] at Z
        simp only [Bool.false_and, Bool.and_false, Bool.true_and, Bool.and_true] at Z
        have d0 : ((i : Int) == 1) = false := by simp; omega
        go_wp2_with fail
        go_quiet (fail)
        go_wp2_with fail
        go_ret
        exact ⟨ret_bool Z.out.symm, by repeat (first | exact hBB | refine below_drewN ?_ _)⟩
      rw [decide_eq_true h0] at Z
      subst h0
      have wA' := wA (by omega)
      obtain ⟨b0, o0, rfl, r0⟩ := RC.out 0 (by omega)
      rw [HS0.out] at r0
      clear RC wA wB
      simp only [Nat.add_zero] at r0
      by_cases h1 : 2 ≤ n
      case neg =>
        rw [decide_eq_false h1] at Z
        simp only [Bool.false_and, Bool.and_false, Bool.true_and, Bool.and_true] at Z
        have d1 : decide (2 ≤ n) = false := decide_eq_false h1
        go_wp2_with fail
        go_quiet (fail)
        go_wp2_with fail
        go_ret
        exact ⟨ret_bool Z.out.symm, by repeat (first | exact hBB | refine below_drewN ?_ _)⟩
      rw [decide_eq_true h1] at Z
      have d1 : decide (2 ≤ n) = true := decide_eq_true h1
      cases hh : hasb n with
      | false =>
        rw [hh] at Z H
        simp only [Bool.false_and, Bool.and_false, Bool.true_and, Bool.and_true] at Z
        go_wp2_with fail
        go_quiet ((first | (go_at_call 29; exact quiet_l (H.out _)) | (go_at_call 136; exact quiet_l (PW.out A _ wA'.2))))
        go_wp2_with fail
        go_ret
        exact ⟨ret_bool Z.out.symm, by repeat (first | exact hBB | refine below_drewN ?_ _)⟩
      | true =>
        rw [hh] at Z H
        have hn := hasb_dvd hh
        have wn1 : IntKind.i64.wrap (2 * n) = 2 * n := IntWalk.i64_in _ (by omega)
        have wn2 : IntKind.i64.wrap (2 * n - 1) = 2 * n - 1 := IntWalk.i64_in _ (by omega)
        have PW2 := Lib.hid (fun w => PW.out A w wA'.2)
        cases hp : hasp A with
        | false =>
          rw [hp] at Z PW2
          simp only [Bool.false_and, Bool.and_false, Bool.true_and, Bool.and_true] at Z
          go_wp2_with fail
          go_quiet ((first | (go_at_call 29; exact quiet_l (H.out _)) | (go_at_call 136; exact quiet_l (PW2.out _))))
          go_wp2_with fail
          go_ret
          exact ⟨ret_bool Z.out.symm, by repeat (first | exact hBB | refine below_drewN ?_ _)⟩
        | true =>
          rw [hp] at Z PW2
          simp only [Bool.false_and, Bool.and_false, Bool.true_and, Bool.and_true] at Z
          go_wp2_with fail
          go_quiet ((first | (go_at_call 29; exact quiet_l (H.out _)) | (go_at_call 136; exact quiet_l (PW2.out _))))
          go_wp2_with fail
          go_ret
          exact ⟨ret_bool Z.out.symm, by repeat (first | exact hBB | refine below_drewN ?_ _)⟩
set_option maxRecDepth 100000 in
set_option maxHeartbeats 8000000 in
theorem r14_node_no (k n : Int) (m c : Nat) (p : Option Addr) (ks : Fo) (lim : Nat) (W : World) (wn : -9223372036854775808 ≤ n ∧ n ≤ 9223372036854775807) (hK : Kids W lim (.slice p m c) ks) (hl : lim ≤ W.heap.size) (wk : ks.wf) (hm2 : m ≤ 1048576) (hk : ¬ (k = 1 ∨ k = 2 ∨ k = 3 ∨ k = 4 ∨ k = 5 ∨ k = 6 ∨ k = 7)) :
    Calls Tryz.prog 100 #[.agg #[.int .i64 k, .int .i64 n, .slice p m c]] W fun e w' => e = .returned (.bool (nodeB k n m (ks.n 0) (ks.n 1))) ∧ Below W.heap.size W w' := by
  have H := Lib.hid (fun w => r4_has n w wn.1 wn.2)
  have PR := Lib.hid (fun w => r3_prime n w wn.2)
  have PW := Lib.hid (fun n w h => r14_power n w h)
  have GC := Lib.hid (fun A B w h1 h2 => r3_gcdq A B w h1 h2)
  obtain ⟨_, _, _, he, hc1, hc2, HM⟩ := hK.shape
  cases he
  have wA := fun (h : 0 < m) => (Fo.wf_at ks 0 wk (by have := HM.out; omega)).2.1
  have wB := fun (h : 1 < m) => (Fo.wf_at ks 1 wk (by have := HM.out; omega)).2.1
  have HS0 := Lib.hid (Fo.sizes_at ks 0)
  have HS1 := Lib.hid (Fo.sizes_at ks 1)
  have HSL := Lib.hid (show ks.sizes.length = m by rw [Fo.sizes_len, HM.out])
  have KS := Lib.hid (fun i (hi : i < m) => (show ∃ b o, p = some ⟨b, o, none⟩ ∧ b < lim ∧ W.cell? ⟨b, o + i * 3 + 1, none⟩ = some (.int .i64 (ks.sizes.getD i 0)) by rw [Fo.sizes_at]; exact hK.size hi))
  generalize ks.n 0 = A at *
  generalize ks.n 1 = B at *
  have Z := Lib.hid (show nodeB k n m A B = false from by unfold nodeB; rw [if_neg (by omega), if_neg (by omega), if_neg (by omega), if_neg (by omega), if_neg (by omega), if_neg (by omega), if_neg (by omega)])
  generalize nodeB k n m A B = z at *
  generalize ks.sizes = ys at *
  obtain ⟨w0, hw0, c0, c1, c2, hB, hsz⟩ := box3 W k n (.slice p m c) 24
  clear hK wk HM
  have hB0 : Below w0.heap.size w0 w0 := Below.refl _ _
  have HO0 := Owns.nil w0 w0.heap.size 3 .i64
  go_enter Tryz.func100, Tryz.ntmps100
  go_wp2_with fail
  rw [← hw0]
  clear hw0
  go_loopw [3, 4] (fun x y wr => ∃ i : Nat, i ≤ m ∧ y = .int .i64 i ∧ Hid (Owns wr w0.heap.size 3 .i64 x (upto ys i)) ∧ Hid (Below w0.heap.size w0 wr)) (fun _ y _ => m - (intOf y).toNat)
  case atStart => exact ⟨0, Nat.zero_le _, rfl, Lib.hid HO0, Lib.hid hB0⟩
  case round =>
    clear hB0 HO0
    obtain ⟨i, hi, rfl, HO, HB⟩ := hrel
    have hs := HB.out.size
    have x0 : W.heap.size < w0.heap.size := by omega
    have k0 := (HB.out.cell (p := ⟨W.heap.size, 0, none⟩) x0).trans c0
    have k1 := (HB.out.cell (p := ⟨W.heap.size, 1, none⟩) x0).trans c1
    have k2 := (HB.out.cell (p := ⟨W.heap.size, 2, none⟩) x0).trans c2
    by_cases hlt : i < m
    · obtain ⟨b, o, rfl, hb, hc⟩ := KS.out i hlt
      have k3 := (HB.out.cell (p := ⟨b, o + i * 3 + 1, none⟩) (by show b < w0.heap.size; omega)).trans ((hB.cell (p := ⟨b, o + i * 3 + 1, none⟩) (by show b < W.heap.size; omega)).trans hc)
      have dd : decide ((i : Int) < (m : Int)) = true := decide_eq_true (by omega)
      have HL := Lib.hid (upto_len ys i (by rw [HSL.out]; omega))
      have HN := Lib.hid (upto_snoc ys i (ys.getD i 0) (by rw [HSL.out]; omega) rfl)
      clear hc c0 c1 c2
      generalize ys.getD i 0 = y at *
      go_wp2_with (at_builtin; refine append_one Tryz.underlying37 info_i64 rfl _ _ rfl rfl HO.out rfl hs (by rw [HL.out]; omega) ?_; intro v' w' hO hb')
      go_roundw
      case rel => exact ⟨i + 1, by omega, by go_num, Lib.hid (by rw [← HN.out]; exact hO), Lib.hid (HB.out.trans (hb'.mono (by omega)))⟩
      case measure => (first | (simp [intOf]; done) | (simp [intOf]; omega) | (simp only [intOf]; omega))
    · obtain rfl : i = m := by omega
      have dd : decide ((i : Int) < (i : Int)) = false := decide_eq_false (by omega)
      have hBB := hB.trans (HB.out.mono hB.size)
      have HO2 := HO.out
      rw [upto_full ys i HSL.out] at HO2
      obtain ⟨q, cq, rfl, hrd, hq1, hq2⟩ := HO2.shape
      rw [HSL.out] at hq1 ⊢
      have RC := Lib.hid (fun j (hj : j < i) => (show ∃ b o, q = some ⟨b, o, none⟩ ∧ wr.cell? ⟨b, o + j, none⟩ = some (.int .i64 (ys.getD j 0)) by
        rcases hrd with h | ⟨b, o, e, _, h⟩
        · have := HSL.out; rw [h] at this; simp at this; omega
        · exact ⟨b, o, e, h j (by rw [HSL.out]; exact hj)⟩))
      clear HO HO2 hrd KS c0 c1 c2 HB hB
      have e1 : (k == 1) = false := by simp; omega
      have e2 : (k == 2) = false := by simp; omega
      have e3 : (k == 3) = false := by simp; omega
      have e4 : (k == 4) = false := by simp; omega
      have e5 : (k == 5) = false := by simp; omega
      have e6 : (k == 6) = false := by simp; omega
      have e7 : (k == 7) = false := by simp; omega
      go_wp2_with fail
      go_ret
      exact ⟨ret_bool Z.out.symm, by repeat (first | exact hBB | refine below_drewN ?_ _)⟩
theorem r14_node (k n : Int) (v : Value) (ks : Fo) (lim : Nat) (W : World) (wn : -9223372036854775808 ≤ n ∧ n ≤ 9223372036854775807) (hK : Kids W lim v ks) (hl : lim ≤ W.heap.size) (wk : ks.wf) (hm2 : ks.len ≤ 1048576) :
    Calls Tryz.prog 100 #[.agg #[.int .i64 k, .int .i64 n, v]] W fun e w' => e = .returned (.bool (nodeB k n ks.len (ks.n 0) (ks.n 1))) ∧ Below W.heap.size W w' := by
  obtain ⟨p, m, c, rfl, _, _, HM⟩ := hK.shape
  rw [← HM.out] at hm2 ⊢
  by_cases h : k = 1 ∨ k = 2 ∨ k = 3 ∨ k = 4 ∨ k = 5 ∨ k = 6 ∨ k = 7
  · rcases h with h | h | h | h | h | h | h
    · exact r14_node_1 k n m c p ks lim W wn hK hl wk hm2 h
    · exact r14_node_2 k n m c p ks lim W wn hK hl wk hm2 h
    · exact r14_node_3 k n m c p ks lim W wn hK hl wk hm2 h
    · exact r14_node_4 k n m c p ks lim W wn hK hl wk hm2 h
    · exact r14_node_5 k n m c p ks lim W wn hK hl wk hm2 h
    · exact r14_node_6 k n m c p ks lim W wn hK hl wk hm2 h
    · exact r14_node_7 k n m c p ks lim W wn hK hl wk hm2 h
  · exact r14_node_no k n m c p ks lim W wn hK hl wk hm2 h
end Go.Proofs.YtbhnlfgccldmaaaGreat
