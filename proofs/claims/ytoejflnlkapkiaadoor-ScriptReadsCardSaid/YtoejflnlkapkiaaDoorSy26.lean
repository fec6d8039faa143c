/- Put together by program (merge2.py): Rk3 Rk4 Rk5. -/
import Derived.Test.YtoejflnlkapkiaaDoorSy24
/- Reference 42's read: kind 3. By program (gensqg2.py). -/
namespace Go.Proofs.YtoejflnlkapkiaaDoor
open Go.ChangeShapes Go.WideShapes Go.ChangeAt Go.RowKit
set_option linter.unusedVariables false
set_option linter.unusedSimpArgs false
set_option maxRecDepth 100000 in
set_option maxHeartbeats 16000000 in
theorem r42_readKEY3 (v : Value) (f : List UInt8) (r : List (List UInt8)) (W : World) (h : RowS W v (f :: r)) (hn : r.length ≤ 900000) (hl : ∀ x ∈ r, x.length ≤ 1000000) (hkd : kdW f = 3) :
    Calls Tryd.prog 50 #[v] W (CallR (callN (f :: r)) W) := by
  have HKD := Lib.hid hkd
  clear hkd
  obtain ⟨p, c, rfl, hc, hx⟩ := h
  rcases hx with hx | ⟨gb, go, rfl, hgb, hcell⟩
  · cases hx
  have hf := hcell 0 f rfl
  rw [Nat.add_zero] at hf
  obtain ⟨w0, hw0, r0, hB0, hs0⟩ := boxG W #[.int .i64 0, .int .i64 0, .int .i64 0, .string ⟨#[]⟩, .int .i64 0, .int .i64 0, .slice none 0 0] 49
  obtain ⟨w1, hw1, r1, hB1, hs1⟩ := boxG w0 #[.int .i64 0, .int .i64 0, .int .i64 0, .string ⟨#[]⟩, .int .i64 0, .int .i64 0, .slice none 0 0] 49
  rw [hs0] at r1
  have BX := Lib.hid (show BxC W zeroCl (.slice none 0 0) w1 from ⟨(hB1.block _ (by omega)).trans r0, r1, by omega, hB0.trans (hB1.mono hB0.size)⟩)
  have HW1 := Lib.hid hw1
  obtain ⟨s, hs⟩ : ∃ s : ByteArray, ⟨f.toArray⟩ = s := ⟨_, rfl⟩
  rw [hs] at hf
  have HSF := Lib.hid (show s.data.toList = f by rw [← hs])
  have HF := Lib.hid (fun (w : World) (h : Below W.heap.size W w) => (h.cell (p := ⟨gb, go, none⟩) hgb).trans hf)
  have HN := Lib.hid hn
  have HL := Lib.hid hl
  have hlen : (f :: r).length = r.length + 1 := rfl
  rw [hlen] at hc ⊢
  have HCELL := Lib.hid hcell
  have HGB := Lib.hid hgb
  obtain ⟨n, hnr⟩ : ∃ n, r.length + 1 = n := ⟨_, rfl⟩
  have HNR := Lib.hid hnr
  rw [hnr] at hc ⊢
  have HC := Lib.hid hc
  have h1n : (1 : Int) ≤ (n : Int) := by omega
  have h0n : (0 : Int) < (n : Int) := by omega
  have h0nN : 0 < n := by omega
  clear hcell hn hl r0 r1 hf hB0 hB1 hlen hs hw1 hgb hnr
  go_enter Tryd.func50, Tryd.ntmps50
  go_upto_region 2 with fail
  rw [HW1.out]
  clear HW1 hw0 hs0 hs1
  go_wp2_with fail
  go_loopw [5] (fun j wr => ∃ q : Nat, j = .int .i64 (q : Int) ∧ Hid (1 ≤ q ∧ q ≤ 8) ∧ Hid (BxC W (oldCl (kdU f q)) (.slice none 0 0) wr)) (fun j _ => (8 - intOf j).toNat)
  case atStart => exact ⟨1, rfl, Lib.hid ⟨Nat.le_refl _, by decide⟩, Lib.hid (by rw [kdU_one]; exact BX.out)⟩
  case round =>
    obtain ⟨q, rfl, HQ, HB⟩ := hrel
    obtain ⟨x1, rfl⟩ : ∃ w, w = wr := ⟨_, rfl⟩
    by_cases hq7 : q ≤ 7
    · have HQ8 := Lib.hid (show q < 8 by omega)
      have hqi : (q : Int) ≤ 7 := by omega
      have hqi8 : (q : Int) < 8 := by omega
      have hq0 : (0 : Int) ≤ (q : Int) := by omega
      have HFx := Lib.hid (fun (w : World) (h : Below x1.heap.size x1 w) => HF.out w (HB.out.2.2.2.trans (h.mono HB.out.2.2.2.size)))
      have WK := Lib.hid (show wrap64 ((q : Int) + 1) = ((q + 1 : Nat) : Int) by simp only [wrap64]; omega)
      have HU := Lib.hid (show kdU f (q + 1) = if q ≠ 0 ∧ (wdK (q : Int)).data.toList = f then (q : Int) else kdU f q from rfl)
      clear hq7
      go_upto_region 5 with fail
      refine wp_region_held_drew (S := fun w' => Below x1.heap.size x1 w') (by kernel_rfl) (Below.refl _ _).drew (fun hHeld => ?_)
      refine wpAnyH_take (i := 1) (v := ?v1) rfl (by kernel_rfl) (by kernel_rfl) (by kernel_rfl) (fun _ _ _ h => h) (Or.inl ⟨by kernel_rfl, ?hy1⟩) (by assumption) ?rest1
      case hy1 => intro w hSw; (try dsimp only at hSw); go_simp; (first | done | with_reducible rfl)
      (try simp only [Act.put, List.getElem_toArray, List.getElem_cons_zero, List.getElem_cons_succ, List.setIfInBounds_toArray, List.set_cons_zero, List.set_cons_succ])
      refine wpAnyH_take (i := 4) (v := ?v2) rfl (by kernel_rfl) (by kernel_rfl) (by kernel_rfl) (fun _ _ _ h => h) (Or.inl ⟨by kernel_rfl, ?hy2⟩) (by assumption) ?rest2
      case hy2 => intro w hSw; (try dsimp only at hSw); go_simp; (first | done | with_reducible rfl)
      (try simp only [Act.put, List.getElem_toArray, List.getElem_cons_zero, List.getElem_cons_succ, List.setIfInBounds_toArray, List.set_cons_zero, List.set_cons_succ])
      refine wpAnyH_take (i := 5) (v := ?v3) rfl (by kernel_rfl) (by kernel_rfl) (by kernel_rfl) (fun _ _ _ h => h) (Or.inl ⟨by kernel_rfl, ?hy3⟩) (by assumption) ?rest3
      case hy3 => intro w hSw; (try dsimp only at hSw); go_simp; (first | done | with_reducible rfl)
      (try simp only [Act.put, List.getElem_toArray, List.getElem_cons_zero, List.getElem_cons_succ, List.setIfInBounds_toArray, List.set_cons_zero, List.set_cons_succ])
      refine wpAnyH_take (i := 6) (v := ?v4) rfl (by kernel_rfl) (by kernel_rfl) (by kernel_rfl) (fun _ _ _ h => h) (Or.inl ⟨by kernel_rfl, ?hy4⟩) (by assumption) ?rest4
      case hy4 => intro w hSw; (try dsimp only at hSw); have hq := HFx.out w hSw; go_simp; (first | done | with_reducible rfl)
      (try simp only [Act.put, List.getElem_toArray, List.getElem_cons_zero, List.getElem_cons_succ, List.setIfInBounds_toArray, List.set_cons_zero, List.set_cons_succ])
      refine wpAnyH_ready (rs := [0]) (by kernel_rfl) (by simp) ?_
      refine AllReadyH.cons rfl (fun K hK => ?_) AllReadyH.nil
      go_simp
      go_at_call 42
      with_reducible refine (r42_names _).mono ?_
      rintro e x2 ⟨rfl, hb2, hcl⟩
      (try go_wp2_with fail)
      refine hK.out _ _ (hHeld.trans (hb2.mono hHeld.size)) (fun hHeld2 => ?_)
      clear hK K hHeld
      have hHeld := hHeld2
      clear hHeld2
      (try simp only [Act.put, List.getElem_toArray, List.getElem_cons_zero, List.getElem_cons_succ, List.setIfInBounds_toArray, List.set_cons_zero, List.set_cons_succ])
      have hcq : x2.cell? ⟨x1.heap.size, q, none⟩ = some (.string (wdK (q : Int))) := hcl q (by have := HQ8.out; omega)
      have HB2 := Lib.hid hHeld
      clear hb2 hcl
      refine wpAnyH_take (i := 2) (v := ?v5) rfl (by kernel_rfl) (by kernel_rfl) (by kernel_rfl) (fun _ _ _ h => h) (Or.inl ⟨by kernel_rfl, ?hy5⟩) (by assumption) ?rest5
      case hy5 => intro w hSw; (try dsimp only at hSw); go_simp; (first | done | with_reducible rfl)
      (try simp only [Act.put, List.getElem_toArray, List.getElem_cons_zero, List.getElem_cons_succ, List.setIfInBounds_toArray, List.set_cons_zero, List.set_cons_succ])
      refine wpAnyH_ready (rs := [3]) (by kernel_rfl) (by simp) ?_
      refine AllReadyH.cons rfl (fun K hK => ?_) AllReadyH.nil
      go_simp
      refine hK.out _ _ hHeld (fun hHeld2 => ?_)
      clear hK K hHeld
      have hHeld := hHeld2
      clear hHeld2
      (try simp only [Act.put, List.getElem_toArray, List.getElem_cons_zero, List.getElem_cons_succ, List.setIfInBounds_toArray, List.set_cons_zero, List.set_cons_succ])
      refine wpAnyH_take (i := 7) (v := ?v6) rfl (by kernel_rfl) (by kernel_rfl) (by kernel_rfl) (fun _ _ _ h => h) (Or.inl ⟨by kernel_rfl, ?hy6⟩) (by assumption) ?rest6
      case hy6 => intro w hSw; (try dsimp only at hSw); go_simp; (first | done | with_reducible rfl)
      (try simp only [Act.put, List.getElem_toArray, List.getElem_cons_zero, List.getElem_cons_succ, List.setIfInBounds_toArray, List.set_cons_zero, List.set_cons_succ])
      refine wpAnyH_done (by kernel_rfl) ?_ _
      obtain ⟨K, hK⟩ : ∃ K, wdK (q : Int) = K := ⟨_, rfl⟩
      have HKK := Lib.hid hK
      rw [hK] at hcq ⊢
      have BX2 := Lib.hid (HB.out.below HB2.out)
      clear hK
      by_cases heq : K.data.toList = f
      · have hq1 : (K.toList == s.toList) = true := by
          rw [Lib.toList_data, Lib.toList_data, HSF.out]; simp [heq]
        have HU2 := Lib.hid (show kdU f (q + 1) = (q : Int) by rw [HU.out, if_pos ⟨by have := HQ.out; omega, by rw [HKK.out]; exact heq⟩])
        clear heq
        obtain ⟨m0, m1, m2, m3, m4, m5, m6⟩ := cells7 BX2.out.2.1
        obtain ⟨f0, f1, f2, f3, f4, f5, f6⟩ := frz7 BX2.out.2.1
        have BX3 := Lib.hid (show BxC W (oldCl (kdU f (q + 1))) (.slice none 0 0) (x2.setCell ⟨W.heap.size + 1, 0, none⟩ (.int .i64 q)) by rw [HU2.out]; exact BX2.out.kd q)
        rw [hq1]
        go_wp2_with fail
        go_roundw
        case rel => exact ⟨q + 1, by first | rw [WK.out] | simp, Lib.hid (by have := HQ.out; have := HQ8.out; omega), BX3⟩
        case measure => first | (rw [WK.out]; have := HQ8.out; simp only [intOf]; omega) | (have := HQ8.out; simp only [intOf]; omega)
      · have hq1 : (K.toList == s.toList) = false := by
          rw [Lib.toList_data, Lib.toList_data, HSF.out]; exact beq_eq_false_iff_ne.2 heq
        have BX3 := Lib.hid (show BxC W (oldCl (kdU f (q + 1))) (.slice none 0 0) x2 by rw [HU.out, if_neg (by rintro ⟨_, h⟩; rw [HKK.out] at h; exact heq h)]; exact BX2.out)
        clear heq
        rw [hq1]
        go_wp2_with fail
        go_roundw
        case rel => exact ⟨q + 1, by first | rw [WK.out] | simp, Lib.hid (by have := HQ.out; have := HQ8.out; omega), BX3⟩
        case measure => first | (rw [WK.out]; have := HQ8.out; simp only [intOf]; omega) | (have := HQ8.out; simp only [intOf]; omega)
    · have hq8 : q = 8 := by have := HQ.out; omega
      subst hq8
      have HBX := Lib.hid (show BxC W (oldCl (kdW f)) (.slice none 0 0) x1 from HB.out)
      have HCN := Lib.hid (show callN (f :: r) = kindN (kdW f) r from rfl)
      have h := HKD.out
      clear HB HQ
      rw [h] at HBX HCN
      clear h
      obtain ⟨m0, m1, m2, m3, m4, m5, m6⟩ := cells7 HBX.out.2.1
      obtain ⟨f0, f1, f2, f3, f4, f5, f6⟩ := frz7 HBX.out.2.1
      obtain ⟨n0, n1, n2, n3, n4, n5, n6⟩ := cells7 HBX.out.1
      obtain ⟨g0, g1, g2, g3, g4, g5, g6⟩ := frz7 HBX.out.1
      simp only [oldCl] at m0 m1 m2 m3 m4 m5 m6
      · by_cases h2 : r.length = 2
        · obtain ⟨x, y, rfl⟩ : ∃ x y, r = [x, y] := by
            match r, h2 with
            | [x, y], _ => exact ⟨x, y, rfl⟩
          have hn3 : n = 3 := by have := HNR.out; simpa using this.symm
          subst hn3
          have hc3 : 3 ≤ c := HC.out
          have hcc : ((3 : Nat) : Int) ≤ (c : Int) := by omega
          have hcc1 : (1 : Int) ≤ (c : Int) := by omega
          have hc1 : ¬ c = 1 := by omega
          have IC := Lib.hid (r42_numbers _ [x, y] x1 ((RowS.sub2 (xs := []) (by simpa using hc3) HGB.out HCELL.out).below HBX.out.2.2.2) (by simp) (fun z hz => Nat.le_trans (HL.out z hz) (by omega)))
          clear h2
          go_wp2_with fail
          refine IC.out.mono ?_
          rintro e x3 ⟨hi, hb3⟩
          have BX3 := Lib.hid (HBX.out.below hb3)
          clear hb3 m0 m1 m2 m3 m4 m5 m6 f0 f1 f2 f3 f4 f5 f6 n0 n1 n2 n3 n4 n5 n6 g0 g1 g2 g3 g4 g5 g6
          obtain ⟨m0, m1, m2, m3, m4, m5, m6⟩ := cells7 BX3.out.2.1
          obtain ⟨n0, n1, n2, n3, n4, n5, n6⟩ := cells7 BX3.out.1
          obtain ⟨g0, g1, g2, g3, g4, g5, g6⟩ := frz7 BX3.out.1
          simp only [oldCl] at m0 m1 m2 m3 m4 m5 m6
          rcases hi with ⟨vs, u, hv, rfl, ho⟩ | ⟨hv, rfl⟩
          · obtain ⟨a, b, rfl⟩ := numsW_two hv
            obtain ⟨qa, qc, rfl, hrd, -, -⟩ := ho.shape
            have HNO := Lib.hid (show callN [f, x, y] = some ⟨3, a, b, ⟨#[]⟩, 0, 0, []⟩ by
              rw [HCN.out]
              unfold kindN keyN
              rw [if_pos (by decide), hv])
            rcases hrd with hrd | ⟨bq, oq, rfl, hbq, hcq⟩
            · cases hrd
            have z0 := hcq 0 (by simp)
            have z1 := hcq 1 (by simp)
            simp only [List.getD_cons_zero, List.getD_cons_succ, Nat.add_zero] at z0 z1
            clear ho hv hcq hbq
            go_wp2_with fail
            go_still_tail 8, (by kernel_rfl)
            change wpList _ _ _ _ _ x3.drew
            obtain ⟨wd, hwd⟩ : ∃ wd, x3.drew = wd := ⟨_, rfl⟩
            have BXe := Lib.hid (show BxC W (oldCl 3) (.slice none 0 0) wd by rw [← hwd]; exact BX3.out.drew)
            have z0d : wd.cell? ⟨bq, oq, none⟩ = some (.int .i64 a) := by rw [← hwd]; exact z0
            have z1d : wd.cell? ⟨bq, oq + 1, none⟩ = some (.int .i64 b) := by rw [← hwd]; exact z1
            rw [hwd]
            clear hwd m0 m1 m2 m3 m4 m5 m6 n0 n1 n2 n3 n4 n5 n6 g0 g1 g2 g3 g4 g5 g6 z0 z1
            obtain ⟨f0, f1, f2, f3, f4, f5, f6⟩ := frz7 BXe.out.2.1
            obtain ⟨m0, m1, m2, m3, m4, m5, m6⟩ := cells7 BXe.out.2.1
            go_upto_region 22 with fail
            obtain ⟨w3, hw3⟩ : ∃ w3, ((wd.setCell ⟨W.heap.size + 1, 1, none⟩ (.int .i64 a)).setCell ⟨W.heap.size + 1, 2, none⟩ (.int .i64 b)) = w3 := ⟨_, rfl⟩
            have BXf := Lib.hid (show BxC W ⟨3, a, b, ⟨#[]⟩, 0, 0, []⟩ (.slice none 0 0) w3 by rw [← hw3]; exact (BXe.out.n1 a).d2 b)
            rw [hw3]
            clear hw3 m0 m1 m2 m3 m4 m5 m6 f0 f1 f2 f3 f4 f5 f6 z0d z1d
            obtain ⟨m0, m1, m2, m3, m4, m5, m6⟩ := cells7 BXf.out.2.1
            obtain ⟨n0, n1, n2, n3, n4, n5, n6⟩ := cells7 BXf.out.1
            obtain ⟨g0, g1, g2, g3, g4, g5, g6⟩ := frz7 BXf.out.1
            simp only at m0 m1 m2 m3 m4 m5 m6
            go_wp2_with fail
            refine call_ret2 (c := ⟨3, a, b, ⟨#[]⟩, 0, 0, []⟩) rfl _ _ W.heap.size (.slice none 0 0) true rfl rfl rfl (s7_row BXf.out.1) ?_
            exact CallR.goodC HNO.out rfl BXf.out
          · have HNO := Lib.hid (show callN [f, x, y] = none by
              rw [HCN.out]
              unfold kindN keyN
              rw [if_pos (by decide), hv])
            clear hv
            go_wp2_with fail
            refine call_ret2 (c := oldCl 3) rfl _ _ W.heap.size (.slice none 0 0) false rfl rfl rfl (s7_row BX3.out.1) ?_
            exact CallR.badC HNO.out BX3.out (oldCl 3) none 0 0
        · have HNO := Lib.hid (show callN (f :: r) = none by
            rw [HCN.out]
            unfold kindN
            rw [if_pos (by decide)]
            exact keyN_len h2)
          have hlg : (decide ((n : Int) < 3) = true) ∨ (decide ((n : Int) < 3) = false ∧ decide ((n : Int) > 3) = true ∧ decide ((3 : Int) < (n : Int)) = true) := by
            have := HNR.out
            by_cases hl3 : (n : Int) < 3
            · exact .inl (decide_eq_true hl3)
            · exact .inr ⟨decide_eq_false hl3, decide_eq_true (by omega), decide_eq_true (by omega)⟩
          clear h2
          rcases hlg with hl3 | ⟨hl3, hg3, hg3'⟩
          all_goals
            go_wp2_with fail
            refine call_ret2 (c := oldCl 3) rfl _ _ W.heap.size (.slice none 0 0) false rfl rfl rfl (s7_row HBX.out.1) ?_
            exact CallR.badC HNO.out HBX.out (oldCl 3) none 0 0
end Go.Proofs.YtoejflnlkapkiaaDoor
/- Reference 42's read: kind 4. By program (gensqg2.py). -/
namespace Go.Proofs.YtoejflnlkapkiaaDoor
open Go.ChangeShapes Go.WideShapes Go.ChangeAt Go.RowKit
set_option linter.unusedVariables false
set_option linter.unusedSimpArgs false
set_option maxRecDepth 100000 in
set_option maxHeartbeats 16000000 in
theorem r42_readTXT (v : Value) (f : List UInt8) (r : List (List UInt8)) (W : World) (h : RowS W v (f :: r)) (hn : r.length ≤ 900000) (hl : ∀ x ∈ r, x.length ≤ 1000000) (hkd : kdW f = 4) :
    Calls Tryd.prog 50 #[v] W (CallR (callN (f :: r)) W) := by
  have HKD := Lib.hid hkd
  clear hkd
  obtain ⟨p, c, rfl, hc, hx⟩ := h
  rcases hx with hx | ⟨gb, go, rfl, hgb, hcell⟩
  · cases hx
  have hf := hcell 0 f rfl
  rw [Nat.add_zero] at hf
  obtain ⟨w0, hw0, r0, hB0, hs0⟩ := boxG W #[.int .i64 0, .int .i64 0, .int .i64 0, .string ⟨#[]⟩, .int .i64 0, .int .i64 0, .slice none 0 0] 49
  obtain ⟨w1, hw1, r1, hB1, hs1⟩ := boxG w0 #[.int .i64 0, .int .i64 0, .int .i64 0, .string ⟨#[]⟩, .int .i64 0, .int .i64 0, .slice none 0 0] 49
  rw [hs0] at r1
  have BX := Lib.hid (show BxC W zeroCl (.slice none 0 0) w1 from ⟨(hB1.block _ (by omega)).trans r0, r1, by omega, hB0.trans (hB1.mono hB0.size)⟩)
  have HW1 := Lib.hid hw1
  obtain ⟨s, hs⟩ : ∃ s : ByteArray, ⟨f.toArray⟩ = s := ⟨_, rfl⟩
  rw [hs] at hf
  have HSF := Lib.hid (show s.data.toList = f by rw [← hs])
  have HF := Lib.hid (fun (w : World) (h : Below W.heap.size W w) => (h.cell (p := ⟨gb, go, none⟩) hgb).trans hf)
  have HN := Lib.hid hn
  have HL := Lib.hid hl
  have hlen : (f :: r).length = r.length + 1 := rfl
  rw [hlen] at hc ⊢
  have HCELL := Lib.hid hcell
  have HGB := Lib.hid hgb
  obtain ⟨n, hnr⟩ : ∃ n, r.length + 1 = n := ⟨_, rfl⟩
  have HNR := Lib.hid hnr
  rw [hnr] at hc ⊢
  have HC := Lib.hid hc
  have h1n : (1 : Int) ≤ (n : Int) := by omega
  have h0n : (0 : Int) < (n : Int) := by omega
  have h0nN : 0 < n := by omega
  clear hcell hn hl r0 r1 hf hB0 hB1 hlen hs hw1 hgb hnr
  go_enter Tryd.func50, Tryd.ntmps50
  go_upto_region 2 with fail
  rw [HW1.out]
  clear HW1 hw0 hs0 hs1
  go_wp2_with fail
  go_loopw [5] (fun j wr => ∃ q : Nat, j = .int .i64 (q : Int) ∧ Hid (1 ≤ q ∧ q ≤ 8) ∧ Hid (BxC W (oldCl (kdU f q)) (.slice none 0 0) wr)) (fun j _ => (8 - intOf j).toNat)
  case atStart => exact ⟨1, rfl, Lib.hid ⟨Nat.le_refl _, by decide⟩, Lib.hid (by rw [kdU_one]; exact BX.out)⟩
  case round =>
    obtain ⟨q, rfl, HQ, HB⟩ := hrel
    obtain ⟨x1, rfl⟩ : ∃ w, w = wr := ⟨_, rfl⟩
    by_cases hq7 : q ≤ 7
    · have HQ8 := Lib.hid (show q < 8 by omega)
      have hqi : (q : Int) ≤ 7 := by omega
      have hqi8 : (q : Int) < 8 := by omega
      have hq0 : (0 : Int) ≤ (q : Int) := by omega
      have HFx := Lib.hid (fun (w : World) (h : Below x1.heap.size x1 w) => HF.out w (HB.out.2.2.2.trans (h.mono HB.out.2.2.2.size)))
      have WK := Lib.hid (show wrap64 ((q : Int) + 1) = ((q + 1 : Nat) : Int) by simp only [wrap64]; omega)
      have HU := Lib.hid (show kdU f (q + 1) = if q ≠ 0 ∧ (wdK (q : Int)).data.toList = f then (q : Int) else kdU f q from rfl)
      clear hq7
      go_upto_region 5 with fail
      refine wp_region_held_drew (S := fun w' => Below x1.heap.size x1 w') (by kernel_rfl) (Below.refl _ _).drew (fun hHeld => ?_)
      refine wpAnyH_take (i := 1) (v := ?v1) rfl (by kernel_rfl) (by kernel_rfl) (by kernel_rfl) (fun _ _ _ h => h) (Or.inl ⟨by kernel_rfl, ?hy1⟩) (by assumption) ?rest1
      case hy1 => intro w hSw; (try dsimp only at hSw); go_simp; (first | done | with_reducible rfl)
      (try simp only [Act.put, List.getElem_toArray, List.getElem_cons_zero, List.getElem_cons_succ, List.setIfInBounds_toArray, List.set_cons_zero, List.set_cons_succ])
      refine wpAnyH_take (i := 4) (v := ?v2) rfl (by kernel_rfl) (by kernel_rfl) (by kernel_rfl) (fun _ _ _ h => h) (Or.inl ⟨by kernel_rfl, ?hy2⟩) (by assumption) ?rest2
      case hy2 => intro w hSw; (try dsimp only at hSw); go_simp; (first | done | with_reducible rfl)
      (try simp only [Act.put, List.getElem_toArray, List.getElem_cons_zero, List.getElem_cons_succ, List.setIfInBounds_toArray, List.set_cons_zero, List.set_cons_succ])
      refine wpAnyH_take (i := 5) (v := ?v3) rfl (by kernel_rfl) (by kernel_rfl) (by kernel_rfl) (fun _ _ _ h => h) (Or.inl ⟨by kernel_rfl, ?hy3⟩) (by assumption) ?rest3
      case hy3 => intro w hSw; (try dsimp only at hSw); go_simp; (first | done | with_reducible rfl)
      (try simp only [Act.put, List.getElem_toArray, List.getElem_cons_zero, List.getElem_cons_succ, List.setIfInBounds_toArray, List.set_cons_zero, List.set_cons_succ])
      refine wpAnyH_take (i := 6) (v := ?v4) rfl (by kernel_rfl) (by kernel_rfl) (by kernel_rfl) (fun _ _ _ h => h) (Or.inl ⟨by kernel_rfl, ?hy4⟩) (by assumption) ?rest4
      case hy4 => intro w hSw; (try dsimp only at hSw); have hq := HFx.out w hSw; go_simp; (first | done | with_reducible rfl)
      (try simp only [Act.put, List.getElem_toArray, List.getElem_cons_zero, List.getElem_cons_succ, List.setIfInBounds_toArray, List.set_cons_zero, List.set_cons_succ])
      refine wpAnyH_ready (rs := [0]) (by kernel_rfl) (by simp) ?_
      refine AllReadyH.cons rfl (fun K hK => ?_) AllReadyH.nil
      go_simp
      go_at_call 42
      with_reducible refine (r42_names _).mono ?_
      rintro e x2 ⟨rfl, hb2, hcl⟩
      (try go_wp2_with fail)
      refine hK.out _ _ (hHeld.trans (hb2.mono hHeld.size)) (fun hHeld2 => ?_)
      clear hK K hHeld
      have hHeld := hHeld2
      clear hHeld2
      (try simp only [Act.put, List.getElem_toArray, List.getElem_cons_zero, List.getElem_cons_succ, List.setIfInBounds_toArray, List.set_cons_zero, List.set_cons_succ])
      have hcq : x2.cell? ⟨x1.heap.size, q, none⟩ = some (.string (wdK (q : Int))) := hcl q (by have := HQ8.out; omega)
      have HB2 := Lib.hid hHeld
      clear hb2 hcl
      refine wpAnyH_take (i := 2) (v := ?v5) rfl (by kernel_rfl) (by kernel_rfl) (by kernel_rfl) (fun _ _ _ h => h) (Or.inl ⟨by kernel_rfl, ?hy5⟩) (by assumption) ?rest5
      case hy5 => intro w hSw; (try dsimp only at hSw); go_simp; (first | done | with_reducible rfl)
      (try simp only [Act.put, List.getElem_toArray, List.getElem_cons_zero, List.getElem_cons_succ, List.setIfInBounds_toArray, List.set_cons_zero, List.set_cons_succ])
      refine wpAnyH_ready (rs := [3]) (by kernel_rfl) (by simp) ?_
      refine AllReadyH.cons rfl (fun K hK => ?_) AllReadyH.nil
      go_simp
      refine hK.out _ _ hHeld (fun hHeld2 => ?_)
      clear hK K hHeld
      have hHeld := hHeld2
      clear hHeld2
      (try simp only [Act.put, List.getElem_toArray, List.getElem_cons_zero, List.getElem_cons_succ, List.setIfInBounds_toArray, List.set_cons_zero, List.set_cons_succ])
      refine wpAnyH_take (i := 7) (v := ?v6) rfl (by kernel_rfl) (by kernel_rfl) (by kernel_rfl) (fun _ _ _ h => h) (Or.inl ⟨by kernel_rfl, ?hy6⟩) (by assumption) ?rest6
      case hy6 => intro w hSw; (try dsimp only at hSw); go_simp; (first | done | with_reducible rfl)
      (try simp only [Act.put, List.getElem_toArray, List.getElem_cons_zero, List.getElem_cons_succ, List.setIfInBounds_toArray, List.set_cons_zero, List.set_cons_succ])
      refine wpAnyH_done (by kernel_rfl) ?_ _
      obtain ⟨K, hK⟩ : ∃ K, wdK (q : Int) = K := ⟨_, rfl⟩
      have HKK := Lib.hid hK
      rw [hK] at hcq ⊢
      have BX2 := Lib.hid (HB.out.below HB2.out)
      clear hK
      by_cases heq : K.data.toList = f
      · have hq1 : (K.toList == s.toList) = true := by
          rw [Lib.toList_data, Lib.toList_data, HSF.out]; simp [heq]
        have HU2 := Lib.hid (show kdU f (q + 1) = (q : Int) by rw [HU.out, if_pos ⟨by have := HQ.out; omega, by rw [HKK.out]; exact heq⟩])
        clear heq
        obtain ⟨m0, m1, m2, m3, m4, m5, m6⟩ := cells7 BX2.out.2.1
        obtain ⟨f0, f1, f2, f3, f4, f5, f6⟩ := frz7 BX2.out.2.1
        have BX3 := Lib.hid (show BxC W (oldCl (kdU f (q + 1))) (.slice none 0 0) (x2.setCell ⟨W.heap.size + 1, 0, none⟩ (.int .i64 q)) by rw [HU2.out]; exact BX2.out.kd q)
        rw [hq1]
        go_wp2_with fail
        go_roundw
        case rel => exact ⟨q + 1, by first | rw [WK.out] | simp, Lib.hid (by have := HQ.out; have := HQ8.out; omega), BX3⟩
        case measure => first | (rw [WK.out]; have := HQ8.out; simp only [intOf]; omega) | (have := HQ8.out; simp only [intOf]; omega)
      · have hq1 : (K.toList == s.toList) = false := by
          rw [Lib.toList_data, Lib.toList_data, HSF.out]; exact beq_eq_false_iff_ne.2 heq
        have BX3 := Lib.hid (show BxC W (oldCl (kdU f (q + 1))) (.slice none 0 0) x2 by rw [HU.out, if_neg (by rintro ⟨_, h⟩; rw [HKK.out] at h; exact heq h)]; exact BX2.out)
        clear heq
        rw [hq1]
        go_wp2_with fail
        go_roundw
        case rel => exact ⟨q + 1, by first | rw [WK.out] | simp, Lib.hid (by have := HQ.out; have := HQ8.out; omega), BX3⟩
        case measure => first | (rw [WK.out]; have := HQ8.out; simp only [intOf]; omega) | (have := HQ8.out; simp only [intOf]; omega)
    · have hq8 : q = 8 := by have := HQ.out; omega
      subst hq8
      have HBX := Lib.hid (show BxC W (oldCl (kdW f)) (.slice none 0 0) x1 from HB.out)
      have HCN := Lib.hid (show callN (f :: r) = kindN (kdW f) r from rfl)
      have h := HKD.out
      clear HB HQ
      rw [h] at HBX HCN
      clear h
      obtain ⟨m0, m1, m2, m3, m4, m5, m6⟩ := cells7 HBX.out.2.1
      obtain ⟨f0, f1, f2, f3, f4, f5, f6⟩ := frz7 HBX.out.2.1
      obtain ⟨n0, n1, n2, n3, n4, n5, n6⟩ := cells7 HBX.out.1
      obtain ⟨g0, g1, g2, g3, g4, g5, g6⟩ := frz7 HBX.out.1
      simp only [oldCl] at m0 m1 m2 m3 m4 m5 m6
      · by_cases hr : r = []
        · subst hr
          have hn1 : n = 1 := by have := HNR.out; simpa using this.symm
          subst hn1
          have HNO := Lib.hid (show callN [f] = some (oldCl 4) from HCN.out)
          go_wp2_with fail
          refine call_ret2 (c := oldCl 4) rfl _ _ W.heap.size (.slice none 0 0) true rfl rfl rfl (s7_row HBX.out.1) ?_
          exact CallR.goodC HNO.out rfl HBX.out
        · obtain ⟨x, r, rfl⟩ : ∃ x r', r = x :: r' := by
            match r, hr with
            | x :: r', _ => exact ⟨x, r', rfl⟩
            | [], h => exact absurd rfl h
          have hn2 : n = r.length + 2 := by have := HNR.out; simpa using this.symm
          have hq1 : ((n : Int) == 1) = false := by simp; omega
          have h1lt : (1 : Int) < (n : Int) := by omega
          have hcx := (HBX.out.2.2.2.cell (p := ⟨gb, go + 1, none⟩) HGB.out).trans (HCELL.out 1 x rfl)
          have UN := Lib.hid (r42_unhex ⟨x.toArray⟩ (by have := HL.out x (by simp); simp [ByteArray.size]; omega) x1)
          obtain ⟨B2, hB2⟩ : ∃ B2, ((n : Int) == 2) = B2 := ⟨_, rfl⟩
          have HB2 := Lib.hid (show B2 = decide (r = []) by
            rw [← hB2]
            by_cases hr2 : r = []
            · subst hr2; subst hn2; rfl
            · have : r.length ≠ 0 := fun h => hr2 (List.length_eq_zero_iff.1 h)
              rw [decide_eq_false hr2]; simp; omega)
          clear hr hn2
          go_wp2_with fail
          refine UN.out.mono ?_
          rintro e x3 ⟨rfl, hb3⟩
          have BX3 := Lib.hid (HBX.out.below hb3)
          clear hb3 m0 m1 m2 m3 m4 m5 m6 f0 f1 f2 f3 f4 f5 f6 n0 n1 n2 n3 n4 n5 n6 g0 g1 g2 g3 g4 g5 g6
          obtain ⟨t, ht⟩ : ∃ t : ByteArray, unS ⟨x.toArray⟩ = t := ⟨_, rfl⟩
          obtain ⟨ok, hok⟩ : ∃ ok, (unB (⟨x.toArray⟩ : ByteArray).data.toList).isSome = ok := ⟨_, rfl⟩
          have HNO := Lib.hid (show callN (f :: x :: r) = if (if ok then B2 else false) then some ⟨4, 0, 0, t, 0, 0, []⟩ else none by
            rw [HCN.out, HB2.out, ← ht, ← hok]
            show txtN (x :: r) = _
            unfold unS
            have e : (⟨x.toArray⟩ : ByteArray).data.toList = x := rfl
            rw [e]
            match r with
            | [] => show (unB x).map _ = _; cases unB x <;> rfl
            | y :: r' => show none = _; cases unB x <;> rfl)
          rw [ht, hok]
          clear ht hok
          obtain ⟨m0, m1, m2, m3, m4, m5, m6⟩ := cells7 BX3.out.2.1
          obtain ⟨f0, f1, f2, f3, f4, f5, f6⟩ := frz7 BX3.out.2.1
          go_upto_region 14 with fail
          obtain ⟨w3, hw3⟩ : ∃ w3, (x3.setCell ⟨W.heap.size + 1, 3, none⟩ (.string t)) = w3 := ⟨_, rfl⟩
          have BXf := Lib.hid (show BxC W ⟨4, 0, 0, t, 0, 0, []⟩ (.slice none 0 0) w3 by rw [← hw3]; exact BX3.out.s3 t)
          rw [hw3]
          clear hw3 m0 m1 m2 m3 m4 m5 m6 f0 f1 f2 f3 f4 f5 f6
          obtain ⟨m0, m1, m2, m3, m4, m5, m6⟩ := cells7 BXf.out.2.1
          obtain ⟨n0, n1, n2, n3, n4, n5, n6⟩ := cells7 BXf.out.1
          obtain ⟨g0, g1, g2, g3, g4, g5, g6⟩ := frz7 BXf.out.1
          simp only at m0 m1 m2 m3 m4 m5 m6
          cases ok
          all_goals
            go_wp2_with fail
            refine call_ret2 (c := ⟨4, 0, 0, t, 0, 0, []⟩) (b := _) rfl _ _ W.heap.size (.slice none 0 0) rfl rfl rfl (s7_row BXf.out.1) ?_
            refine CallR.bool ?_ rfl BXf.out
            first | exact HNO.out | (rw [HNO.out]; simp [hB2]; done) | (rw [HNO.out, ← hB2]; rfl)
end Go.Proofs.YtoejflnlkapkiaaDoor
/- Reference 42's read: kind 5. By program (gensqg2.py). -/
namespace Go.Proofs.YtoejflnlkapkiaaDoor
open Go.ChangeShapes Go.WideShapes Go.ChangeAt Go.RowKit
set_option linter.unusedVariables false
set_option linter.unusedSimpArgs false
set_option maxRecDepth 100000 in
set_option maxHeartbeats 16000000 in
theorem r42_readF (v : Value) (f : List UInt8) (r : List (List UInt8)) (W : World) (h : RowS W v (f :: r)) (hn : r.length ≤ 900000) (hl : ∀ x ∈ r, x.length ≤ 1000000) (hkd : kdW f = 5) :
    Calls Tryd.prog 50 #[v] W (CallR (callN (f :: r)) W) := by
  have HKD := Lib.hid hkd
  clear hkd
  obtain ⟨p, c, rfl, hc, hx⟩ := h
  rcases hx with hx | ⟨gb, go, rfl, hgb, hcell⟩
  · cases hx
  have hf := hcell 0 f rfl
  rw [Nat.add_zero] at hf
  obtain ⟨w0, hw0, r0, hB0, hs0⟩ := boxG W #[.int .i64 0, .int .i64 0, .int .i64 0, .string ⟨#[]⟩, .int .i64 0, .int .i64 0, .slice none 0 0] 49
  obtain ⟨w1, hw1, r1, hB1, hs1⟩ := boxG w0 #[.int .i64 0, .int .i64 0, .int .i64 0, .string ⟨#[]⟩, .int .i64 0, .int .i64 0, .slice none 0 0] 49
  rw [hs0] at r1
  have BX := Lib.hid (show BxC W zeroCl (.slice none 0 0) w1 from ⟨(hB1.block _ (by omega)).trans r0, r1, by omega, hB0.trans (hB1.mono hB0.size)⟩)
  have HW1 := Lib.hid hw1
  obtain ⟨s, hs⟩ : ∃ s : ByteArray, ⟨f.toArray⟩ = s := ⟨_, rfl⟩
  rw [hs] at hf
  have HSF := Lib.hid (show s.data.toList = f by rw [← hs])
  have HF := Lib.hid (fun (w : World) (h : Below W.heap.size W w) => (h.cell (p := ⟨gb, go, none⟩) hgb).trans hf)
  have HN := Lib.hid hn
  have HL := Lib.hid hl
  have hlen : (f :: r).length = r.length + 1 := rfl
  rw [hlen] at hc ⊢
  have HCELL := Lib.hid hcell
  have HGB := Lib.hid hgb
  obtain ⟨n, hnr⟩ : ∃ n, r.length + 1 = n := ⟨_, rfl⟩
  have HNR := Lib.hid hnr
  rw [hnr] at hc ⊢
  have HC := Lib.hid hc
  have h1n : (1 : Int) ≤ (n : Int) := by omega
  have h0n : (0 : Int) < (n : Int) := by omega
  have h0nN : 0 < n := by omega
  clear hcell hn hl r0 r1 hf hB0 hB1 hlen hs hw1 hgb hnr
  go_enter Tryd.func50, Tryd.ntmps50
  go_upto_region 2 with fail
  rw [HW1.out]
  clear HW1 hw0 hs0 hs1
  go_wp2_with fail
  go_loopw [5] (fun j wr => ∃ q : Nat, j = .int .i64 (q : Int) ∧ Hid (1 ≤ q ∧ q ≤ 8) ∧ Hid (BxC W (oldCl (kdU f q)) (.slice none 0 0) wr)) (fun j _ => (8 - intOf j).toNat)
  case atStart => exact ⟨1, rfl, Lib.hid ⟨Nat.le_refl _, by decide⟩, Lib.hid (by rw [kdU_one]; exact BX.out)⟩
  case round =>
    obtain ⟨q, rfl, HQ, HB⟩ := hrel
    obtain ⟨x1, rfl⟩ : ∃ w, w = wr := ⟨_, rfl⟩
    by_cases hq7 : q ≤ 7
    · have HQ8 := Lib.hid (show q < 8 by omega)
      have hqi : (q : Int) ≤ 7 := by omega
      have hqi8 : (q : Int) < 8 := by omega
      have hq0 : (0 : Int) ≤ (q : Int) := by omega
      have HFx := Lib.hid (fun (w : World) (h : Below x1.heap.size x1 w) => HF.out w (HB.out.2.2.2.trans (h.mono HB.out.2.2.2.size)))
      have WK := Lib.hid (show wrap64 ((q : Int) + 1) = ((q + 1 : Nat) : Int) by simp only [wrap64]; omega)
      have HU := Lib.hid (show kdU f (q + 1) = if q ≠ 0 ∧ (wdK (q : Int)).data.toList = f then (q : Int) else kdU f q from rfl)
      clear hq7
      go_upto_region 5 with fail
      refine wp_region_held_drew (S := fun w' => Below x1.heap.size x1 w') (by kernel_rfl) (Below.refl _ _).drew (fun hHeld => ?_)
      refine wpAnyH_take (i := 1) (v := ?v1) rfl (by kernel_rfl) (by kernel_rfl) (by kernel_rfl) (fun _ _ _ h => h) (Or.inl ⟨by kernel_rfl, ?hy1⟩) (by assumption) ?rest1
      case hy1 => intro w hSw; (try dsimp only at hSw); go_simp; (first | done | with_reducible rfl)
      (try simp only [Act.put, List.getElem_toArray, List.getElem_cons_zero, List.getElem_cons_succ, List.setIfInBounds_toArray, List.set_cons_zero, List.set_cons_succ])
      refine wpAnyH_take (i := 4) (v := ?v2) rfl (by kernel_rfl) (by kernel_rfl) (by kernel_rfl) (fun _ _ _ h => h) (Or.inl ⟨by kernel_rfl, ?hy2⟩) (by assumption) ?rest2
      case hy2 => intro w hSw; (try dsimp only at hSw); go_simp; (first | done | with_reducible rfl)
      (try simp only [Act.put, List.getElem_toArray, List.getElem_cons_zero, List.getElem_cons_succ, List.setIfInBounds_toArray, List.set_cons_zero, List.set_cons_succ])
      refine wpAnyH_take (i := 5) (v := ?v3) rfl (by kernel_rfl) (by kernel_rfl) (by kernel_rfl) (fun _ _ _ h => h) (Or.inl ⟨by kernel_rfl, ?hy3⟩) (by assumption) ?rest3
      case hy3 => intro w hSw; (try dsimp only at hSw); go_simp; (first | done | with_reducible rfl)
      (try simp only [Act.put, List.getElem_toArray, List.getElem_cons_zero, List.getElem_cons_succ, List.setIfInBounds_toArray, List.set_cons_zero, List.set_cons_succ])
      refine wpAnyH_take (i := 6) (v := ?v4) rfl (by kernel_rfl) (by kernel_rfl) (by kernel_rfl) (fun _ _ _ h => h) (Or.inl ⟨by kernel_rfl, ?hy4⟩) (by assumption) ?rest4
      case hy4 => intro w hSw; (try dsimp only at hSw); have hq := HFx.out w hSw; go_simp; (first | done | with_reducible rfl)
      (try simp only [Act.put, List.getElem_toArray, List.getElem_cons_zero, List.getElem_cons_succ, List.setIfInBounds_toArray, List.set_cons_zero, List.set_cons_succ])
      refine wpAnyH_ready (rs := [0]) (by kernel_rfl) (by simp) ?_
      refine AllReadyH.cons rfl (fun K hK => ?_) AllReadyH.nil
      go_simp
      go_at_call 42
      with_reducible refine (r42_names _).mono ?_
      rintro e x2 ⟨rfl, hb2, hcl⟩
      (try go_wp2_with fail)
      refine hK.out _ _ (hHeld.trans (hb2.mono hHeld.size)) (fun hHeld2 => ?_)
      clear hK K hHeld
      have hHeld := hHeld2
      clear hHeld2
      (try simp only [Act.put, List.getElem_toArray, List.getElem_cons_zero, List.getElem_cons_succ, List.setIfInBounds_toArray, List.set_cons_zero, List.set_cons_succ])
      have hcq : x2.cell? ⟨x1.heap.size, q, none⟩ = some (.string (wdK (q : Int))) := hcl q (by have := HQ8.out; omega)
      have HB2 := Lib.hid hHeld
      clear hb2 hcl
      refine wpAnyH_take (i := 2) (v := ?v5) rfl (by kernel_rfl) (by kernel_rfl) (by kernel_rfl) (fun _ _ _ h => h) (Or.inl ⟨by kernel_rfl, ?hy5⟩) (by assumption) ?rest5
      case hy5 => intro w hSw; (try dsimp only at hSw); go_simp; (first | done | with_reducible rfl)
      (try simp only [Act.put, List.getElem_toArray, List.getElem_cons_zero, List.getElem_cons_succ, List.setIfInBounds_toArray, List.set_cons_zero, List.set_cons_succ])
      refine wpAnyH_ready (rs := [3]) (by kernel_rfl) (by simp) ?_
      refine AllReadyH.cons rfl (fun K hK => ?_) AllReadyH.nil
      go_simp
      refine hK.out _ _ hHeld (fun hHeld2 => ?_)
      clear hK K hHeld
      have hHeld := hHeld2
      clear hHeld2
      (try simp only [Act.put, List.getElem_toArray, List.getElem_cons_zero, List.getElem_cons_succ, List.setIfInBounds_toArray, List.set_cons_zero, List.set_cons_succ])
      refine wpAnyH_take (i := 7) (v := ?v6) rfl (by kernel_rfl) (by kernel_rfl) (by kernel_rfl) (fun _ _ _ h => h) (Or.inl ⟨by kernel_rfl, ?hy6⟩) (by assumption) ?rest6
      case hy6 => intro w hSw; (try dsimp only at hSw); go_simp; (first | done | with_reducible rfl)
      (try simp only [Act.put, List.getElem_toArray, List.getElem_cons_zero, List.getElem_cons_succ, List.setIfInBounds_toArray, List.set_cons_zero, List.set_cons_succ])
      refine wpAnyH_done (by kernel_rfl) ?_ _
      obtain ⟨K, hK⟩ : ∃ K, wdK (q : Int) = K := ⟨_, rfl⟩
      have HKK := Lib.hid hK
      rw [hK] at hcq ⊢
      have BX2 := Lib.hid (HB.out.below HB2.out)
      clear hK
      by_cases heq : K.data.toList = f
      · have hq1 : (K.toList == s.toList) = true := by
          rw [Lib.toList_data, Lib.toList_data, HSF.out]; simp [heq]
        have HU2 := Lib.hid (show kdU f (q + 1) = (q : Int) by rw [HU.out, if_pos ⟨by have := HQ.out; omega, by rw [HKK.out]; exact heq⟩])
        clear heq
        obtain ⟨m0, m1, m2, m3, m4, m5, m6⟩ := cells7 BX2.out.2.1
        obtain ⟨f0, f1, f2, f3, f4, f5, f6⟩ := frz7 BX2.out.2.1
        have BX3 := Lib.hid (show BxC W (oldCl (kdU f (q + 1))) (.slice none 0 0) (x2.setCell ⟨W.heap.size + 1, 0, none⟩ (.int .i64 q)) by rw [HU2.out]; exact BX2.out.kd q)
        rw [hq1]
        go_wp2_with fail
        go_roundw
        case rel => exact ⟨q + 1, by first | rw [WK.out] | simp, Lib.hid (by have := HQ.out; have := HQ8.out; omega), BX3⟩
        case measure => first | (rw [WK.out]; have := HQ8.out; simp only [intOf]; omega) | (have := HQ8.out; simp only [intOf]; omega)
      · have hq1 : (K.toList == s.toList) = false := by
          rw [Lib.toList_data, Lib.toList_data, HSF.out]; exact beq_eq_false_iff_ne.2 heq
        have BX3 := Lib.hid (show BxC W (oldCl (kdU f (q + 1))) (.slice none 0 0) x2 by rw [HU.out, if_neg (by rintro ⟨_, h⟩; rw [HKK.out] at h; exact heq h)]; exact BX2.out)
        clear heq
        rw [hq1]
        go_wp2_with fail
        go_roundw
        case rel => exact ⟨q + 1, by first | rw [WK.out] | simp, Lib.hid (by have := HQ.out; have := HQ8.out; omega), BX3⟩
        case measure => first | (rw [WK.out]; have := HQ8.out; simp only [intOf]; omega) | (have := HQ8.out; simp only [intOf]; omega)
    · have hq8 : q = 8 := by have := HQ.out; omega
      subst hq8
      have HBX := Lib.hid (show BxC W (oldCl (kdW f)) (.slice none 0 0) x1 from HB.out)
      have HCN := Lib.hid (show callN (f :: r) = kindN (kdW f) r from rfl)
      have h := HKD.out
      clear HB HQ
      rw [h] at HBX HCN
      clear h
      obtain ⟨m0, m1, m2, m3, m4, m5, m6⟩ := cells7 HBX.out.2.1
      obtain ⟨f0, f1, f2, f3, f4, f5, f6⟩ := frz7 HBX.out.2.1
      obtain ⟨n0, n1, n2, n3, n4, n5, n6⟩ := cells7 HBX.out.1
      obtain ⟨g0, g1, g2, g3, g4, g5, g6⟩ := frz7 HBX.out.1
      simp only [oldCl] at m0 m1 m2 m3 m4 m5 m6
      · have HNO := Lib.hid (show callN (f :: r) = if ((n : Int) == 1) then some (oldCl 5) else none from by
          rw [HCN.out]
          show (if r = [] then _ else none) = _
          have hnr := HNR.out
          by_cases hr : r = []
          · subst hr
            have hn1 : n = 1 := by simpa using hnr.symm
            subst hn1
            rfl
          · have h0 : r.length ≠ 0 := fun h => hr (List.length_eq_zero_iff.1 h)
            have hq : ((n : Int) == 1) = false := by simp; omega
            rw [if_neg hr, hq]; rfl)
        go_wp2_with fail
        refine call_ret2 (c := oldCl 5) (b := ((n : Int) == 1)) rfl _ _ W.heap.size (.slice none 0 0) rfl (by first | rfl | simp) rfl (s7_row HBX.out.1) ?_
        exact CallR.bool HNO.out rfl HBX.out
end Go.Proofs.YtoejflnlkapkiaaDoor
