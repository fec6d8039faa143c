/- PermRounds: for every two rows of numbers: the rounds of the first, its sign, and the sign of both one behind the other. -/
import Derived.Test.YtblohakflpedoaaPln
import Derived.Test.YtblohakflpedoaaPturn
import Derived.Test.YtblohakflpedoaaPerm4
import Derived.BigQuiet
namespace Go.Proofs.Ytblohakflpedoaa
open Go.ChangeShapes Go.WideShapes Go.ChangeAt Go.RowKit
set_option linter.unusedVariables false
set_option linter.unusedSimpArgs false
namespace permRounds
set_option maxRecDepth 100000 in
theorem far (W : World) (a0 a1 : Option Addr) (n m c0 c1 : Nat) (h : 60 < n ∨ 60 < m) :
    Calls Try.prog 3 #[.slice a0 n c0, .slice a1 m c1] W fun e W' => e = .returned (.bool true) ∧ Below W.heap.size W W' := by
  by_cases h1 : 60 < n
  · clear h
    have g0 : decide (60 < (n : Int)) = true := decide_eq_true (by omega)
    go_enter Try.func3, Try.ntmps3
    go_wp2_with fail
    refine (live8 _).mono ?_
    rintro e w1 ⟨rfl, b1⟩
    go_wp2_with fail
    go_ret
    exact ⟨rfl, b1⟩
  have h2 : 60 < m := by omega
  · clear h
    have g0 : decide (60 < (n : Int)) = false := decide_eq_false (by omega)
    have g1 : decide (60 < (m : Int)) = true := decide_eq_true (by omega)
    go_enter Try.func3, Try.ntmps3
    go_wp2_with fail
    refine (live8 _).mono ?_
    rintro e w1 ⟨rfl, b1⟩
    go_wp2_with fail
    go_ret
    exact ⟨rfl, b1⟩
set_option maxRecDepth 100000 in
theorem refuses (W : World) (a0 a1 : Option Addr) (n m c0 c1 : Nat) (ps : List Int) (hp : RowI W a0 n ps) (hn : n ≤ 60) (hm : m ≤ 60) (hg : rgt ps n n = false) :
    Calls Try.prog 3 #[.slice a0 n c0, .slice a1 m c1] W fun e W' => e = .returned (.bool true) ∧ Below W.heap.size W W' := by
  have g0 : decide (60 < (n : Int)) = false := decide_eq_false (by omega)
  have g1 : decide (60 < (m : Int)) = false := decide_eq_false (by omega)
  have CY := Lib.hid (fun w h => c_cycles_bad a0 n c0 ps w h hg)
  have SG := Lib.hid (fun w h => c_sign_bad a0 n c0 ps w h hg)
  have R8 := fun w h => r8_right a0 n c0 ps w h
  rw [hg] at R8
  have R8 := Lib.hid R8
  have R1 := Lib.hid hp
  have hB : Below W.heap.size W W := Below.refl _ _
  clear hp hg
  go_enter Try.func3, Try.ntmps3
  go_wp2_with fail
  refine (CY.out _ R1.out).mono ?_
  rintro e w1 ⟨rfl, b1⟩
  have R1 := Lib.hid (R1.out.below b1); have hB := hB.trans (b1.mono hB.size); clear b1
  go_wp2_with fail
  refine (R8.out _ R1.out).mono ?_
  rintro e w1 ⟨rfl, rfl⟩
  go_wp2_with fail
  refine (SG.out _ R1.out).mono ?_
  rintro e w1 ⟨rfl, b1⟩
  have hB := hB.trans (b1.mono hB.size); clear b1
  go_wp2_with fail
  refine (live8 _).mono ?_
  rintro e w1 ⟨rfl, b1⟩
  have hB := hB.trans (b1.mono hB.size); clear b1
  go_wp2_with fail
  go_ret
  exact ⟨rfl, hB⟩
theorem par_two (T : Nat) : (T : Int).tmod 2 = 0 ∧ (1 - 2 * ((T % 2 : Nat) : Int)) = 1 ∨ (T : Int).tmod 2 = 1 ∧ (1 - 2 * ((T % 2 : Nat) : Int)) = -1 := by
  have h : (T : Int).tmod 2 = ((T % 2 : Nat) : Int) := by rw [show (2 : Int) = ((2 : Nat) : Int) from rfl, ← Int.ofNat_tmod]
  rw [h]; omega
set_option maxRecDepth 100000 in
set_option maxHeartbeats 8000000 in
theorem main (W : World) (a0 a1 : Option Addr) (n m c0 c1 : Nat) (ps qs : List Int) (hp : RowI W a0 n ps) (hq : RowI W a1 m qs) (hn : n ≤ 60) (hm : m ≤ 60) (hg : rgt ps n n = true) :
    Calls Try.prog 3 #[.slice a0 n c0, .slice a1 m c1] W fun e W' => e = .returned (.bool true) ∧ Below W.heap.size W W' := by
  have g0 : decide (60 < (n : Int)) = false := decide_eq_false (by omega)
  have g1 : decide (60 < (m : Int)) = false := decide_eq_false (by omega)
  have hmk := make_i64 n (by omega)
  have CY := Lib.hid (fun w h => c_cycles a0 n c0 ps w h (by omega) hg (pfN ps) (pfN_at h hg) (pfN_lt hg) (pfN_inj hg))
  have SP := Lib.hid (fun w h => s_sign a0 n c0 ps w h (by omega) hg)
  have TU := Lib.hid (fun w h => r8_turns a0 n c0 ps w h (by omega))
  have AF := Lib.hid (fun w h k => perm_after a0 a1 n m c0 c1 ps qs w h k hg)
  have R8 := fun w h => r8_right a0 n c0 ps w h
  rw [hg] at R8
  have R8 := Lib.hid R8
  have PA := Lib.hid (pfN_lt hg)
  have PD := Lib.hid (pfN_getD hg)
  have HG := Lib.hid hg
  have HN := Lib.hid hn
  have HM := Lib.hid hm
  have TB := Lib.hid (show invs (fun i => ps.getD i 0) n ≤ 3600 by have h1 := invs_le (fun i => ps.getD i 0) n n (Nat.le_refl _); have h2 : n * n ≤ 60 * 60 := Nat.mul_le_mul hn hn; omega)
  have R1 := Lib.hid hp
  have R2 := Lib.hid hq
  have hB : Below W.heap.size W W := Below.refl _ _
  clear hp hq hg hn hm
  go_enter Try.func3, Try.ntmps3
  go_wp2_with fail
  refine (CY.out _ R1.out).mono ?_
  rintro e w1 ⟨B, l, lv, vals, ls, rfl, hci⟩
  have b1 := hci.be
  have HCI := Lib.hid hci
  clear hci
  have R1 := Lib.hid (R1.out.below b1); have R2 := Lib.hid (R2.out.below b1); have hB := hB.trans (b1.mono hB.size); clear b1
  obtain ⟨q, cap, hle, hq⟩ := own_cellX HCI.out.l
  subst hle
  have HQ := Lib.hid hq
  have HLN := Lib.hid HCI.out.rw'.1
  have HCN := Lib.hid (show vals.length ≤ 1000 by rw [HLN.out]; exact Nat.le_trans HCI.out.rd.count (by have := HN.out; omega))
  clear hq
  go_wp2_with fail
  refine (R8.out _ R1.out).mono ?_
  rintro e w2 ⟨rfl, rfl⟩
  go_upto_region 6 with fail
  go_upto_region 7 with fail
  have RS : RowAtI (w1.alloc (.cells (Array.replicate n (.int .i64 0)) 3)) w1.heap.size 3 (List.replicate n 0) := RowAtI.made w1 3 n
  have BS : Below w1.heap.size w1 (w1.alloc (.cells (Array.replicate n (.int .i64 0)) 3)) := (Below.refl _ _).alloc (Nat.le_refl _) _
  generalize w1.alloc (.cells (Array.replicate n (.int .i64 0)) 3) = w3 at *
  have HRS := Lib.hid RS
  have HBS := Lib.hid BS
  obtain ⟨S, hS⟩ : ∃ S, w1.heap.size = S := ⟨_, rfl⟩
  have HSE := Lib.hid hS
  rw [hS] at HRS HBS ⊢
  clear RS BS hmk hS
  go_wp2_with fail
  go_loopw [8, 9] (fun s x wr => ∃ (a : Nat) (cv : List Int), s = .int .i64 (lstN ls a) ∧ x = .int .i64 a ∧ Hid (a ≤ vals.length) ∧ Hid (Seen n (ls.take a).flatten cv) ∧ Hid (RowAtI wr S 3 cv) ∧ Hid (Below S w1 wr)) (fun _ x _ => vals.length - (intOf x).toNat)
  case atStart => exact ⟨0, _, rfl, rfl, Lib.hid (Nat.zero_le _), Lib.hid (Seen.start n), HRS, HBS⟩
  case round =>
    obtain ⟨a, cv, rfl, rfl, HA, HSN, HRA, HBA⟩ := hrel
    obtain ⟨x2, rfl⟩ : ∃ w, w = wr := ⟨_, rfl⟩
    by_cases ha : a < vals.length
    · obtain ⟨u, hu⟩ : ∃ u, vals[a]? = some u := ⟨_, List.getElem?_eq_getElem ha⟩
      obtain ⟨r, hr⟩ : ∃ r, ls[a]? = some r := ⟨_, List.getElem?_eq_getElem (by rw [← HLN.out]; exact ha)⟩
      have hne := HCI.out.rd.ne r (List.mem_of_getElem? hr)
      obtain ⟨g, rfl, hgl, hc⟩ := HQ.out a u hu
      obtain ⟨g2, cap2, rfl, hg2, hrc⟩ := own_ints (HCI.out.rw'.2 a u r hu hr) hne
      have hgS : g < S := by rw [← HSE.out]; exact hgl
      have hg2S : g2 < S := by rw [← HSE.out]; exact hg2
      have hpos := List.length_pos_iff.2 hne
      obtain ⟨y0, hy0⟩ : ∃ y0, r[0]? = some y0 := ⟨_, List.getElem?_eq_getElem hpos⟩
      have hD : r.getD 0 0 = y0 := by rw [List.getD_eq_getElem?_getD, hy0]; rfl
      have hll := lst_lt HCI.out.rd hr
      rw [hD] at hll
      have HNX := Lib.hid (lst_next hr)
      have HRC := Lib.hid (fun k x (h : r[k]? = some x) => hrc k x h)
      have HR := Lib.hid hr
      have HG2 := Lib.hid hg2S
      have HD := Lib.hid hD
      have hc2 : x2.cell? ⟨g, a, none⟩ = some (.slice (some ⟨g2, 0, none⟩) r.length cap2) := (HBA.out.cell (p := ⟨g, a, none⟩) hgS).trans hc
      have hc3 : x2.cell? ⟨g2, 0, none⟩ = some (.int .i64 (y0 : Int)) := (HBA.out.cell (p := ⟨g2, 0, none⟩) hg2S).trans (hrc 0 y0 hy0)
      have HAN := Lib.hid ha
      have haa : (a : Int) < (vals.length : Int) := by omega
      have ha0 : (0 : Int) ≤ (a : Int) := by omega
      have hz : ((r.length : Int) == 0) = false := by simp only [beq_eq_false_iff_ne, ne_eq]; omega
      have hzp : (0 : Int) < (r.length : Int) := by omega
      obtain ⟨lst, hlst⟩ : ∃ z, lstN ls a = z := ⟨_, rfl⟩
      rw [hlst] at hll
      have hle : decide ((y0 : Int) ≤ lst) = false := decide_eq_false (by omega)
      have WR := Lib.hid (show wrap64 ((a : Int) + 1) = ((a + 1 : Nat) : Int) by have := HCN.out; simp only [wrap64]; omega)
      have HRL := Lib.hid (show r.length ≤ 60 by
        have h1 := nodup_len n r (by
          have hnd := HCI.out.rd.nd
          have e : ls = ls.take a ++ r :: ls.drop (a + 1) := by
            have h2 := (List.getElem?_eq_some_iff.1 hr)
            rw [← h2.2, List.getElem_cons_drop, List.take_append_drop]
          rw [e] at hnd
          simp only [List.flatten_append, List.flatten_cons, List.nodup_append] at hnd
          exact hnd.2.1.1) (fun x hx => HCI.out.rd.lt x (List.mem_flatten.2 ⟨r, List.mem_of_getElem? hr, hx⟩))
        have := HN.out; omega)
      rw [hlst]
      clear hc hu hr hne hrc hgl hg2 hpos hy0 hll ha hD hlst hg2S hgS
      go_wp2_with fail
      go_loopw [11] (fun x wr => ∃ (k : Nat) (cv : List Int), x = .int .i64 k ∧ Hid (k ≤ r.length) ∧ Hid (Seen n ((ls.take a).flatten ++ r.take k) cv) ∧ Hid (RowAtI wr S 3 cv) ∧ Hid (Below S w1 wr)) (fun x _ => r.length - (intOf x).toNat)
      case atStart => exact ⟨0, cv, rfl, Lib.hid (Nat.zero_le _), Lib.hid (by rw [List.take_zero, List.append_nil]; exact HSN.out), HRA, HBA⟩
      case round =>
        obtain ⟨k, cv, rfl, HK, HSK, HRK, HBK⟩ := hrel
        obtain ⟨x3, rfl⟩ : ∃ w, w = wr := ⟨_, rfl⟩
        by_cases hk : k < r.length
        · obtain ⟨x, hx, hxn, hx0, hy, hno⟩ := rds_step HCI.out.rd HR.out hk
          rw [HD.out] at hx0
          have HKL := Lib.hid hk
          have d0 := (HBK.out.cell (p := ⟨g2, k, none⟩) HG2.out).trans (HRC.out k x hx)
          have d1 := (HBK.out.cell (p := ⟨g2, (k + 1) % r.length, none⟩) HG2.out).trans (HRC.out _ _ hy)
          have HST := Lib.hid (show Seen n ((ls.take a).flatten ++ r.take (k + 1)) (cv.set x 1) by rw [take_step hx]; exact HSK.out.add hxn)
          have d2 := HRK.out.cell (k := x) (by rw [HSK.out.len]; exact hxn)
          rw [HSK.out.at' x hxn, if_neg hno] at d2
          have hfz : x3.frozen? ⟨S, x, none⟩ = false := frozen_of_row _ _ _ _ _ HRK.out
          obtain ⟨b, off, hp0, hb, hpc, -, -⟩ := R1.out.cell hxn
          rw [PD.out x hxn] at hpc
          have hpc2 : x3.cell? ⟨b, off + x, none⟩ = some (.int .i64 (pfN ps x : Int)) := (HBK.out.cell (p := ⟨b, off + x, none⟩) (by rw [← HSE.out]; exact hb)).trans hpc
          have e1 : decide ((x : Int) < (y0 : Int)) = false := decide_eq_false (by omega)
          have e1n : decide (x < y0) = false := decide_eq_false (by omega)
          have e2n : decide (n ≤ x) = false := decide_eq_false (by omega)
          have e2 : decide ((x : Int) ≥ (n : Int)) = false := decide_eq_false (by omega)
          have e2' : decide ((n : Int) ≤ (x : Int)) = false := decide_eq_false (by omega)
          have hm : (k + 1) % r.length < r.length := Nat.mod_lt _ (by omega)
          have hkk : (k : Int) < (r.length : Int) := by omega
          have hk0 : (0 : Int) ≤ (k : Int) := by omega
          have hxx : (x : Int) < (n : Int) := by omega
          have hx00 : (0 : Int) ≤ (x : Int) := by omega
          obtain ⟨j, hj⟩ : ∃ j, (k + 1) % r.length = j := ⟨_, rfl⟩
          rw [hj] at hm d1
          have hjj : (j : Int) < (r.length : Int) := by omega
          have hj0 : (0 : Int) ≤ (j : Int) := by omega
          have hrem := rnd_rem k r.length
          rw [hj] at hrem
          have WK := (show wrap64 ((k : Int) + 1) = ((k : Int) + 1) by have := HRL.out; simp only [wrap64]; omega)
          have WKH := Lib.hid (show wrap64 ((k : Int) + 1) = ((k + 1 : Nat) : Int) by rw [WK]; omega)
          have hnq : ((pfN ps x : Int) != (pfN ps x : Int)) = false := by simp
          have HJ := Lib.hid hj
          have HXN := Lib.hid hxn
          clear hx hxn hy hno hpc hk hb hj hm
          subst hp0
          go_wp2_with fail
          go_quiet (fail)
          go_wp2_with fail
          go_roundw
          case rel => exact ⟨k + 1, cv.set x 1, by first | rw [WKH.out] | simp, Lib.hid HKL.out, HST, Lib.hid ((HRK.out.drewN _).set x 1), Lib.hid ((below_drewN HBK.out _).setCell (p := ⟨S, x, none⟩) (Nat.le_refl _) _)⟩
          case measure => first | exact cy_meas' r.length k HKL.out | (rw [WKH.out]; exact cy_meas r.length k HKL.out)
        · have h8 : k = r.length := by have := HK.out; omega
          subst h8
          have hkk : ¬ (r.length : Int) < (r.length : Int) := by omega
          go_wp2_with fail
          go_roundw
          case rel => exact ⟨a + 1, cv, by rw [HNX.out, HD.out], by first | rw [WR.out] | simp, Lib.hid HAN.out, Lib.hid (by rw [take_end HR.out]; have h := HSK.out; rwa [List.take_length] at h), HRK, HBK⟩
          case measure => first | exact cy_meas' vals.length a HAN.out | (rw [WR.out]; exact cy_meas vals.length a HAN.out)
    · have h9 : a = vals.length := by have := HA.out; omega
      subst h9
      have haa : ¬ (vals.length : Int) < (vals.length : Int) := by omega
      have HALL := Lib.hid (show ∀ x, x < n → cv.getD x 0 = 1 from fun x hx => by
        have h := HSN.out.at' x hx
        rw [HLN.out, List.take_length] at h
        rw [h, if_pos (HCI.out.rd.all x hx)])
      have HCL := Lib.hid HSN.out.len
      clear ha
      obtain ⟨lst, hlst⟩ : ∃ z, lstN ls vals.length = z := ⟨_, rfl⟩
      rw [hlst]
      clear hlst
      go_wp2_with fail
      go_loopw [12] (fun x wr => ∃ k : Nat, x = .int .i64 k ∧ Hid (k ≤ n) ∧ Hid (RowAtI wr S 3 cv) ∧ Hid (Below S w1 wr)) (fun x _ => n - (intOf x).toNat)
      case atStart => exact ⟨0, rfl, Lib.hid (Nat.zero_le _), HRA, HBA⟩
      case round =>
        obtain ⟨k, rfl, HK, HRK, HBK⟩ := hrel
        obtain ⟨x3, rfl⟩ : ∃ w, w = wr := ⟨_, rfl⟩
        by_cases hk : k < n
        · have d2 := HRK.out.cell (k := k) (by rw [HCL.out]; exact hk)
          rw [HALL.out k hk] at d2
          have HKL := Lib.hid hk
          have hkk : (k : Int) < (n : Int) := by omega
          have hk0 : (0 : Int) ≤ (k : Int) := by omega
          have WK := Lib.hid (show wrap64 ((k : Int) + 1) = ((k + 1 : Nat) : Int) by have := HN.out; simp only [wrap64]; omega)
          clear hk
          go_wp2_with fail
          go_roundw
          case rel => exact ⟨k + 1, by first | rw [WK.out] | simp, Lib.hid HKL.out, HRK, HBK⟩
          case measure => first | exact cy_meas' n k HKL.out | (rw [WK.out]; exact cy_meas n k HKL.out)
        · have h8 : k = n := by have := HK.out; omega
          subst h8
          have hkk : ¬ (k : Int) < (k : Int) := by omega
          have b1 : Below w1.heap.size w1 x3 := by rw [HSE.out]; exact HBK.out
          have R1 := Lib.hid (R1.out.below b1); have R2 := Lib.hid (R2.out.below b1); have hB := hB.trans (b1.mono hB.size); clear b1
          have hT : sgnI ps k = 1 - 2 * ((invs (fun i => ps.getD i 0) k % 2 : Nat) : Int) := rfl
          obtain ⟨T, hTT⟩ : ∃ T, invs (fun i => ps.getD i 0) k = T := ⟨_, rfl⟩
          rw [hTT] at hT TB TU
          have key : ((T : Int).tmod 2 = 0 ∧ T % 2 = 0 ∧ sgnI ps k = 1) ∨ ((T : Int).tmod 2 = 1 ∧ T % 2 = 1 ∧ sgnI ps k = -1) := by
            rcases par_two T with ⟨h1, h2⟩ | ⟨h1, h2⟩
            · exact .inl ⟨h1, by omega, by omega⟩
            · exact .inr ⟨h1, by omega, by omega⟩
          clear hTT hT HCI HQ hk HK HRK HRS HRA HSN
          rcases key with ⟨h1, h2, es⟩ | ⟨h1, h2, es⟩
          all_goals
            have h3 : (T : Int) % 2 = ((T % 2 : Nat) : Int) := by omega
            rw [h2] at h3
            have ES := Lib.hid es
            rw [es] at SP
            clear es
            go_wp2_with fail
            refine (SP.out _ R1.out).mono ?_
            rintro e x4 ⟨rfl, b1⟩
            have R1 := Lib.hid (R1.out.below b1); have R2 := Lib.hid (R2.out.below b1); have hB := hB.trans (b1.mono hB.size); clear b1
            go_wp2_with fail
            refine (TU.out _ R1.out).mono ?_
            rintro e x5 ⟨rfl, b1⟩
            have R1 := Lib.hid (R1.out.below b1); have R2 := Lib.hid (R2.out.below b1); have hB := hB.trans (b1.mono hB.size); clear b1
            go_wp2_with fail
            refine (AF.out _ R1.out R2.out).mono ?_
            rintro e x6 ⟨p5, l5, k5, z5, rfl, hr5, b1⟩
            have R1 := Lib.hid (R1.out.below b1); have R2 := Lib.hid (R2.out.below b1); have hB := hB.trans (b1.mono hB.size); clear b1
            rcases hr5 with ⟨-, rfl, rfl⟩ | ⟨-, -, rfl, rfl⟩ | ⟨hh, hnm, rfl, rfl, hrow⟩
            · go_wp2_with fail
              refine (live8 _).mono ?_
              rintro e x7 ⟨rfl, b1⟩
              have hB := hB.trans (b1.mono hB.size); clear b1
              go_wp2_with fail
              go_ret
              exact ⟨rfl, hB⟩
            · go_wp2_with fail
              refine (live8 _).mono ?_
              rintro e x7 ⟨rfl, b1⟩
              have hB := hB.trans (b1.mono hB.size); clear b1
              go_wp2_with fail
              go_ret
              exact ⟨rfl, hB⟩
            · rw [← hnm] at hh R2 ⊢
              clear hnm
              have hq := sgnI_mul HG.out hh
              rw [ES.out] at hq
              have R5 := Lib.hid hrow
              have SA := Lib.hid (fun w h => s_sign p5 l5 k5 (movel qs ps l5) w h (by have := HN.out; omega) (mov_right HG.out hh))
              have SQ := Lib.hid (fun w h => s_sign a1 l5 c1 qs w h (by have := HN.out; omega) hh)
              rw [hq] at SA
              clear hq hrow hh
              rcases sgnI_two qs l5 with eq | eq
              all_goals
                rw [eq] at SA SQ
                clear eq
                go_wp2_with fail
                refine (SA.out _ R5.out).mono ?_
                rintro e x7 ⟨rfl, b1⟩
                have R1 := Lib.hid (R1.out.below b1); have R2 := Lib.hid (R2.out.below b1); have hB := hB.trans (b1.mono hB.size); clear b1
                go_wp2_with fail
                refine (SP.out _ R1.out).mono ?_
                rintro e x8 ⟨rfl, b1⟩
                have R2 := Lib.hid (R2.out.below b1); have hB := hB.trans (b1.mono hB.size); clear b1
                go_wp2_with fail
                refine (SQ.out _ R2.out).mono ?_
                rintro e x9 ⟨rfl, b1⟩
                have hB := hB.trans (b1.mono hB.size); clear b1
                go_wp2_with fail
                refine (live8 _).mono ?_
                rintro e x10 ⟨rfl, b1⟩
                have hB := hB.trans (b1.mono hB.size); clear b1
                go_wp2_with fail
                go_ret
                exact ⟨rfl, hB⟩
theorem walk (W : World) (a0 : Option Addr) (n0 c0 : Nat) (w0 : IsRow .i64 W a0 n0 c0) (a1 : Option Addr) (n1 c1 : Nat) (w1 : IsRow .i64 W a1 n1 c1) :
    Calls Try.prog 3 #[.slice a0 n0 c0, .slice a1 n1 c1] W fun e W' => e = .returned (.bool true) ∧ Below W.heap.size W W' := by
  by_cases h : 60 < n0 ∨ 60 < n1
  · exact far W a0 a1 n0 n1 c0 c1 h
  · obtain ⟨ps, hp⟩ := RowI.of_isRow w0 (by omega)
    obtain ⟨qs, hq⟩ := RowI.of_isRow w1 (by omega)
    cases hg : rgt ps n0 n0 with
    | false => exact refuses W a0 a1 n0 n1 c0 c1 ps hp (by omega) (by omega) hg
    | true => exact main W a0 a1 n0 n1 c0 c1 ps qs hp hq (by omega) (by omega) hg
end permRounds
end Go.Proofs.Ytblohakflpedoaa
