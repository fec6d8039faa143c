/- Reference 19's List: the walk. -/
import Derived.Test.YtfjioflggkmhcaaCandi
namespace Go.Proofs.Ytfjioflggkmhcaa
open Go.ChangeShapes Go.WideShapes Go.ChangeAt Go.RowKit
set_option linter.unusedVariables false
set_option linter.unusedSimpArgs false
set_option maxRecDepth 100000 in
set_option maxHeartbeats 16000000 in
theorem r19_list (n : Nat) (W : World) (h1 : 1 ≤ n) (h2 : n ≤ 16777216) : Calls Try.prog 43 #[.int .i64 (n : Int)] W (GivesO W (candL n)) := by
  have LF := Lib.hid (fun k w => r19_leaf k (n : Int) w)
  have ST := Lib.hid (fun w => r8_power (n : Int) w (by omega))
  have FP := Lib.hid (fun w => r3_prime (n : Int) w (by omega))
  have PR := Lib.hid (fun w => r3_primesO n w h1 h2)
  have WFS := Lib.hid (fsts_wf h1 h2)
  have FSL := Lib.hid (fsts_len (fa n))
  have AB := Lib.hid (fun w (hb : n ≤ 8388608) => r3_aboveb (2 * n - 1) w (by omega) (by omega))
  have TI := Lib.hid (fun (p : Nat) hp w => r3_times p n w hp h1 (by omega))
  have FL := fa_len h1 h2
  have IP := Lib.hid (fun (m : Nat) (a : 1 ≤ m) (b : m ≤ 16777216) w => r19_plain 16777216 m w a (by omega) b)
  have TW := Lib.hid (fun (k : Int) (p : Nat) w hp hpn => (show Calls Try.prog 77 #[.int .i64 k, .int .i64 (n : Int), .int .i64 (p : Int)] w (GivesD w (twoT k n p)) from r19_two k n p _ _ w hp h2 (Lib.hid (fun w => IP.out p (by omega) (Nat.le_trans (Nat.le_of_dvd h1 hpn) h2) w)) (Lib.hid (fun w => IP.out (n / p) (Nat.div_pos (Nat.le_of_dvd h1 hpn) (by omega)) (Nat.le_trans (Nat.div_le_self _ _) h2) w))))
  have PA := Lib.hid (fun i (hi : i < (fa n).length) => pr_at h1 hi)
  unfold GivesO candL
  have LPR : (prN n).length = (fa n).length := by unfold prN; rw [List.length_map]
  have LPW : (pwN n).length = (fa n).length := by unfold pwN; rw [List.length_map]
  have ABI := Lib.hid (abvN_is (n := 2 * n - 1) (by omega))
  have P0 := Lib.hid (show prsL 4 n [] = [] from rfl)
  have Q0 := Lib.hid (show prsL 5 n [] = [] from rfl)
  have PS := Lib.hid (fun ps p => prsL_snoc 4 n ps p)
  have QS := Lib.hid (fun ps p => prsL_snoc 5 n ps p)
  have PLE := Lib.hid (fun i => (show (prsL 4 n ((prN n).take i)).length ≤ 25 from Nat.le_trans (prsL_len _ _ _) (Nat.le_trans (List.length_take_le' i _) (by omega))))
  have QLE := Lib.hid (fun i => (show (prsL 5 n ((pwN n).take i)).length ≤ 25 from Nat.le_trans (prsL_len _ _ _) (Nat.le_trans (List.length_take_le' i _) (by omega))))
  have PAL := Lib.hid (show (prN n).take (fa n).length = prN n by rw [← LPR]; exact List.take_length)
  have QAL := Lib.hid (show (pwN n).take (fa n).length = pwN n by rw [← LPW]; exact List.take_length)
  have OY1 := opt_len (n ≤ 64) ⟨1, n, .nil⟩
  have OY2 := opt_len (2 ≤ n ∧ n ≤ 5) ⟨2, n, .nil⟩
  have OY3 := opt_len (2 ≤ n ∧ pwb n = true) ⟨3, n, .nil⟩
  have OY6 := opt_len (3 ≤ n ∧ prb n = true) (oneT 6 n (n - 1))
  have OY7 := opt_len (2 ≤ n ∧ n ≤ 8388608) (oneT 7 n (abvN (2 * n - 1)))
  have O1Y := Lib.hid (fun h => opt_yes (c := n ≤ 64) (d := ⟨1, n, .nil⟩) h)
  have O1N := Lib.hid (fun h => opt_no (c := n ≤ 64) (d := ⟨1, n, .nil⟩) h)
  generalize opt (n ≤ 64) ⟨1, n, .nil⟩ = o1 at *
  have O2Y := Lib.hid (fun h => opt_yes (c := 2 ≤ n ∧ n ≤ 5) (d := ⟨2, n, .nil⟩) h)
  have O2N := Lib.hid (fun h => opt_no (c := 2 ≤ n ∧ n ≤ 5) (d := ⟨2, n, .nil⟩) h)
  generalize opt (2 ≤ n ∧ n ≤ 5) ⟨2, n, .nil⟩ = o2 at *
  have O3Y := Lib.hid (fun h => opt_yes (c := 2 ≤ n ∧ pwb n = true) (d := ⟨3, n, .nil⟩) h)
  have O3N := Lib.hid (fun h => opt_no (c := 2 ≤ n ∧ pwb n = true) (d := ⟨3, n, .nil⟩) h)
  generalize opt (2 ≤ n ∧ pwb n = true) ⟨3, n, .nil⟩ = o3 at *
  have O6Y := Lib.hid (fun h => opt_yes (c := 3 ≤ n ∧ prb n = true) (d := (oneT 6 n (n - 1))) h)
  have O6N := Lib.hid (fun h => opt_no (c := 3 ≤ n ∧ prb n = true) (d := (oneT 6 n (n - 1))) h)
  generalize opt (3 ≤ n ∧ prb n = true) (oneT 6 n (n - 1)) = o6 at *
  have O7Y := Lib.hid (fun h => opt_yes (c := 2 ≤ n ∧ n ≤ 8388608) (d := (oneT 7 n (abvN (2 * n - 1)))) h)
  have O7N := Lib.hid (fun h => opt_no (c := 2 ≤ n ∧ n ≤ 8388608) (d := (oneT 7 n (abvN (2 * n - 1)))) h)
  generalize opt (2 ≤ n ∧ n ≤ 8388608) (oneT 7 n (abvN (2 * n - 1))) = o7 at *
  have L4 : (prsL 4 n (prN n)).length ≤ 25 := by rw [← PAL.out]; exact PLE.out _
  have L5 : (prsL 5 n (pwN n)).length ≤ 25 := by rw [← QAL.out]; exact QLE.out _
  obtain ⟨NF, hNF⟩ : ∃ z, (fa n).length = z := ⟨_, rfl⟩
  rw [hNF] at FL PA PAL QAL FSL
  generalize fsts (fa n) = ys at *
  generalize prN n = ps at *
  generalize pwN n = qs at *
  obtain ⟨p4, hp4⟩ : ∃ z, prsL 4 n ps = z := ⟨_, rfl⟩
  obtain ⟨p5, hp5⟩ : ∃ z, prsL 5 n qs = z := ⟨_, rfl⟩
  have HP4 := Lib.hid (show prsL 4 n (ps.take NF) = p4 by rw [PAL.out]; exact hp4)
  have HP5 := Lib.hid (show prsL 5 n (qs.take NF) = p5 by rw [QAL.out]; exact hp5)
  rw [hp4] at L4 ⊢
  rw [hp5] at L5 ⊢
  clear hNF LPR LPW hp4 hp5 PAL QAL
  have HO := Lib.hid (OwnT.nil W 0 W.heap.size)
  have HB := Lib.hid (Below.refl W.heap.size W)
  go_enter Try.func43, Try.ntmps43
  go_upto_if 10 with fail
  go_cut [3] (fun x wx => (∃ v, v = x ∧ OwnT wx 0 W.heap.size v ([] ++ o1) ∧ Below W.heap.size W wx))
  case first =>
    by_cases hc : n ≤ 64
    · have dci : decide ((n : Int) ≤ 64) = true := decide_eq_true (by omega)
      go_wp2_with fail
      refine (LF.out 1 _).mono ?_
      rintro e ux ⟨rfl, bx⟩
      have HO2 := Lib.hid (HO.out.below bx)
      have HB2 := Lib.hid bx
      clear HO HB bx
      have HO := HO2
      have HB := HB2
      clear HO2 HB2
      have hsB := HB.out.size
      have HK := Lib.hid (show KidsS ux (offB ux 0 W.heap.size (.slice none 0 0)) (.slice none 0 0) .nil from KidsS.nought _ _)
      go_wp2_with (at_builtin; refine append_t1 rfl _ _ rfl rfl HO.out rfl HK.out hsB (by decide) ?_; intro v' w' hO' hB' hk' hf')
      obtain ⟨fa', fn', fc', rfl⟩ := hf'
      (try go_wp2_with fail)
      go_meet
      case rel => exact ⟨_, rfl, by rw [O1Y.out hc]; exact hO', HB.out.trans hB'⟩
    · have dci : decide ((n : Int) ≤ 64) = false := decide_eq_false (by omega)
      (try go_wp2_with fail)
      go_meet
      case rel => exact ⟨_, rfl, by rw [O1N.out hc]; exact HO.out, HB.out⟩
  case rest =>
    obtain ⟨v, rfl, hO, hB⟩ := hcut
    generalize wc = u at *
    have HO := Lib.hid hO
    have HB := Lib.hid hB
    clear hO hB
    go_upto_region 4 with fail
    go_cut [21] (fun x wx => x = .bool (decide (2 ≤ n ∧ n ≤ 5)) ∧ OwnT wx 0 W.heap.size v ([] ++ o1) ∧ Below W.heap.size W wx)
    case first =>
      by_cases h2n : 2 ≤ n
      · have d2 : decide ((2 : Int) ≤ (n : Int)) = true := decide_eq_true (by omega)
        have E := Lib.hid (show decide ((n : Int) ≤ 5) = decide (2 ≤ n ∧ n ≤ 5) from decide_eq_decide.2 (by omega))
        (try go_wp2_with fail)
        go_meet
        case rel => exact ⟨by first | exact congrArg Value.bool E.out | rw [E.out], HO.out, HB.out⟩
      · have d2 : decide ((2 : Int) ≤ (n : Int)) = false := decide_eq_false (by omega)
        have E := Lib.hid (show decide (2 ≤ n ∧ n ≤ 5) = false from decide_eq_false (by omega))
        (try go_wp2_with fail)
        go_meet
        case rel => exact ⟨by rw [E.out], HO.out, HB.out⟩
    case rest =>
      obtain ⟨rfl, hO, hB⟩ := hcut
      generalize wc = u at *
      have HO := Lib.hid hO
      have HB := Lib.hid hB
      clear hO hB
      go_upto_if 21 with fail
      go_cut [3] (fun x wx => (∃ v, v = x ∧ OwnT wx 0 W.heap.size v (([] ++ o1) ++ o2) ∧ Below W.heap.size W wx))
      case first =>
        by_cases hc : 2 ≤ n ∧ n ≤ 5
        · have dc : decide (2 ≤ n ∧ n ≤ 5) = true := decide_eq_true hc
          (try rw [dc])
          go_wp2_with fail
          refine (LF.out 2 _).mono ?_
          rintro e ux ⟨rfl, bx⟩
          have HO2 := Lib.hid (HO.out.below bx)
          have HB2 := Lib.hid (HB.out.trans (bx.mono HB.out.size))
          clear HO HB bx
          have HO := HO2
          have HB := HB2
          clear HO2 HB2
          generalize ux = u at *
          have hsB := HB.out.size
          have HK := Lib.hid (show KidsS u (offB u 0 W.heap.size v) (.slice none 0 0) .nil from KidsS.nought _ _)
          go_wp2_with (at_builtin; refine append_t1 rfl _ _ rfl rfl HO.out rfl HK.out hsB (by simp only [List.length_append, List.length_nil]; omega) ?_; intro v' w' hO' hB' hk' hf')
          obtain ⟨fa', fn', fc', rfl⟩ := hf'
          (try go_wp2_with fail)
          go_meet
          case rel => exact ⟨_, rfl, by rw [O2Y.out hc]; exact hO', HB.out.trans hB'⟩
        · have dc : decide (2 ≤ n ∧ n ≤ 5) = false := decide_eq_false hc
          (try rw [dc])
          (try go_wp2_with fail)
          go_meet
          case rel => exact ⟨_, rfl, by rw [O2N.out hc, List.append_nil]; exact HO.out, HB.out⟩
      case rest =>
        obtain ⟨v, rfl, hO, hB⟩ := hcut
        generalize wc = u at *
        have HO := Lib.hid hO
        have HB := Lib.hid hB
        clear hO hB
        go_upto_region 6 with fail
        go_cut [32] (fun x wx => x = .bool (decide (2 ≤ n ∧ pwb n = true)) ∧ OwnT wx 0 W.heap.size v ([] ++ o1 ++ o2) ∧ Below W.heap.size W wx)
        case first =>
          by_cases h2n : 2 ≤ n
          · have d2 : decide ((2 : Int) ≤ (n : Int)) = true := decide_eq_true (by omega)
            have E := Lib.hid (show pwb (n : Int) = decide (2 ≤ n ∧ pwb n = true) by cases hp : pwb (n : Int) <;> simp [h2n])
            go_wp2_with fail
            refine (ST.out _).mono ?_
            rintro e uq ⟨rfl, rfl⟩
            (try go_wp2_with fail)
            go_meet
            case rel => exact ⟨by first | exact congrArg Value.bool E.out | rw [← E.out], HO.out, HB.out⟩
          · have d2 : decide ((2 : Int) ≤ (n : Int)) = false := decide_eq_false (by omega)
            have E := Lib.hid (show decide (2 ≤ n ∧ pwb n = true) = false from decide_eq_false (by omega))
            (try go_wp2_with fail)
            go_meet
            case rel => exact ⟨by rw [E.out], HO.out, HB.out⟩
        case rest =>
          obtain ⟨rfl, hO, hB⟩ := hcut
          generalize wc = u at *
          have HO := Lib.hid hO
          have HB := Lib.hid hB
          clear hO hB
          go_upto_if 32 with fail
          go_cut [3] (fun x wx => (∃ v, v = x ∧ OwnT wx 0 W.heap.size v (([] ++ o1 ++ o2) ++ o3) ∧ Below W.heap.size W wx))
          case first =>
            by_cases hc : 2 ≤ n ∧ pwb n = true
            · have dc : decide (2 ≤ n ∧ pwb n = true) = true := decide_eq_true hc
              (try rw [dc])
              go_wp2_with fail
              refine (LF.out 3 _).mono ?_
              rintro e ux ⟨rfl, bx⟩
              have HO2 := Lib.hid (HO.out.below bx)
              have HB2 := Lib.hid (HB.out.trans (bx.mono HB.out.size))
              clear HO HB bx
              have HO := HO2
              have HB := HB2
              clear HO2 HB2
              generalize ux = u at *
              have hsB := HB.out.size
              have HK := Lib.hid (show KidsS u (offB u 0 W.heap.size v) (.slice none 0 0) .nil from KidsS.nought _ _)
              go_wp2_with (at_builtin; refine append_t1 rfl _ _ rfl rfl HO.out rfl HK.out hsB (by simp only [List.length_append, List.length_nil]; omega) ?_; intro v' w' hO' hB' hk' hf')
              obtain ⟨fa', fn', fc', rfl⟩ := hf'
              (try go_wp2_with fail)
              go_meet
              case rel => exact ⟨_, rfl, by rw [O3Y.out hc]; exact hO', HB.out.trans hB'⟩
            · have dc : decide (2 ≤ n ∧ pwb n = true) = false := decide_eq_false hc
              (try rw [dc])
              (try go_wp2_with fail)
              go_meet
              case rel => exact ⟨_, rfl, by rw [O3N.out hc, List.append_nil]; exact HO.out, HB.out⟩
          case rest =>
            obtain ⟨v, rfl, hO, hB⟩ := hcut
            generalize wc = u at *
            have HO := Lib.hid hO
            have HB := Lib.hid hB
            clear hO hB
            go_wp2_with fail
            refine (PR.out _).mono ?_
            rintro e ux ⟨pv, rfl, hpv, bx⟩
            obtain ⟨pa, pc, rfl, hr, hpa⟩ := hpv.apart FSL.out WFS.out (by omega)
            have AP := Lib.hid (show Apart v pa from fun x ex e => by
              have h1 := HO.out.ownLt _ e
              have h2 := hpa x ex
              omega)
            clear hpa hpv
            have HO2 := Lib.hid (HO.out.below bx)
            have HB2 := Lib.hid (HB.out.trans (bx.mono HB.out.size))
            clear HO HB bx
            have HO := HO2
            have HB := HB2
            clear HO2 HB2
            generalize ux = u at *
            have HR := Lib.hid hr
            clear hr
            go_wp2_with fail
            go_loopw [3, 5] (fun x y wr => ∃ (i : Nat) (s : Value), s = x ∧ i ≤ NF ∧ y = .int .i64 i ∧ Hid (OwnT wr 0 W.heap.size s ([] ++ o1 ++ o2 ++ o3 ++ prsL 4 n (ps.take i))) ∧ Hid (RowI wr pa NF ys) ∧ Hid (Apart s pa) ∧ Hid (Below W.heap.size W wr)) (fun _ y _ => NF - (intOf y).toNat)
            case atStart => exact ⟨0, _, rfl, Nat.zero_le _, rfl, Lib.hid (by rw [List.take_zero, P0.out, List.append_nil]; exact HO.out), HR, AP, HB⟩
            case round =>
              clear HO HR AP HB
              obtain ⟨i, v, rfl, hi, rfl, HO, HR, AP, HB⟩ := hrel
              by_cases hlt : i < NF
              · obtain ⟨p, g1, g2, -, q1, q2, -, -⟩ := PA.out i hlt
                obtain ⟨pb, po, rfl, hpb, hpc, _⟩ := HR.out.cell (k := i) hlt
                rw [g1] at hpc
                have PLi := PLE.out i
                have TT := Lib.hid (show prsL 4 n (ps.take (i + 1)) = prsL 4 n (ps.take i) ++ (if p = n then [] else [twoT 4 n p]) by rw [g2]; exact PS.out _ _)
                generalize prsL 4 n (ps.take i) = Z at *
                clear g1 g2
                have dd : decide ((i : Int) < (NF : Int)) = true := decide_eq_true (by omega)
                by_cases hpn : p = n
                · have dn : ((p : Int) != (n : Int)) = false := by rw [hpn]; simp
                  have TZ := Lib.hid (show prsL 4 n (ps.take (i + 1)) = Z by rw [TT.out, if_pos hpn, List.append_nil])
                  have HPN := Lib.hid hpn
                  clear hpn
                  go_wp2_with fail
                  go_roundw
                  case rel => exact ⟨i + 1, _, rfl, by omega, by go_num, Lib.hid (by rw [TZ.out]; exact HO.out), HR, AP, HB⟩
                  case measure => (first | (simp [intOf]; done) | (simp [intOf]; omega) | (simp only [intOf]; omega))
                · have dn : ((p : Int) != (n : Int)) = true := by simp; omega
                  have TZ := Lib.hid (show prsL 4 n (ps.take (i + 1)) = Z ++ [twoT 4 n p] by rw [TT.out, if_neg hpn])
                  clear TT
                  have TWp := Lib.hid (fun w => TW.out 4 p w q1 q2)
                  generalize twoT 4 n p = D1 at *
                  go_wp2_with fail
                  refine (TWp.out _).mono ?_
                  rintro e ux ⟨v1, rfl, hk1, bx⟩
                  obtain ⟨p1, m1, c1', rfl⟩ := hk1.form
                  have own := HO.out.ownLt
                  have hlu := HB.out.size
                  have HR2 := Lib.hid (HR.out.below bx)
                  have HO2 := Lib.hid (HO.out.below bx)
                  have HB2 := Lib.hid (HB.out.trans (bx.mono HB.out.size))
                  have hsx := bx.size
                  have HK := Lib.hid (show KidsS ux (offB ux 0 W.heap.size v) (.slice p1 m1 c1') D1.ks from hk1.carry (fun b hb => ⟨⟨hb.1, fun e => by have := own b e; omega, .inr (by omega)⟩, rfl⟩))
                  have hsB := HB2.out.size
                  clear HO HB HR hk1 own bx
                  go_wp2_with (at_builtin; refine append_t1 rfl _ _ rfl rfl HO2.out rfl HK.out hsB (by simp only [List.length_append, List.length_nil]; omega) ?_; intro v' w' hO' hB' hk' hf')
                  obtain ⟨fa', fn', fc', rfl⟩ := hf'
                  have HR3 := Lib.hid (HR2.out.keepB (w' := w') hB'.size (fun x ex hx => (hk' x.block hx (AP.out x ex)).1))
                  go_roundw
                  case rel => exact ⟨i + 1, _, rfl, by omega, by go_num, Lib.hid (by rw [TZ.out, ← List.append_assoc]; exact hO'), HR3, Lib.hid (fun x ex => (hk' x.block (by cases ex; show pb < ux.heap.size; omega) (AP.out x ex)).2), Lib.hid (HB2.out.trans hB')⟩
                  case measure => (first | (simp [intOf]; done) | (simp [intOf]; omega) | (simp only [intOf]; omega))
              · have hiN : i = NF := by omega
                have dd : decide ((i : Int) < (NF : Int)) = false := decide_eq_false (by omega)
                have HO2 := HO.out
                rw [hiN, HP4.out] at HO2
                clear hiN
                have HO := Lib.hid HO2
                clear HO2
                go_wp2_with fail
                go_loopw [3, 6, 7, 8] (fun x y z1 z2 wr => ∃ (i : Nat) (s q1 q2 : Value), s = x ∧ q1 = z1 ∧ q2 = z2 ∧ i ≤ NF ∧ y = .int .i64 i ∧ Hid (OwnT wr 0 W.heap.size s ([] ++ o1 ++ o2 ++ o3 ++ p4 ++ prsL 5 n (qs.take i))) ∧ Hid (RowI wr pa NF ys) ∧ Hid (Apart s pa) ∧ Hid (Below W.heap.size W wr)) (fun _ y _ _ _ => NF - (intOf y).toNat)
                case atStart => exact ⟨0, _, _, _, rfl, rfl, rfl, Nat.zero_le _, rfl, Lib.hid (by rw [List.take_zero, Q0.out, List.append_nil]; exact HO.out), HR, AP, HB⟩
                case round =>
                  clear HO HR AP HB
                  obtain ⟨i, v, s7, s8, rfl, rfl, rfl, hi, rfl, HO, HR, AP, HB⟩ := hrel
                  by_cases hlt : i < NF
                  · obtain ⟨p, g1, -, g3, q1, -, q3, q4⟩ := PA.out i hlt
                    obtain ⟨pb, po, rfl, hpb, hpc, _⟩ := HR.out.cell (k := i) hlt
                    rw [g1] at hpc
                    have PLi := QLE.out i
                    have TT := Lib.hid (show prsL 5 n (qs.take (i + 1)) = prsL 5 n (qs.take i) ++ (if p ^ mu p n = n then [] else [twoT 5 n (p ^ mu p n)]) by rw [g3]; exact QS.out _ _)
                    generalize prsL 5 n (qs.take i) = Z at *
                    clear g1 g3
                    have dd : decide ((i : Int) < (NF : Int)) = true := decide_eq_true (by omega)
                    have TIp := Lib.hid (fun w => TI.out p q1 w)
                    have hle := Nat.le_of_dvd h1 q3
                    obtain ⟨ex, hex⟩ : ∃ z, mu p n = z := ⟨_, rfl⟩
                    rw [hex] at TIp q3 q4 TT hle
                    clear hex
                    have hexb : ex ≤ 16777216 := by
                      have g1 := Nat.lt_pow_self (show 1 < p by omega) (n := ex)
                      omega
                    have hp0 : 1 ≤ p := by omega
                    have HPW := Lib.hid (fun t (ht : t ≤ ex) => Nat.le_trans (Nat.pow_le_pow_right hp0 ht) hle)
                    have H0 := Lib.hid (Nat.pow_zero p)
                    have HS := Lib.hid (fun t => Nat.pow_succ p t)
                    obtain ⟨pe, hpe⟩ : ∃ z, p ^ ex = z := ⟨_, rfl⟩
                    rw [hpe] at TT q3 q4 hle
                    have HPE := Lib.hid hpe
                    clear hpe
                    go_wp2_with fail
                    go_loopw [7, 8] (fun q k wr' => ∃ t m : Nat, t ≤ ex ∧ m ≤ 16777216 ∧ q = .int .i64 (m : Int) ∧ k = .int .i64 (t : Int) ∧ Hid (p ^ t = m) ∧ wr = wr') (fun _ k _ => ex - (intOf k).toNat)
                    case atStart => exact ⟨0, 1, Nat.zero_le _, by omega, rfl, rfl, Lib.hid H0.out, rfl⟩
                    case round =>
                      obtain ⟨t, m, ht, hm, rfl, rfl, HM, rfl⟩ := hrel
                      by_cases htl : t < ex
                      · have d2 : decide ((t : Int) < (ex : Int)) = true := decide_eq_true (by omega)
                        have hle2 := HPW.out (t + 1) htl
                        rw [HS.out, HM.out] at hle2
                        obtain ⟨m', hm'⟩ : ∃ z, m * p = z := ⟨_, rfl⟩
                        rw [hm'] at hle2
                        have HM' := Lib.hid (show p ^ (t + 1) = m' by rw [HS.out, HM.out, hm'])
                        have hw : IntKind.i64.wrap ((m : Int) * (p : Int)) = (m' : Int) := by
                          rw [show (m : Int) * (p : Int) = ((m * p : Nat) : Int) from (Int.natCast_mul m p).symm, hm']
                          exact IntWalk.i64_in _ (by omega)
                        clear hm'
                        go_wp2_with fail
                        refine (TIp.out _).mono ?_
                        rintro e uq ⟨rfl, rfl⟩
                        go_wp2_with fail
                        go_roundw
                        case rel => exact ⟨t + 1, m', by omega, by omega, rfl, by go_num, HM', trivial⟩
                        case measure => (first | (simp [intOf]; done) | (simp [intOf]; omega) | (simp only [intOf]; omega))
                      · obtain rfl : t = ex := by omega
                        have d2 : decide ((t : Int) < (t : Int)) = false := decide_eq_false (by omega)
                        have em : m = pe := by rw [← HM.out, HPE.out]
                        subst em
                        go_wp2_with fail
                        refine (TIp.out _).mono ?_
                        rintro e uq ⟨rfl, rfl⟩
                        by_cases hpn : m = n
                        · have dn : ((m : Int) != (n : Int)) = false := by rw [hpn]; simp
                          have TZ := Lib.hid (show prsL 5 n (qs.take (i + 1)) = Z by rw [TT.out, if_pos hpn, List.append_nil])
                          have HPN := Lib.hid hpn
                          clear hpn
                          go_wp2_with fail
                          go_roundw
                          case rel => exact ⟨i + 1, _, _, _, rfl, rfl, rfl, by omega, by go_num, Lib.hid (by rw [TZ.out]; exact HO.out), HR, AP, HB⟩
                          case measure => (first | (simp [intOf]; done) | (simp [intOf]; omega) | (simp only [intOf]; omega))
                        · have dn : ((m : Int) != (n : Int)) = true := by simp; omega
                          have TZ := Lib.hid (show prsL 5 n (qs.take (i + 1)) = Z ++ [twoT 5 n m] by rw [TT.out, if_neg hpn])
                          clear TT
                          have TWp := Lib.hid (fun w => TW.out 5 m w q4 q3)
                          generalize twoT 5 n m = D1 at *
                          go_wp2_with fail
                          refine (TWp.out _).mono ?_
                          rintro e ux ⟨v1, rfl, hk1, bx⟩
                          obtain ⟨p1, m1, c1', rfl⟩ := hk1.form
                          have own := HO.out.ownLt
                          have hlu := HB.out.size
                          have HR2 := Lib.hid (HR.out.below bx)
                          have HO2 := Lib.hid (HO.out.below bx)
                          have HB2 := Lib.hid (HB.out.trans (bx.mono HB.out.size))
                          have hsx := bx.size
                          have HK := Lib.hid (show KidsS ux (offB ux 0 W.heap.size v) (.slice p1 m1 c1') D1.ks from hk1.carry (fun b hb => ⟨⟨hb.1, fun e => by have := own b e; omega, .inr (by omega)⟩, rfl⟩))
                          have hsB := HB2.out.size
                          clear HO HB HR hk1 own bx
                          go_wp2_with (at_builtin; refine append_t1 rfl _ _ rfl rfl HO2.out rfl HK.out hsB (by simp only [List.length_append, List.length_nil]; omega) ?_; intro v' w' hO' hB' hk' hf')
                          obtain ⟨fa', fn', fc', rfl⟩ := hf'
                          have HR3 := Lib.hid (HR2.out.keepB (w' := w') hB'.size (fun x ex hx => (hk' x.block hx (AP.out x ex)).1))
                          go_roundw
                          case rel => exact ⟨i + 1, _, _, _, rfl, rfl, rfl, by omega, by go_num, Lib.hid (by rw [TZ.out, ← List.append_assoc]; exact hO'), HR3, Lib.hid (fun x ex => (hk' x.block (by cases ex; show pb < ux.heap.size; omega) (AP.out x ex)).2), Lib.hid (HB2.out.trans hB')⟩
                          case measure => (first | (simp [intOf]; done) | (simp [intOf]; omega) | (simp only [intOf]; omega))
                  · have hiN : i = NF := by omega
                    have dd : decide ((i : Int) < (NF : Int)) = false := decide_eq_false (by omega)
                    have HO2 := HO.out
                    rw [hiN, HP5.out] at HO2
                    clear hiN
                    have HO := Lib.hid HO2
                    clear HO2 HR AP
                    generalize wr = u at *
                    go_upto_region 24 with fail
                    go_cut [97] (fun x wx => x = .bool (decide (3 ≤ n ∧ prb n = true)) ∧ OwnT wx 0 W.heap.size v ([] ++ o1 ++ o2 ++ o3 ++ p4 ++ p5) ∧ Below W.heap.size W wx)
                    case first =>
                      by_cases h3n : 3 ≤ n
                      · have d2 : decide ((3 : Int) ≤ (n : Int)) = true := decide_eq_true (by omega)
                        have E := Lib.hid (show prb (n : Int) = decide (3 ≤ n ∧ prb n = true) by cases hp : prb (n : Int) <;> simp [h3n])
                        go_wp2_with fail
                        refine (FP.out _).mono ?_
                        rintro e uq ⟨rfl, rfl⟩
                        (try go_wp2_with fail)
                        go_meet
                        case rel => exact ⟨by first | exact congrArg Value.bool E.out | rw [← E.out], HO.out, HB.out⟩
                      · have d2 : decide ((3 : Int) ≤ (n : Int)) = false := decide_eq_false (by omega)
                        have E := Lib.hid (show decide (3 ≤ n ∧ prb n = true) = false from decide_eq_false (by omega))
                        (try go_wp2_with fail)
                        go_meet
                        case rel => exact ⟨by rw [E.out], HO.out, HB.out⟩
                    case rest =>
                      obtain ⟨rfl, hO, hB⟩ := hcut
                      generalize wc = u at *
                      have HO := Lib.hid hO
                      have HB := Lib.hid hB
                      clear hO hB
                      go_upto_if 97 with fail
                      go_cut [3] (fun x wx => (∃ v, v = x ∧ OwnT wx 0 W.heap.size v (([] ++ o1 ++ o2 ++ o3 ++ p4 ++ p5) ++ o6) ∧ Below W.heap.size W wx))
                      case first =>
                        by_cases hc : 3 ≤ n ∧ prb n = true
                        · have dc : decide (3 ≤ n ∧ prb n = true) = true := decide_eq_true hc
                          have IP6 := Lib.hid (fun w => IP.out (n - 1) (by omega) (by omega) w)
                          have HD := Lib.hid (show oneT 6 n (n - 1) = ⟨6, n, (plT 16777216 (n - 1)).fo .nil⟩ from rfl)
                          generalize plT 16777216 (n - 1) = D1 at IP6 HD
                          obtain ⟨n1, hn1⟩ : ∃ z, n - 1 = z := ⟨_, rfl⟩
                          have wn : IntKind.i64.wrap ((n : Int) - 1) = (n1 : Int) := by rw [IntWalk.i64_in _ (by omega)]; omega
                          rw [hn1] at IP6
                          clear hn1
                          (try rw [dc])
                          go_wp2_with fail
                          refine (IP6.out _).mono ?_
                          rintro e ux ⟨v1, rfl, hk1, bx⟩
                          obtain ⟨p1, m1, c1', rfl⟩ := hk1.form
                          have own := HO.out.ownLt
                          have hlu := HB.out.size
                          have ON := Lib.hid (r19_one 6 (n : Int) D1.k D1.n D1.ks _ u.heap.size ux bx.size hk1)
                          have HO2 := Lib.hid (HO.out.below bx)
                          have HB2 := Lib.hid (HB.out.trans (bx.mono HB.out.size))
                          have OWN := Lib.hid own
                          clear HO HB hk1 own bx
                          generalize hus : u.heap.size = us at *
                          go_wp2_with fail
                          refine ON.out.mono ?_
                          rintro e uy ⟨v2, rfl, hk2, by_⟩
                          obtain ⟨p2, m2, c2', rfl⟩ := hk2.form
                          have HO := Lib.hid (HO2.out.below by_)
                          have HB := Lib.hid (HB2.out.trans (by_.mono HB2.out.size))
                          have HK := Lib.hid (show KidsS uy (offB uy 0 W.heap.size v) (.slice p2 m2 c2') (D1.fo .nil) from hk2.carry (fun b hb => ⟨⟨hb.1, fun e => by have := OWN.out b e; omega, .inr (by omega)⟩, rfl⟩))
                          have hsB := HB.out.size
                          clear HO2 HB2 ON hk2 by_ OWN hus
                          go_wp2_with (at_builtin; refine append_t1 rfl _ _ rfl rfl HO.out rfl HK.out hsB (by simp only [List.length_append, List.length_nil]; omega) ?_; intro v' w' hO' hB' hk' hf')
                          obtain ⟨fa', fn', fc', rfl⟩ := hf'
                          (try go_wp2_with fail)
                          go_meet
                          case rel => exact ⟨_, rfl, by rw [O6Y.out hc, HD.out]; exact hO', HB.out.trans hB'⟩
                        · have dc : decide (3 ≤ n ∧ prb n = true) = false := decide_eq_false hc
                          (try rw [dc])
                          (try go_wp2_with fail)
                          go_meet
                          case rel => exact ⟨_, rfl, by rw [O6N.out hc, List.append_nil]; exact HO.out, HB.out⟩
                      case rest =>
                        obtain ⟨v, rfl, hO, hB⟩ := hcut
                        generalize wc = u at *
                        have HO := Lib.hid hO
                        have HB := Lib.hid hB
                        clear hO hB
                        go_upto_region 26 with fail
                        go_cut [111] (fun x wx => x = .bool (decide (2 ≤ n ∧ n ≤ 8388608)) ∧ OwnT wx 0 W.heap.size v ([] ++ o1 ++ o2 ++ o3 ++ p4 ++ p5 ++ o6) ∧ Below W.heap.size W wx)
                        case first =>
                          by_cases h2n : 2 ≤ n
                          · have d2 : decide ((2 : Int) ≤ (n : Int)) = true := decide_eq_true (by omega)
                            have E := Lib.hid (show decide ((n : Int) ≤ 8388608) = decide (2 ≤ n ∧ n ≤ 8388608) from decide_eq_decide.2 (by omega))
                            (try go_wp2_with fail)
                            go_meet
                            case rel => exact ⟨by first | exact congrArg Value.bool E.out | rw [E.out], HO.out, HB.out⟩
                          · have d2 : decide ((2 : Int) ≤ (n : Int)) = false := decide_eq_false (by omega)
                            have E := Lib.hid (show decide (2 ≤ n ∧ n ≤ 8388608) = false from decide_eq_false (by omega))
                            (try go_wp2_with fail)
                            go_meet
                            case rel => exact ⟨by rw [E.out], HO.out, HB.out⟩
                        case rest =>
                          obtain ⟨rfl, hO, hB⟩ := hcut
                          generalize wc = u at *
                          have HO := Lib.hid hO
                          have HB := Lib.hid hB
                          clear hO hB
                          go_upto_if 111 with fail
                          go_cut [3] (fun x wx => (∃ v, v = x ∧ OwnT wx 0 W.heap.size v (([] ++ o1 ++ o2 ++ o3 ++ p4 ++ p5 ++ o6) ++ o7) ∧ Below W.heap.size W wx))
                          case first =>
                            by_cases hc : 2 ≤ n ∧ n ≤ 8388608
                            · have dc : decide (2 ≤ n ∧ n ≤ 8388608) = true := decide_eq_true hc
                              have IP7 := Lib.hid (fun w => IP.out (abvN (2 * n - 1)) (abv_pos ABI.out) (abv_le ABI.out (by omega)) w)
                              have HD := Lib.hid (show oneT 7 n (abvN (2 * n - 1)) = ⟨7, n, (plT 16777216 (abvN (2 * n - 1))).fo .nil⟩ from rfl)
                              have ABh := Lib.hid (fun w => AB.out w hc.2)
                              have ABU := Lib.hid (fun m (h : IsAbvb (2 * n - 1) m) => isAbv_uniqb h ABI.out)
                              generalize plT 16777216 (abvN (2 * n - 1)) = D1 at IP7 HD
                              generalize abvN (2 * n - 1) = am at IP7 ABU
                              have wn2 : IntKind.i64.wrap (2 * (n : Int)) = 2 * (n : Int) := IntWalk.i64_in _ (by omega)
                              obtain ⟨n2, hn2⟩ : ∃ z, 2 * n - 1 = z := ⟨_, rfl⟩
                              have wn3 : IntKind.i64.wrap (2 * (n : Int) - 1) = (n2 : Int) := by rw [IntWalk.i64_in _ (by omega)]; omega
                              rw [hn2] at ABh ABU
                              clear hn2
                              (try rw [dc])
                              go_wp2_with fail
                              refine (ABh.out _).mono ?_
                              rintro e uq ⟨m, rfl, hm, rfl⟩
                              obtain rfl := ABU.out m hm
                              clear hm
                              go_wp2_with fail
                              refine (IP7.out _).mono ?_
                              rintro e ux ⟨v1, rfl, hk1, bx⟩
                              obtain ⟨p1, m1, c1', rfl⟩ := hk1.form
                              have own := HO.out.ownLt
                              have hlu := HB.out.size
                              have ON := Lib.hid (r19_one 7 (n : Int) D1.k D1.n D1.ks _ u.heap.size ux bx.size hk1)
                              have HO2 := Lib.hid (HO.out.below bx)
                              have HB2 := Lib.hid (HB.out.trans (bx.mono HB.out.size))
                              have OWN := Lib.hid own
                              clear HO HB hk1 own bx
                              generalize hus : u.heap.size = us at *
                              go_wp2_with fail
                              refine ON.out.mono ?_
                              rintro e uy ⟨v2, rfl, hk2, by_⟩
                              obtain ⟨p2, m2, c2', rfl⟩ := hk2.form
                              have HO := Lib.hid (HO2.out.below by_)
                              have HB := Lib.hid (HB2.out.trans (by_.mono HB2.out.size))
                              have HK := Lib.hid (show KidsS uy (offB uy 0 W.heap.size v) (.slice p2 m2 c2') (D1.fo .nil) from hk2.carry (fun b hb => ⟨⟨hb.1, fun e => by have := OWN.out b e; omega, .inr (by omega)⟩, rfl⟩))
                              have hsB := HB.out.size
                              clear HO2 HB2 ON hk2 by_ OWN hus
                              go_wp2_with (at_builtin; refine append_t1 rfl _ _ rfl rfl HO.out rfl HK.out hsB (by simp only [List.length_append, List.length_nil]; omega) ?_; intro v' w' hO' hB' hk' hf')
                              obtain ⟨fa', fn', fc', rfl⟩ := hf'
                              (try go_wp2_with fail)
                              go_meet
                              case rel => exact ⟨_, rfl, by rw [O7Y.out hc, HD.out]; exact hO', HB.out.trans hB'⟩
                            · have dc : decide (2 ≤ n ∧ n ≤ 8388608) = false := decide_eq_false hc
                              (try rw [dc])
                              (try go_wp2_with fail)
                              go_meet
                              case rel => exact ⟨_, rfl, by rw [O7N.out hc, List.append_nil]; exact HO.out, HB.out⟩
                          case rest =>
                            obtain ⟨v, rfl, hO, hB⟩ := hcut
                            generalize wc = u at *
                            have HO := Lib.hid hO
                            have HB := Lib.hid hB
                            clear hO hB
                            go_wp2_with fail
                            go_ret
                            exact ⟨v, rfl, by have := HO.out; simpa only [List.nil_append] using this, HB.out⟩
end Go.Proofs.Ytfjioflggkmhcaa
