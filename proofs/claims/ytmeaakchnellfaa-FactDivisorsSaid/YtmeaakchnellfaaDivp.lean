/- Package fact: Divisors; reference 3's Divisors. -/
import Derived.Test.YtmeaakchnellfaaDiv
import Derived.Test.YtmeaakchnellfaaTwo
import Derived.Test.YtmeaakchnellfaaOwnm
namespace Go.Proofs.Ytmeaakchnellfaa
open Go.ChangeShapes Go.WideShapes Go.ChangeAt Go.RowKit
set_option linter.unusedVariables false
def natl (l : List Nat) : List Int := l.map fun (x : Nat) => (x : Int)
theorem natl_len (l : List Nat) : (natl l).length = l.length := by unfold natl; rw [List.length_map]
theorem natl_app (a b : List Nat) : natl (a ++ b) = natl a ++ natl b := by unfold natl; rw [List.map_append]
theorem natl_rev (a : List Nat) : natl a.reverse = (natl a).reverse := by unfold natl; rw [List.map_reverse]
theorem natl_one (x : Nat) : natl [x] = [(x : Int)] := rfl
theorem natl_at (l : List Nat) (k : Nat) : (natl l).getD k 0 = ((l.getD k 0 : Nat) : Int) := by
  unfold natl
  simp only [List.getD, List.getElem?_map]
  cases l[k]? <;> rfl
def loL (N k : Nat) : List Nat := lf (dv N) k
def hiL (N k : Nat) : List Nat := (lf (dw N) k).map fun d => N / d
/-- All divisors, where K is the root. -/
def dvl (N K : Nat) : List Nat := loL N K ++ (hiL N K).reverse
theorem lo_yes {N k : Nat} (h : (k + 1) ∣ N) : loL N (k + 1) = loL N k ++ [k + 1] := lf_yes (decide_eq_true h)
theorem lo_no {N k : Nat} (h : ¬ (k + 1) ∣ N) : loL N (k + 1) = loL N k := lf_no (decide_eq_false h)
theorem hi_no {N k : Nat} (h : ¬ (k + 1) ∣ N) : hiL N (k + 1) = hiL N k := by
  unfold hiL
  rw [lf_no (by unfold dw dv; rw [decide_eq_false h, Bool.false_and])]
theorem hi_eq {N k : Nat} (h : (k + 1) * (k + 1) = N) : hiL N (k + 1) = hiL N k := by
  unfold hiL
  rw [lf_no (by unfold dw; rw [decide_eq_false (fun hn => hn h), Bool.and_false])]
theorem hi_yes {N k : Nat} (h : (k + 1) ∣ N) (h2 : (k + 1) * (k + 1) ≠ N) : hiL N (k + 1) = hiL N k ++ [N / (k + 1)] := by
  unfold hiL
  rw [lf_yes (by unfold dw dv; rw [decide_eq_true h, decide_eq_true h2]; rfl), List.map_append]; rfl
theorem lo_len (N k : Nat) : (loL N k).length ≤ k := by unfold loL; rw [lf_len]; exact cf_le _ _
theorem hi_len (N k : Nat) : (hiL N k).length ≤ k := by unfold hiL; rw [List.length_map, lf_len]; exact cf_le _ _
theorem dvl_len {N K : Nat} (hN : 1 ≤ N) (h1 : K * K ≤ N) (h2 : N < (K + 1) * (K + 1)) : (dvl N K).length = nd (fa N) := by
  unfold dvl loL hiL
  rw [List.length_append, List.length_reverse, List.length_map, lf_len, lf_len, tau_parts hN h1 h2, tau_nd hN]
theorem dvl_wf {N : Nat} (hN : 1 ≤ N) (h : N ≤ 16777216) (K : Nat) : ∀ z ∈ natl (dvl N K), (Lit.int .i64 z).wf = true := by
  intro z hz
  unfold natl at hz
  obtain ⟨x, hx, rfl⟩ := List.mem_map.1 hz
  have hxN : x ≤ N := by
    unfold dvl at hx
    rcases List.mem_append.1 hx with hx | hx
    · have := (lf_mem.1 hx).2.2
      exact Nat.le_of_dvd hN (of_decide_eq_true this)
    · rw [List.mem_reverse] at hx
      obtain ⟨d, hd, rfl⟩ := List.mem_map.1 hx
      exact Nat.div_le_self N d
  exact WalkArith.wf_i64 ⟨by omega, by omega⟩
theorem root_uniq {N a b : Nat} (h1 : a * a ≤ N) (h2 : N < (a + 1) * (a + 1)) (h3 : b * b ≤ N) (h4 : N < (b + 1) * (b + 1)) : a = b := by
  rcases Nat.lt_trichotomy a b with h | h | h
  · have := Nat.mul_le_mul (show a + 1 ≤ b from h) (show a + 1 ≤ b from h); omega
  · exact h
  · have := Nat.mul_le_mul (show b + 1 ≤ a from h) (show b + 1 ≤ a from h); omega
def IsRoot (N K : Nat) : Prop := K * K ≤ N ∧ N < (K + 1) * (K + 1)
theorem fact_divisorsno (n : Int) (W : World) (h : ¬ (1 ≤ n ∧ n ≤ 16777216)) :
    Calls Try.prog 19 #[.int .i64 n] W fun e w' => e = .returned (.tuple #[.slice none 0 0, .int .i64 3]) ∧ W = w' := by
  have H := fun w => fact_withinb n w
  rw [decide_eq_false h] at H
  have H := Lib.hid H
  go_enter Try.func19, Try.ntmps19
  go_wp2_with fail
  refine (H.out _).mono ?_
  rintro e w1 ⟨rfl, rfl⟩
  go_wp2_with fail
  go_ret2
  exact ⟨rfl, rfl⟩
set_option maxRecDepth 100000 in
set_option maxHeartbeats 4000000 in
theorem fact_divisors (N : Nat) (W : World) (h1 : 1 ≤ N) (h2 : N ≤ 16777216) :
    Calls Try.prog 19 #[.int .i64 (N : Int)] W fun e w' => ∃ K, IsRoot N K ∧ GivesIOk W (dvl N K).length (natl (dvl N K)) e w' := by
  have H := fun w => fact_withinb (N : Int) w
  rw [decide_eq_true (by omega)] at H
  have H := Lib.hid H
  have WF := Lib.hid (fun K => dvl_wf h1 h2 K)
  go_enter Try.func19, Try.ntmps19
  go_wp2_with fail
  refine (H.out _).mono ?_
  rintro e w1 ⟨rfl, rfl⟩
  go_wp2_with fail
  obtain ⟨wo, rfl⟩ : ∃ wo : World, wo = W := ⟨_, rfl⟩
  go_loopw [4, 5, 6] (fun x y z wr => ∃ (k : Nat) (s u : Value), s = x ∧ u = y ∧ z = .int .i64 ((k : Int) + 1) ∧ k * k ≤ N ∧ k ≤ 4096 ∧ Hid (Owns wr wo.heap.size 3 .i64 s (natl (loL N k))) ∧ Hid (Owns wr wo.heap.size 3 .i64 u (natl (hiL N k))) ∧ Hid (Apart s u) ∧ Below wo.heap.size wo wr) (fun _ _ z _ => 4098 - (intOf z).toNat)
  case atStart => exact ⟨0, _, _, rfl, rfl, rfl, by omega, by omega, Lib.hid (Owns.nil _ _ _ _), Lib.hid (Owns.nil _ _ _ _), Lib.hid (Apart.nil _), Below.refl _ _⟩
  case round =>
    obtain ⟨k, s, u, rfl, rfl, rfl, hkN, hk, HL, HH, HA, hB⟩ := hrel
    have l1 := lo_len N k
    have l2 := hi_len N k
    rw [← natl_len] at l1 l2
    obtain ⟨Z, hZ⟩ : ∃ Z, (k + 1) * (k + 1) = Z := ⟨_, rfl⟩
    have hZb : Z ≤ 4097 * 4097 := by rw [← hZ]; exact Nat.mul_le_mul (by omega) (by omega)
    have hw : IntKind.i64.wrap (((k : Int) + 1) * ((k : Int) + 1)) = (Z : Int) := by
      rw [show ((k : Int) + 1) * ((k : Int) + 1) = (((k + 1) * (k + 1) : Nat) : Int) by rw [Int.natCast_mul]; rfl, hZ]
      exact IntWalk.i64_in _ (by omega)
    by_cases hle : Z ≤ N
    · have hk1 : k + 1 ≤ 4096 := by
        by_cases h : k + 1 ≤ 4096
        · exact h
        · have := Nat.mul_le_mul (show 4097 ≤ k + 1 by omega) (show 4097 ≤ k + 1 by omega); omega
      have d4 : decide ((Z : Int) ≤ (N : Int)) = true := decide_eq_true (by omega)
      have d4' : decide (Z ≤ N) = true := decide_eq_true hle
      have hz1 : ((k : Int) + 1 == 0) = false := by simp; omega
      have hz2 : ¬ ((k : Int) + 1 = 0) := by omega
      have hmod : ((N : Int)).tmod ((k : Int) + 1) = ((N % (k + 1) : Nat) : Int) := by
        rw [Int.tmod_eq_emod_of_nonneg (by omega), show (k : Int) + 1 = ((k + 1 : Nat) : Int) by omega]; exact (Int.natCast_emod _ _).symm
      have hmod' : ((N : Int)) % ((k : Int) + 1) = ((N % (k + 1) : Nat) : Int) := by
        rw [show (k : Int) + 1 = ((k + 1 : Nat) : Int) by omega]; exact (Int.natCast_emod _ _).symm
      obtain ⟨r, hr⟩ : ∃ r, N % (k + 1) = r := ⟨_, rfl⟩
      rw [hr] at hmod hmod'
      have HZ := Lib.hid (show (k + 1) * (k + 1) ≤ N by rw [hZ]; exact hle)
      by_cases hr0 : r = 0
      · subst hr0
        have hd : (k + 1) ∣ N := Nat.dvd_of_mod_eq_zero hr
        have EL := Lib.hid (show natl (loL N k) ++ [(k : Int) + 1] = natl (loL N (k + 1)) by rw [lo_yes hd, natl_app, natl_one]; rfl)
        obtain ⟨c, hc⟩ : ∃ c, N / (k + 1) = c := ⟨_, rfl⟩
        have hcN : c ≤ N := by rw [← hc]; exact Nat.div_le_self _ _
        have d1 : ((N : Int)).tdiv ((k : Int) + 1) = ((c : Nat) : Int) := by rw [← hc]; rfl
        have d1' : ((N : Int)) / ((k : Int) + 1) = ((c : Nat) : Int) := d1
        have wd1 : IntKind.i64.wrap ((c : Nat) : Int) = ((c : Nat) : Int) := IntWalk.i64_in _ (by omega)
        by_cases hE : Z = N
        · have EH := Lib.hid (show hiL N k = hiL N (k + 1) from (hi_eq (by rw [hZ]; exact hE)).symm)
          have e5 : ((Z : Int) != (N : Int)) = false := by simp; omega
          clear hZ hr hc hd d1 d1'
          go_wp2_with (at_builtin; refine append_keep Try.underlying28 info_i64 rfl _ _ rfl rfl HL.out rfl hB.size (by omega) ?_; intro v' w' hO hb' hK)
          have HL2 := Lib.hid (by have := hO; rw [EL.out] at this; exact this)
          obtain ⟨k1, k2⟩ := hK _ _ _ _ _ _ HH.out HA.out
          have HH2 := Lib.hid (show Owns w' wo.heap.size 3 .i64 u (natl (hiL N (k + 1))) by rw [← EH.out]; exact k1)
          have HA2 := Lib.hid k2
          clear hO hK k1 k2 HL HH HA
          go_wp2_with fail
          go_roundw
          case rel => exact ⟨k + 1, _, _, rfl, rfl, by go_num, HZ.out, hk1, HL2, HH2, HA2, hB.trans hb'⟩
          case measure => (first | (simp [intOf]; done) | (simp [intOf]; omega) | (simp only [intOf]; omega))
        · have EH := Lib.hid (show natl (hiL N k) ++ [(c : Int)] = natl (hiL N (k + 1)) by rw [hi_yes hd (by rw [hZ]; exact hE), natl_app, natl_one, hc])
          have e5 : ((Z : Int) != (N : Int)) = true := by simp; omega
          clear hr hc hd hZ
          go_wp2_with (first | (at_builtin; refine append_keep Try.underlying28 info_i64 rfl _ _ rfl rfl HL.out rfl hB.size (by omega) ?_; intro v' w' hO hb' hK; have HL2 := Lib.hid (by have := hO; rw [EL.out] at this; exact this); obtain ⟨k1, k2⟩ := hK _ _ _ _ _ _ HH.out HA.out; have HH2 := Lib.hid (show Owns w' wo.heap.size 3 .i64 u (natl (hiL N k)) from k1); have HA2 := Lib.hid k2; have hB2 := hB.trans hb'; clear hO hK k1 k2 HL HH HA hB hb') | (at_builtin; refine append_keep Try.underlying28 info_i64 rfl _ _ rfl rfl HH2.out rfl hB2.size (by omega) ?_; intro v2' w2' hO hb' hK))
          have HH3 := Lib.hid (by have := hO; rw [EH.out] at this; exact this)
          obtain ⟨k1, k2⟩ := hK _ _ _ _ _ _ HL2.out HA2.out.symm
          have HL3 := Lib.hid (show Owns w2' wo.heap.size 3 .i64 v' (natl (loL N (k + 1))) from k1)
          have HA3 := Lib.hid k2.symm
          clear hO hK k1 k2 HL2 HH2 HA2
          go_wp2_with fail
          go_roundw
          case rel => exact ⟨k + 1, _, _, rfl, rfl, by go_num, HZ.out, hk1, HL3, HH3, HA3, hB2.trans hb'⟩
          case measure => (first | (simp [intOf]; done) | (simp [intOf]; omega) | (simp only [intOf]; omega))
      · have hnd : ¬ (k + 1) ∣ N := fun hd => hr0 (by rw [← hr]; exact Nat.mod_eq_zero_of_dvd hd)
        have hz4 : ((r : Int) == 0) = false := by simp; omega
        have hz5 : ((r : Int) != 0) = true := by simp; omega
        have HL2 := Lib.hid (show Owns wr wo.heap.size 3 .i64 s (natl (loL N (k + 1))) by rw [lo_no hnd]; exact HL.out)
        have HH2 := Lib.hid (show Owns wr wo.heap.size 3 .i64 u (natl (hiL N (k + 1))) by rw [hi_no hnd]; exact HH.out)
        clear hr hnd HL HH
        go_wp2_with fail
        go_roundw
        case rel => exact ⟨k + 1, _, _, rfl, rfl, by go_num, HZ.out, hk1, HL2, HH2, HA, hB⟩
        case measure => (first | (simp [intOf]; done) | (simp [intOf]; omega) | (simp only [intOf]; omega))
    · have d4 : decide ((Z : Int) ≤ (N : Int)) = false := decide_eq_false (by omega)
      have d4' : decide (Z ≤ N) = false := decide_eq_false hle
      have hroot : IsRoot N k := ⟨hkN, by omega⟩
      have HRT := Lib.hid hroot
      have hHs := HH.out.shape
      obtain ⟨a, c', rfl, hr, _, _⟩ := hHs
      have HWH : ∀ z ∈ natl (hiL N k), (Lit.int .i64 z).wf = true := by
        intro z hz
        refine WF.out k z ?_
        unfold dvl
        rw [natl_app, natl_rev]
        exact List.mem_append_right _ (by simpa using hz)
      obtain ⟨m, hm⟩ : ∃ m, (natl (hiL N k)).length = m := ⟨_, rfl⟩
      obtain ⟨q, hq⟩ : ∃ q, (natl (loL N k)).length = q := ⟨_, rfl⟩
      have YE := Lib.hid (show natl (dvl N k) = natl (loL N k) ++ (natl (hiL N k)).reverse by unfold dvl; rw [natl_app, natl_rev])
      have YL := Lib.hid (show (natl (dvl N k)).length = q + m by rw [YE.out, List.length_append, List.length_reverse, hq, hm])
      have YA := Lib.hid (fun i (h : i < m) => (show (natl (dvl N k)).getD (q + (m - (i + 1))) 0 = (natl (hiL N k)).getD i 0 by
        rw [YE.out]
        simp only [List.getD]
        rw [List.getElem?_append_right (by omega), hq, Nat.add_sub_cancel_left, List.getElem?_reverse (by omega), hm, show m - 1 - (m - (i + 1)) = i by omega]))
      have Y0 := Lib.hid (show upto (natl (dvl N k)) q = natl (loL N k) by unfold upto; rw [YE.out, ← hq, List.take_left])
      have YW := Lib.hid (WF.out k)
      have YN := Lib.hid (natl_len (dvl N k))
      have HRT := Lib.hid hroot
      have HL1 := Lib.hid (show Owns wr wo.heap.size 3 .i64 s (upto (natl (dvl N k)) q) by rw [Y0.out]; exact HL.out)
      have HWI := Lib.hid (fun i (h : i < m) => (show -9223372036854775808 ≤ (natl (hiL N k)).getD i 0 ∧ (natl (hiL N k)).getD i 0 ≤ 9223372036854775807 by
        have e : (natl (hiL N k)).getD i 0 = (natl (hiL N k))[i]'(by omega) := by simp [List.getD, show i < (natl (hiL N k)).length by omega]
        rw [e]; exact bounds_i64 (HWH _ (List.getElem_mem _))))
      rw [hm]
      rw [hm] at HH HA l2
      have hqb : q ≤ 4096 := by omega
      have HM := Lib.hid hm
      clear hr hm hq HWH HL WF Y0 YE hroot hZ l1
      have hmul : ∀ x, x ∈ natl (dvl N k) → True := fun _ _ => trivial
      clear hmul
      have hfin : ∀ (K : Nat), Hid (IsRoot N K) → True := fun _ _ => trivial
      clear hfin
      have QF := Lib.hid (fun e w' (g : GivesIOk wo (q + m) (natl (dvl N k)) e w') => (show ∃ K, IsRoot N K ∧ GivesIOk wo (dvl N K).length (natl (dvl N K)) e w' from ⟨k, HRT.out, by rw [← YN.out, YL.out]; exact g⟩))
      generalize natl (dvl N k) = ys at *
      generalize natl (hiL N k) = hs at *
      obtain ⟨wi, rfl⟩ : ∃ wi : World, wi = wr := ⟨_, rfl⟩
      go_wp2_with fail
      go_loopw [4, 7] (fun x y wr => ∃ (i : Nat) (s : Value), s = x ∧ i ≤ m ∧ y = .int .i64 ((i : Int) - 1) ∧ Hid (Owns wr wo.heap.size 3 .i64 s (upto ys (q + (m - i)))) ∧ Hid (Owns wr wo.heap.size 3 .i64 (.slice a m c') hs) ∧ Hid (Apart s (.slice a m c')) ∧ Below wo.heap.size wo wr) (fun _ y _ => (intOf y + 1).toNat)
      case atStart => exact ⟨m, _, rfl, Nat.le_refl _, rfl, Lib.hid (by rw [Nat.sub_self, Nat.add_zero]; exact HL1.out), HH, HA, hB⟩
      case round =>
        clear HL1 HH HA hB
        obtain ⟨i, s, rfl, hi, rfl, HL, HH, HA, hB⟩ := hrel
        cases i with
        | zero =>
          have HO3 := HL.out
          rw [Nat.sub_zero, upto_full ys (q + m) YL.out] at HO3
          obtain ⟨a3, c3, rfl, hr3, _, _⟩ := HO3.shape
          have R3 := Lib.hid (show RowI wr a3 (q + m) ys from ⟨YL.out, hr3, YW.out, by omega⟩)
          rw [YL.out]
          clear HO3 hr3 HL HH HA
          go_wp2_with fail
          go_ret2
          exact QF.out _ _ ⟨_, _, rfl, R3.out, hB⟩
        | succ i =>
          have ex : (((i + 1 : Nat) : Int) - 1) = (i : Int) := by omega
          rw [ex]
          have d3 : decide ((0 : Int) ≤ (i : Int)) = true := decide_eq_true (by omega)
          obtain ⟨x0, x1⟩ := HWI.out i hi
          have e1 := YA.out i hi
          obtain ⟨a4, c4, e4, hr4, _, _⟩ := HH.out.shape
          have hlen4 : hs.length = m := HM.out
          have hcx : ∃ b off, a = some ⟨b, off, none⟩ ∧ wr.cell? ⟨b, off + i, none⟩ = some (.int .i64 (hs.getD i 0)) := by
            injection e4 with e5 e6 e7
            subst e5
            rcases hr4 with hn | ⟨b, off, e, hb, hcell⟩
            · rw [hn] at hlen4; simp at hlen4; omega
            · exact ⟨b, off, e, hcell i (by omega)⟩
          obtain ⟨b, off, rfl, hcx⟩ := hcx
          obtain ⟨j, hj⟩ : ∃ j, m - (i + 1) = j := ⟨_, rfl⟩
          have hj1 : m - i = j + 1 := by omega
          rw [hj] at HL e1
          generalize hs.getD i 0 = x at *
          have HP := Lib.hid (upto_snoc ys (q + j) x (by rw [YL.out]; omega) e1)
          have HK := Lib.hid (upto_len ys (q + j) (by rw [YL.out]; omega))
          have hjm : j ≤ m := by omega
          clear e1 hj hr4 e4
          go_wp2_with (at_builtin; refine append_keep Try.underlying28 info_i64 rfl _ _ rfl rfl HL.out rfl hB.size (by rw [HK.out]; omega) ?_; intro v' w' hO hb' hK)
          have HL2 := Lib.hid (by have := hO; rw [HP.out] at this; exact this)
          obtain ⟨k1, k2⟩ := hK _ _ _ _ _ _ HH.out HA.out
          have HH2 := Lib.hid (show Owns w' wo.heap.size 3 .i64 (.slice (some ⟨b, off, none⟩) m c') hs from k1)
          have HA2 := Lib.hid k2
          clear hO hK k1 k2 HL HH HA
          go_wp2_with fail
          go_roundw
          case rel => exact ⟨i, _, rfl, by omega, by go_num, by rw [hj1]; exact HL2, HH2, HA2, hB.trans hb'⟩
          case measure => (first | (simp [intOf]; done) | (simp [intOf]; omega) | (simp only [intOf]; omega))
end Go.Proofs.Ytmeaakchnellfaa
