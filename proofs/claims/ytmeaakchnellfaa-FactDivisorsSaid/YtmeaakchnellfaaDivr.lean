/- Reference 3's Divisors. -/
import Derived.Test.YtmeaakchnellfaaDivp
import Derived.Laws.OwnMore
import Derived.Deep.Onto
namespace Go.Proofs.Ytmeaakchnellfaa
open Go.ChangeShapes Go.WideShapes Go.ChangeAt Go.RowKit
set_option linter.unusedVariables false
theorem owns_lit (w : World) (c : Int) : Owns (w.alloc (.cells #[.int .i64 c] 3)) w.heap.size 3 .i64 (.slice (some ⟨w.heap.size, 0, none⟩) 1 1) [c] := by
  have := World.ownsRow_lit (base := w.heap.size) (e := 3) (size := 1) w #[.int .i64 c] 1 (Nat.le_refl _) (by unfold maxLen; omega) rfl
  exact this
theorem owns_reads {w : World} {B : Nat} {E : TypeId} {k : IntKind} {a : Option Addr} {m c : Nat} {ys : List Int} (h : Owns w B E k (.slice a m c) ys) : Reads k w a ys := by
  obtain ⟨a', c', e, hr, _⟩ := h.shape
  injection e with e1 e2 e3
  subst e1
  exact hr
theorem apart_new {w w' : World} {B C : Nat} {E1 E2 : TypeId} {s1 s2 n1 n2 : Nat} {v u : Value} {xs ys : List Value} (h1 : w.ownsRow B E1 s1 v n1 xs) (h2 : w'.ownsRow C E2 s2 u n2 ys) (hC : w.heap.size ≤ C) : Apart v u := by
  intro g hg hu
  have a := (World.ownsRow.lt h1 g hg).2
  have b := (World.ownsRow.lt h2 g hu).1
  omega
set_option maxRecDepth 100000 in
set_option maxHeartbeats 4000000 in
theorem r3_divisors (N : Nat) (W : World) (h1 : 1 ≤ N) (h2 : N ≤ 16777216) :
    Calls Try.prog 21 #[.int .i64 (N : Int)] W fun e w' => ∃ K, IsRoot N K ∧ GivesI W (dvl N K).length (natl (dvl N K)) e w' := by
  have WF := Lib.hid (fun K => dvl_wf h1 h2 K)
  go_enter Try.func21, Try.ntmps21
  go_wp2_with fail
  obtain ⟨wo, rfl⟩ : ∃ wo : World, wo = W := ⟨_, rfl⟩
  go_loopw [3, 4, 5] (fun x y z wr => ∃ (k : Nat) (s u : Value), s = x ∧ u = y ∧ z = .int .i64 ((k : Int) + 1) ∧ k * k ≤ N ∧ k ≤ 4096 ∧ Hid (Owns wr wo.heap.size 3 .i64 s (natl (loL N k))) ∧ Hid (Owns wr wo.heap.size 3 .i64 u (natl (hiL N k).reverse)) ∧ Hid (Apart s u) ∧ Below wo.heap.size wo wr) (fun _ _ z _ => 4098 - (intOf z).toNat)
  case atStart => exact ⟨0, _, _, rfl, rfl, rfl, by omega, by omega, Lib.hid (Owns.nil _ _ _ _), Lib.hid (Owns.nil _ _ _ _), Lib.hid (Apart.nil _), Below.refl _ _⟩
  case round =>
    obtain ⟨k, s, u, rfl, rfl, rfl, hkN, hk, HL, HH, HA, hB⟩ := hrel
    have l1 := lo_len N k
    have l2 := hi_len N k
    rw [← natl_len] at l1
    rw [← List.length_reverse, ← natl_len] at l2
    obtain ⟨Z, hZ⟩ : ∃ Z, (k + 1) * (k + 1) = Z := ⟨_, rfl⟩
    have hZb : Z ≤ 4097 * 4097 := by rw [← hZ]; exact Nat.mul_le_mul (by omega) (by omega)
    have hw : IntKind.i64.wrap (((k : Int) + 1) * ((k : Int) + 1)) = (Z : Int) := by
      rw [show ((k : Int) + 1) * ((k : Int) + 1) = (((k + 1) * (k + 1) : Nat) : Int) by rw [Int.natCast_mul]; rfl, hZ]
      exact IntWalk.i64_in _ (by omega)
    by_cases hle : Z ≤ N
    · have hk1 : k + 1 ≤ 4096 := by
        by_cases h : k + 1 ≤ 4096
        · exact h
        · have := Nat.mul_le_mul (show 4097 ≤ k + 1 by omega) (show 4097 ≤ k + 1 by omega); omega
      have d4 : decide ((Z : Int) ≤ (N : Int)) = true := decide_eq_true (by omega)
      have d4' : decide (Z ≤ N) = true := decide_eq_true hle
      have hz1 : ((k : Int) + 1 == 0) = false := by simp; omega
      have hz2 : ¬ ((k : Int) + 1 = 0) := by omega
      have hmod : ((N : Int)).tmod ((k : Int) + 1) = ((N % (k + 1) : Nat) : Int) := by
        rw [Int.tmod_eq_emod_of_nonneg (by omega), show (k : Int) + 1 = ((k + 1 : Nat) : Int) by omega]; exact (Int.natCast_emod _ _).symm
      have hmod' : ((N : Int)) % ((k : Int) + 1) = ((N % (k + 1) : Nat) : Int) := by
        rw [show (k : Int) + 1 = ((k + 1 : Nat) : Int) by omega]; exact (Int.natCast_emod _ _).symm
      obtain ⟨r, hr⟩ : ∃ r, N % (k + 1) = r := ⟨_, rfl⟩
      rw [hr] at hmod hmod'
      have HZ := Lib.hid (show (k + 1) * (k + 1) ≤ N by rw [hZ]; exact hle)
      by_cases hr0 : r = 0
      · subst hr0
        have hd : (k + 1) ∣ N := Nat.dvd_of_mod_eq_zero hr
        have EL := Lib.hid (show natl (loL N k) ++ [(k : Int) + 1] = natl (loL N (k + 1)) by rw [lo_yes hd, natl_app, natl_one]; rfl)
        obtain ⟨c, hc⟩ : ∃ c, N / (k + 1) = c := ⟨_, rfl⟩
        have hcN : c ≤ N := by rw [← hc]; exact Nat.div_le_self _ _
        have d1 : ((N : Int)).tdiv ((k : Int) + 1) = ((c : Nat) : Int) := by rw [← hc]; rfl
        have d1' : ((N : Int)) / ((k : Int) + 1) = ((c : Nat) : Int) := d1
        have wd1 : IntKind.i64.wrap ((c : Nat) : Int) = ((c : Nat) : Int) := IntWalk.i64_in _ (by omega)
        by_cases hE : Z = N
        · have EH := Lib.hid (show hiL N k = hiL N (k + 1) from (hi_eq (by rw [hZ]; exact hE)).symm)
          have e5 : ((Z : Int) != (N : Int)) = false := by simp; omega
          clear hZ hr hc hd d1 d1'
          go_wp2_with (at_builtin; refine append_keep Try.underlying28 info_i64 rfl _ _ rfl rfl HL.out rfl hB.size (by omega) ?_; intro v' w' hO hb' hK)
          have HL2 := Lib.hid (by have := hO; rw [EL.out] at this; exact this)
          obtain ⟨k1, k2⟩ := hK _ _ _ _ _ _ HH.out HA.out
          have HH2 := Lib.hid (show Owns w' wo.heap.size 3 .i64 u (natl (hiL N (k + 1)).reverse) by rw [← EH.out]; exact k1)
          have HA2 := Lib.hid k2
          clear hO hK k1 k2 HL HH HA
          go_wp2_with fail
          go_roundw
          case rel => exact ⟨k + 1, _, _, rfl, rfl, by go_num, HZ.out, hk1, HL2, HH2, HA2, hB.trans hb'⟩
          case measure => (first | (simp [intOf]; done) | (simp [intOf]; omega) | (simp only [intOf]; omega))
        · have EH := Lib.hid (show [(c : Int)] ++ natl (hiL N k).reverse = natl (hiL N (k + 1)).reverse by rw [hi_yes hd (by rw [hZ]; exact hE), List.reverse_append, natl_app, hc]; rfl)
          have e5 : ((Z : Int) != (N : Int)) = true := by simp; omega
          clear hr hc hd hZ
          obtain ⟨a, cc, rfl, hrd, _, _⟩ := HH.out.shape
          obtain ⟨m, hm⟩ : ∃ m, (natl (hiL N k).reverse).length = m := ⟨_, rfl⟩
          rw [hm] at HA HH l2
          rw [hm]
          have HRD := Lib.hid hrd
          have HM := Lib.hid hm
          clear hrd hm
          go_wp2_with (first | (at_builtin; refine append_keep Try.underlying28 info_i64 rfl _ _ rfl rfl HL.out rfl hB.size (by omega) ?_; intro v' w' hO hb' hK; have HL2 := Lib.hid (by have := hO; rw [EL.out] at this; exact this); obtain ⟨k1, k2⟩ := hK _ _ _ _ _ _ HH.out HA.out; have HH2 := Lib.hid (show Owns w' wo.heap.size 3 .i64 (.slice a m cc) (natl (hiL N k).reverse) from k1); have hB2 := hB.trans hb'; clear hO hK k1 k2 HL HH HA hB hb' HRD; have HRD := Lib.hid (readsI_below (owns_reads HH2.out) ((Below.refl _ _).alloc (Nat.le_refl _) (.cells #[.int .i64 (c : Int)] 3))); have HLT := Lib.hid (owns_lit w' (c : Int))) | (at_builtin; refine append_all Try.underlying28 info_i64 rfl _ _ rfl rfl HLT.out rfl HM.out HRD.out (by simp) (by simp; omega) ?_; intro v2' w2' hO hb'))
          have hb2 := ((Below.refl w'.heap.size w').alloc (Nat.le_refl _) (.cells #[.int .i64 (c : Int)] 3)).trans hb'
          have HH3 := Lib.hid (show Owns w2' wo.heap.size 3 .i64 v2' (natl (hiL N (k + 1)).reverse) by
            have := hO
            rw [EH.out] at this
            exact World.ownsRow.mono this hB2.size)
          have HA3 := Lib.hid (apart_new HL2.out hO (Nat.le_refl _))
          have HL3 := Lib.hid (HL2.out.below hb2)
          have hB3 := hB2.trans (hb2.mono hB2.size)
          clear hO hb2 hb' HL2 HH2 HRD HLT hB2
          go_wp2_with fail
          go_roundw
          case rel => exact ⟨k + 1, _, _, rfl, rfl, by go_num, HZ.out, hk1, HL3, HH3, HA3, hB3⟩
          case measure => (first | (simp [intOf]; done) | (simp [intOf]; omega) | (simp only [intOf]; omega))
      · have hnd : ¬ (k + 1) ∣ N := fun hd => hr0 (by rw [← hr]; exact Nat.mod_eq_zero_of_dvd hd)
        have hz4 : ((r : Int) == 0) = false := by simp; omega
        have hz5 : ((r : Int) != 0) = true := by simp; omega
        have HL2 := Lib.hid (show Owns wr wo.heap.size 3 .i64 s (natl (loL N (k + 1))) by rw [lo_no hnd]; exact HL.out)
        have HH2 := Lib.hid (show Owns wr wo.heap.size 3 .i64 u (natl (hiL N (k + 1)).reverse) by rw [hi_no hnd]; exact HH.out)
        clear hr hnd HL HH
        go_wp2_with fail
        go_roundw
        case rel => exact ⟨k + 1, _, _, rfl, rfl, by go_num, HZ.out, hk1, HL2, HH2, HA, hB⟩
        case measure => (first | (simp [intOf]; done) | (simp [intOf]; omega) | (simp only [intOf]; omega))
    · have d4 : decide ((Z : Int) ≤ (N : Int)) = false := decide_eq_false (by omega)
      have d4' : decide (Z ≤ N) = false := decide_eq_false hle
      have hroot : IsRoot N k := ⟨hkN, by omega⟩
      have HRT := Lib.hid hroot
      have EE := Lib.hid (show natl (loL N k) ++ natl (hiL N k).reverse = natl (dvl N k) by unfold dvl; rw [natl_app])
      obtain ⟨a, cc, rfl, hrd, _, _⟩ := HH.out.shape
      obtain ⟨m, hm⟩ : ∃ m, (natl (hiL N k).reverse).length = m := ⟨_, rfl⟩
      rw [hm] at HA HH l2
      rw [hm]
      have HRD := Lib.hid hrd
      have HM := Lib.hid hm
      have YN := Lib.hid (natl_len (dvl N k))
      have YW := Lib.hid (WF.out k)
      have hlen : (dvl N k).length ≤ 17592186044415 := by
        have : (natl (dvl N k)).length = (natl (loL N k)).length + m := by rw [← EE.out, List.length_append, HM.out]
        rw [YN.out] at this
        omega
      clear hrd hm hroot hZ
      go_wp2_with (at_builtin; refine append_all Try.underlying28 info_i64 rfl _ _ rfl rfl HL.out rfl HM.out HRD.out hB.size (by omega) ?_; intro v' w' hO hb')
      have HO2 := Lib.hid (by have := hO; rw [EE.out] at this; exact this)
      clear hO
      go_wp2_with fail
      go_ret
      exact ⟨k, HRT.out, givesI_own rfl HO2.out (hB.trans hb') YW.out YN.out hlen⟩
end Go.Proofs.Ytmeaakchnellfaa
