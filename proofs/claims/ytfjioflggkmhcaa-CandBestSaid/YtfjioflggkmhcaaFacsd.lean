/- Reference 3's Primes. -/
import Derived.Test.YtfjioflggkmhcaaD11
namespace Go.Proofs.Ytfjioflggkmhcaa
open Go.ChangeShapes Go.WideShapes Go.ChangeAt Go.RowKit
set_option linter.unusedVariables false
def fsts (L : List (Nat × Nat)) : List Int := L.map fun x => (x.1 : Int)
theorem fsts_len (L : List (Nat × Nat)) : (fsts L).length = L.length := by unfold fsts; rw [List.length_map]
theorem fsts_snoc (L : List (Nat × Nat)) (p e : Nat) : fsts (L ++ [(p, e)]) = fsts L ++ [(p : Int)] := by unfold fsts; rw [List.map_append]; rfl
theorem fsts_at (L : List (Nat × Nat)) (k : Nat) : (fsts L).getD k 0 = ((L.getD k (0, 0)).1 : Int) := by
  unfold fsts
  simp only [List.getD, List.getElem?_map]
  cases L[k]? <;> rfl
theorem fsts_wf {N : Nat} (hN : 1 ≤ N) (h : N ≤ 16777216) : ∀ z ∈ fsts (fa N), (Lit.int .i64 z).wf = true := by
  intro z hz
  unfold fsts at hz
  obtain ⟨⟨p, e⟩, hx, rfl⟩ := List.mem_map.1 hz
  obtain ⟨h1, h2, _⟩ := (fa_mem hN).1 hx
  have := Nat.le_of_dvd hN h2
  exact WalkArith.wf_i64 ⟨by show _ ≤ ((p : Nat) : Int); omega, by show ((p : Nat) : Int) ≤ _; omega⟩
theorem fa_len {N : Nat} (hN : 1 ≤ N) (h : N ≤ 16777216) : (fa N).length < 25 := by
  have h1 := pw_len (fa N) (fl_all hN)
  rw [pw_fa hN] at h1
  by_cases hlt : (fa N).length < 25
  · exact hlt
  · have := Nat.pow_le_pow_right (n := 2) (by omega) (show 25 ≤ (fa N).length by omega)
    omega
set_option maxRecDepth 100000 in
set_option maxHeartbeats 4000000 in
theorem r3_primesO (N : Nat) (W : World) (h1 : 1 ≤ N) (h2 : N ≤ 16777216) :
    Calls Try.prog 76 #[.int .i64 (N : Int)] W fun e w' => ∃ v, e = .returned v ∧ Owns w' W.heap.size 3 .i64 v (fsts (fa N)) ∧ Below W.heap.size W w' := by
  have S0 := Lib.hid (Rst.start h1)
  have L0 := Lib.hid (show fsts (fl N 2) = [] by rw [fl_two]; rfl)
  have WF := Lib.hid (fsts_wf h1 h2)
  have FL := fa_len h1 h2
  have FSL := Lib.hid (fsts_len (fa N))
  go_enter Try.func76, Try.ntmps76
  go_wp2_with fail
  go_loopw [0, 3, 4] (fun x v y wr => ∃ (n d : Nat) (s : Value), s = v ∧ x = .int .i64 n ∧ y = .int .i64 d ∧ 2 ≤ d ∧ d ≤ N + 1 ∧ Hid (Rst N d n) ∧ 1 ≤ n ∧ n ≤ N ∧ Hid (Owns wr W.heap.size 3 .i64 s (fsts (fl N d))) ∧ Below W.heap.size W wr) (fun _ _ y _ => N + 2 - (intOf y).toNat)
  case atStart => exact ⟨N, 2, _, rfl, rfl, rfl, by omega, by omega, S0, h1, Nat.le_refl _, Lib.hid (by rw [L0.out]; exact Owns.nil _ _ _ _), Below.refl _ _⟩
  case round =>
    clear S0 L0
    obtain ⟨n, d, s, rfl, rfl, rfl, hd2, hdN, HR, hn1, hnN, HO, hB⟩ := hrel
    have HLN : (fsts (fl N d)).length < 25 := by rw [fsts_len]; exact HR.out.len h2
    by_cases hlt : 1 < n
    · have dd : decide ((1 : Int) < (n : Int)) = true := decide_eq_true (by omega)
      have dd' : decide (1 < n) = true := decide_eq_true hlt
      obtain ⟨Z, hZ⟩ : ∃ Z, d * d = Z := ⟨_, rfl⟩
      have hZb : Z ≤ 16777217 * 16777217 := by rw [← hZ]; exact Nat.mul_le_mul (by omega) (by omega)
      have hw : IntKind.i64.wrap ((d : Int) * (d : Int)) = (Z : Int) := by
        rw [show (d : Int) * (d : Int) = ((d * d : Nat) : Int) from (Int.natCast_mul d d).symm, hZ]
        exact IntWalk.i64_in _ (by omega)
      by_cases hgt : n < Z
      · have HL := Lib.hid (HR.out.last hlt (by rw [hZ]; exact hgt))
        have HF : Hid (fsts (fl N d) ++ [(n : Int)] = fsts (fa N)) := Lib.hid (by unfold fa; rw [HL.out.2.1, fsts_snoc])
        have d3 : decide ((n : Int) < (Z : Int)) = true := decide_eq_true (by omega)
        have d3' : decide (n < Z) = true := decide_eq_true hgt
        clear hZ HL HR
        go_wp2_with (at_builtin; refine append_one Try.underlying37 info_i64 rfl _ _ rfl rfl HO.out rfl hB.size (by omega) ?_; intro v' w' hO hb')
        have HO2 := Lib.hid (by have := hO; rw [HF.out] at this; exact this)
        clear hO
        go_wp2_with fail
        go_ret
        exact ⟨_, rfl, HO2.out, hB.trans hb'⟩
      have d3 : decide ((n : Int) < (Z : Int)) = false := decide_eq_false (by omega)
      have d3' : decide (n < Z) = false := decide_eq_false hgt
      have hz1 : ((d : Int) == 0) = false := by simp; omega
      have hz2 : ¬ ((d : Int) = 0) := by omega
      have hz3 : ¬ (d = 0) := by omega
      have hmod : ((n : Int)).tmod (d : Int) = ((n % d : Nat) : Int) := by
        rw [Int.tmod_eq_emod_of_nonneg (by omega)]; omega
      have hmod' : ((n : Int)) % (d : Int) = ((n % d : Nat) : Int) := by omega
      obtain ⟨r, hr⟩ : ∃ r, n % d = r := ⟨_, rfl⟩
      rw [hr] at hmod hmod'
      clear hZ
      by_cases hr0 : r = 0
      · subst hr0
        have hd : d ∣ n := Nat.dvd_of_mod_eq_zero hr
        have HD := Lib.hid (fun e m a b => HR.out.div (e := e) (m := m) hd a b)
        have hd1 : d + 1 ≤ N + 1 := by have := Nat.le_of_dvd hn1 hd; omega
        clear HR hr hd
        go_wp2_with (at_builtin; refine append_one Try.underlying37 info_i64 rfl _ _ rfl rfl HO.out rfl hB.size (by omega) ?_; intro v' w' hO hb')
        have HO2 := Lib.hid hO
        have hB2 := hB.trans hb'
        clear hO HO hB hb'
        go_wp2_with fail
        obtain ⟨wi, rfl⟩ : ∃ wi : World, wi = w' := ⟨_, rfl⟩
        go_loopw [0] (fun x wr => ∃ m j : Nat, x = .int .i64 m ∧ 1 ≤ m ∧ m ≤ n ∧ Hid (n = d ^ j * m) ∧ wr = wi) (fun x _ => (intOf x).toNat)
        case atStart => exact ⟨n, 0, rfl, hn1, Nat.le_refl _, Lib.hid (by rw [Nat.pow_zero, Nat.one_mul]), rfl⟩
        case round =>
          clear hmod hmod'
          obtain ⟨m, j, rfl, hm1, hmn, HM, rfl⟩ := hrel
          have hmod : ((m : Int)).tmod (d : Int) = ((m % d : Nat) : Int) := by
            rw [Int.tmod_eq_emod_of_nonneg (by omega)]; omega
          have hmod' : ((m : Int)) % (d : Int) = ((m % d : Nat) : Int) := by omega
          obtain ⟨r, hr⟩ : ∃ r, m % d = r := ⟨_, rfl⟩
          rw [hr] at hmod hmod'
          by_cases hr0 : r = 0
          · subst hr0
            obtain ⟨c, hc⟩ : ∃ c, m / d = c := ⟨_, rfl⟩
            have hmc : m = d * c := by rw [← hc]; exact (Nat.mul_div_cancel' (Nat.dvd_of_mod_eq_zero hr)).symm
            have d1 : ((m : Int)).tdiv (d : Int) = ((c : Nat) : Int) := by rw [← hc]; rfl
            have d1' : ((m : Int)) / (d : Int) = ((c : Nat) : Int) := d1
            have hc1 : 1 ≤ c := by
              rcases Nat.eq_zero_or_pos c with e | e
              · rw [e] at hmc; omega
              · exact e
            have hcm : 2 * c ≤ m := by rw [hmc]; exact Nat.mul_le_mul_right c hd2
            have wd1 : IntKind.i64.wrap ((c : Nat) : Int) = ((c : Nat) : Int) := IntWalk.i64_in _ (by omega)
            have HM2 := Lib.hid (show n = d ^ (j + 1) * c by rw [HM.out, hmc, Nat.pow_succ, Nat.mul_assoc])
            clear hr hc hmc
            go_wp2_with fail
            go_roundw
            case rel => exact ⟨c, j + 1, by go_num, hc1, by omega, HM2, by first | trivial | rfl⟩
            case measure => (first | (simp [intOf]; done) | (simp [intOf]; omega) | (simp only [intOf]; omega))
          · have hz4 : ((r : Int) == 0) = false := by simp; omega
            obtain ⟨g1, g2⟩ := HD.out j m HM.out (fun hd => hr0 (by rw [← hr]; exact Nat.mod_eq_zero_of_dvd hd))
            have G1 := Lib.hid g1
            have HO3 := Lib.hid (show Owns wr W.heap.size 3 .i64 v' (fsts (fl N (d + 1))) by rw [g2, fsts_snoc]; exact HO2.out)
            clear g1 g2 HD hr HO2
            go_wp2_with fail
            go_roundw
            case rel => exact ⟨m, d + 1, _, rfl, by go_num, by go_num, by omega, hd1, G1, hm1, Nat.le_trans hmn hnN, HO3, hB2⟩
            case measure => (first | (simp [intOf]; done) | (simp [intOf]; omega) | (simp only [intOf]; omega))
      · have hz4 : ((r : Int) == 0) = false := by simp; omega
        obtain ⟨s1, s2⟩ := HR.out.skip (fun hd => hr0 (by rw [← hr]; exact Nat.mod_eq_zero_of_dvd hd)) hlt
        have S1 := Lib.hid s1
        have HO3 := Lib.hid (show Owns wr W.heap.size 3 .i64 s (fsts (fl N (d + 1))) by rw [s2]; exact HO.out)
        have hd1 := s1.top
        clear s1 s2 HR hr HO
        go_wp2_with fail
        obtain ⟨wi, rfl⟩ : ∃ wi : World, wi = wr := ⟨_, rfl⟩
        go_loopw [0] (fun x wr => x = .int .i64 n ∧ wr = wi) (fun _ _ => 0)
        case atStart => exact ⟨rfl, rfl⟩
        case round =>
          obtain ⟨rfl, rfl⟩ := hrel
          go_wp2_with fail
          go_roundw
          case rel => exact ⟨n, d + 1, _, rfl, rfl, by go_num, by omega, hd1, S1, hn1, hnN, HO3, hB⟩
          case measure => (first | (simp [intOf]; done) | (simp [intOf]; omega) | (simp only [intOf]; omega))
    · obtain rfl : n = 1 := by omega
      have HF : Hid (fl N d = fa N) := Lib.hid (by unfold fa; rw [HR.out.done])
      have HO2 := Lib.hid (by have := HO.out; rw [HF.out] at this; exact this)
      clear HO HF HR
      go_wp2_with fail
      go_ret
      exact ⟨_, rfl, HO2.out, hB⟩
theorem r3_primes (N : Nat) (W : World) (h1 : 1 ≤ N) (h2 : N ≤ 16777216) :
    Calls Try.prog 76 #[.int .i64 (N : Int)] W (GivesI W (fa N).length (fsts (fa N))) :=
  (r3_primesO N W h1 h2).mono fun e w' ⟨_, he, hO, hB⟩ => givesI_own he hO hB (fsts_wf h1 h2) (fsts_len (fa N)) (by have := fa_len h1 h2; omega)
end Go.Proofs.Ytfjioflggkmhcaa
