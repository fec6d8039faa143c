/- Package cand's powers; the least power of two (package chirp's Least). -/
import Derived.Test.YtfjioflggkmhcaaCanda
namespace Go.Proofs.Ytfjioflggkmhcaa
open Go.ChangeShapes Go.WideShapes Go.ChangeAt Go.RowKit
set_option linter.unusedVariables false
set_option linter.unusedSimpArgs false
def pws (L : List (Nat × Nat)) : List Int := L.map fun x => ((x.1 ^ x.2 : Nat) : Int)
theorem pws_len (L : List (Nat × Nat)) : (pws L).length = L.length := by unfold pws; rw [List.length_map]
theorem pws_at (L : List (Nat × Nat)) (k : Nat) (hk : k < L.length) : (pws L).getD k 0 = (((L.getD k (0, 0)).1 ^ (L.getD k (0, 0)).2 : Nat) : Int) := by
  unfold pws
  simp only [List.getD, List.getElem?_map]
  rw [List.getElem?_eq_getElem hk]; rfl
theorem fa_pow {N i : Nat} (h1 : 1 ≤ N) (hi : i < (fa N).length) : 2 ≤ ((fa N).getD i (0, 0)).1 ∧ ((fa N).getD i (0, 0)).1 ∣ N ∧ isP ((fa N).getD i (0, 0)).1 ∧ ((fa N).getD i (0, 0)).2 = mu ((fa N).getD i (0, 0)).1 N ∧ ((fa N).getD i (0, 0)).1 ^ ((fa N).getD i (0, 0)).2 ≤ N := by
  have hm : (((fa N).getD i (0, 0)).1, ((fa N).getD i (0, 0)).2) ∈ fa N := by
    rw [List.getD, List.getElem?_eq_getElem hi]; exact List.getElem_mem hi
  obtain ⟨g1, g2, g3⟩ := (fa_mem h1).1 hm
  obtain ⟨m, e, _⟩ := mu_split g1.1 N h1
  refine ⟨g1.1, g2, g1, g3, ?_⟩
  rw [g3]
  exact Nat.le_of_dvd h1 ⟨m, e⟩
theorem pws_wf {N : Nat} (hN : 1 ≤ N) (h : N ≤ 16777216) : ∀ z ∈ pws (fa N), (Lit.int .i64 z).wf = true := by
  intro z hz
  unfold pws at hz
  obtain ⟨x, hx, rfl⟩ := List.mem_map.1 hz
  obtain ⟨i, hi, e⟩ := List.getElem_of_mem hx
  have := (fa_pow hN hi).2.2.2.2
  rw [List.getD, List.getElem?_eq_getElem hi, Option.getD_some, e] at this
  exact WalkArith.wf_i64 ⟨by omega, by omega⟩
set_option maxRecDepth 100000 in
set_option maxHeartbeats 4000000 in
theorem cand_powers (N : Nat) (W : World) (h1 : 1 ≤ N) (h2 : N ≤ 16777216) :
    Calls Try.prog 71 #[.int .i64 (N : Int)] W (GivesI W (fa N).length (pws (fa N))) := by
  have FF := Lib.hid (fun w => fact_factors N w h1 h2)
  have FL := fa_len h1 h2
  have WF := Lib.hid (pws_wf h1 h2)
  have FP := Lib.hid (fun i (hi : i < (fa N).length) => fa_pow h1 hi)
  have hB : Below W.heap.size W W := Below.refl _ _
  generalize fa N = L at *
  obtain ⟨n, hn⟩ : ∃ n, L.length = n := ⟨_, rfl⟩
  rw [hn] at FL FP
  have GP := Lib.hid (fun w e w' (h : GivesP w L e w') => (show ∃ a c, e = .returned (.tuple #[.slice a n c, .int .i64 0]) ∧ RowP w' a n L ∧ Below w.heap.size w w' by unfold GivesP at h; rw [hn] at h; exact h))
  have FSL := Lib.hid (show (pws L).length = n by rw [pws_len]; exact hn)
  have FT := Lib.hid (fun i (hi : i < n) => (show (pws L).take (i + 1) = (pws L).take i ++ [(((L.getD i (0, 0)).1 ^ (L.getD i (0, 0)).2 : Nat) : Int)] by
    have e := List.take_succ_eq_append_getElem (l := pws L) (i := i) (by rw [pws_len]; omega)
    rw [e, ← pws_at L i (by omega), List.getD, List.getElem?_eq_getElem (by rw [pws_len]; omega)]; rfl))
  have FA := Lib.hid (show (pws L).take n = pws L by rw [← FSL.out]; exact List.take_length)
  rw [hn]
  clear hn
  generalize pws L = ys at *
  go_enter Try.func71, Try.ntmps71
  go_wp2_with fail
  refine (FF.out _).mono ?_
  intro e w1 h
  obtain ⟨p1, k1, rfl, hr, b1⟩ := GP.out _ _ _ h
  have R1 := Lib.hid hr; clear hr h
  have hB := hB.trans (b1.mono hB.size); clear b1
  clear FF GP
  go_wp2_with fail
  go_loopw [5, 8, 16, 22] (fun x q y z wr => ∃ (i : Nat) (s qq zz : Value), s = x ∧ qq = q ∧ zz = z ∧ i ≤ n ∧ y = .int .i64 i ∧ Hid (Owns wr w1.heap.size 3 .i64 s (ys.take i)) ∧ Below w1.heap.size w1 wr) (fun _ _ y _ _ => n - (intOf y).toNat)
  case atStart => exact ⟨0, _, _, _, rfl, rfl, rfl, Nat.zero_le _, rfl, Lib.hid (by rw [List.take_zero]; exact Owns.nil _ _ _ _), Below.refl _ _⟩
  case round =>
    obtain ⟨i, s, qq, zz, rfl, rfl, rfl, hi, rfl, HO, hB3⟩ := hrel
    by_cases hlt : i < n
    · obtain ⟨b1, o1, rfl, hb1, hc1, hd1⟩ := (R1.out.below hB3).cell i hlt
      obtain ⟨q1, -, -, -, q5⟩ := FP.out i hlt
      have TT := Lib.hid (FT.out i hlt)
      have TL : (ys.take i).length < 100 := by rw [List.length_take]; omega
      generalize ys.take i = zs at *
      generalize (L.getD i (0, 0)).1 = p at *
      generalize (L.getD i (0, 0)).2 = ex at *
      have dd : decide ((i : Int) < (n : Int)) = true := decide_eq_true (by omega)
      have hp0 : 1 ≤ p := by omega
      have hex : ex ≤ 16777216 := by
        have g1 := Nat.lt_pow_self (show 1 < p by omega) (n := ex)
        omega
      have HPW := Lib.hid (fun t (ht : t ≤ ex) => Nat.le_trans (Nat.pow_le_pow_right hp0 ht) q5)
      have H0 := Lib.hid (Nat.pow_zero p)
      have HS := Lib.hid (fun t => Nat.pow_succ p t)
      have HE := Lib.hid (show p ^ ex = p ^ ex from rfl)
      obtain ⟨pe, hpe⟩ : ∃ z, p ^ ex = z := ⟨_, rfl⟩
      rw [hpe] at TT q5
      have HPE := Lib.hid hpe
      clear hpe HE
      obtain ⟨w3, hw3⟩ : ∃ w3, wr.alloc (.cells #[.int .i64 (p : Int), .int .i64 (ex : Int)] 97) = w3 := ⟨_, rfl⟩
      have c0 : w3.cell? ⟨wr.heap.size, 0, none⟩ = some (.int .i64 (p : Int)) := by
        rw [← hw3, cell_of_row _ _ 0 _ _ _ (heap_alloc_new wr (.cells #[.int .i64 (p : Int), .int .i64 (ex : Int)] 97))]; rfl
      have c1 : w3.cell? ⟨wr.heap.size, 1, none⟩ = some (.int .i64 (ex : Int)) := by
        rw [← hw3, cell_of_row _ _ 1 _ _ _ (heap_alloc_new wr (.cells #[.int .i64 (p : Int), .int .i64 (ex : Int)] 97))]; rfl
      have bw : Below wr.heap.size wr w3 := by rw [← hw3]; exact (Below.refl _ _).alloc (Nat.le_refl _) _
      have hB2 := hB3.trans (bw.mono hB3.size)
      have HO2 := Lib.hid (HO.out.below bw)
      clear hB3 HO bw
      go_upto_region 7 with fail
      (try rw [hw3])
      clear hw3
      go_wp2_with fail
      go_loopw [8, 22] (fun q z wr' => ∃ t m : Nat, t ≤ ex ∧ m ≤ 16777216 ∧ q = .int .i64 (m : Int) ∧ z = .int .i64 (t : Int) ∧ Hid (p ^ t = m) ∧ w3 = wr') (fun _ z _ => ex - (intOf z).toNat)
      case atStart => exact ⟨0, 1, Nat.zero_le _, by omega, rfl, rfl, Lib.hid H0.out, rfl⟩
      case round =>
        obtain ⟨t, m, ht, hm, rfl, rfl, HM, rfl⟩ := hrel
        by_cases htl : t < ex
        · have d2 : decide ((t : Int) < (ex : Int)) = true := decide_eq_true (by omega)
          have hle := HPW.out (t + 1) htl
          rw [HS.out, HM.out] at hle
          obtain ⟨m', hm'⟩ : ∃ z, m * p = z := ⟨_, rfl⟩
          rw [hm'] at hle
          have HM' := Lib.hid (show p ^ (t + 1) = m' by rw [HS.out, HM.out, hm'])
          have hw : IntKind.i64.wrap ((m : Int) * (p : Int)) = (m' : Int) := by
            rw [show (m : Int) * (p : Int) = ((m * p : Nat) : Int) from (Int.natCast_mul m p).symm, hm']
            exact IntWalk.i64_in _ (by omega)
          clear hm'
          go_wp2_with fail
          go_roundw
          case rel => exact ⟨t + 1, m', by omega, by omega, rfl, by go_num, HM', trivial⟩
          case measure => (first | (simp [intOf]; done) | (simp [intOf]; omega) | (simp only [intOf]; omega))
        · obtain rfl : t = ex := by omega
          have d2 : decide ((t : Int) < (t : Int)) = false := decide_eq_false (by omega)
          have em : m = pe := by rw [← HM.out, HPE.out]
          subst em
          go_wp2_with (at_builtin; refine append_one Try.underlying37 info_i64 rfl _ _ rfl rfl HO2.out rfl hB2.size (by omega) ?_; intro v' w' hO hb')
          have HO3 := Lib.hid (show Owns w' w1.heap.size 3 .i64 v' (ys.take (i + 1)) by rw [TT.out]; exact hO)
          have hB4 := hB2.trans hb'
          clear hO hb' hB2 HO2
          (try go_wp2_with fail)
          go_roundw
          case rel => exact ⟨i + 1, _, _, _, rfl, rfl, rfl, by omega, by go_num, HO3, hB4⟩
          case measure => (first | (simp [intOf]; done) | (simp [intOf]; omega) | (simp only [intOf]; omega))
    · obtain rfl : i = n := by omega
      have dd : decide ((i : Int) < (i : Int)) = false := decide_eq_false (by omega)
      go_wp2_with fail
      go_ret
      exact givesI_own rfl (by rw [← FA.out]; exact HO.out) (hB.trans (hB3.mono hB.size)) WF.out FSL.out (by omega)
theorem chirp_leastb (n : Nat) (W : World) (hh : hasb n = true) (hn : n ≤ 8388608) :
    Calls Try.prog 73 #[.int .i64 n] W fun e w' => ∃ m : Nat, e = .returned (.tuple #[.int .i64 (m : Int), .int .i64 0]) ∧ IsAbvb (2 * n - 1) m ∧ W = w' := by
  obtain ⟨a, b, c⟩ := hasb_dvd hh
  have H := fun w => root_has n w (by omega) (by omega)
  rw [hh] at H
  have H := Lib.hid H
  have A := Lib.hid (fun w => fact_aboveb (2 * n - 1) w (by omega) (by omega))
  have hw1 : IntKind.i64.wrap (2 * (n : Int)) = 2 * (n : Int) := IntWalk.i64_in _ (by omega)
  have hw2 : IntKind.i64.wrap (2 * (n : Int) - 1) = ((2 * n - 1 : Nat) : Int) := by rw [IntWalk.i64_in _ (by omega)]; omega
  generalize 2 * n - 1 = q at *
  clear hh c
  go_enter Try.func73, Try.ntmps73
  go_wp2_with fail
  refine (H.out _).mono ?_
  rintro e w1 ⟨rfl, rfl⟩
  go_wp2_with fail
  refine (A.out _).mono ?_
  rintro e w1 ⟨m, rfl, hm, rfl⟩
  have HM := Lib.hid hm
  clear hm
  go_wp2_with fail
  go_ret2
  exact ⟨m, rfl, HM.out, rfl⟩
theorem chirp_leastbig (n : Int) (W : World) (h1 : n ≤ 9223372036854775807) (hh : hasb n = true) (hn : 8388608 < n) :
    Calls Try.prog 73 #[.int .i64 n] W fun e w' => e = .returned (.tuple #[.int .i64 0, .int .i64 3]) ∧ W = w' := by
  obtain ⟨a, b, c⟩ := hasb_dvd hh
  have H := fun w => root_has n w (by omega) h1
  rw [hh] at H
  have H := Lib.hid H
  have A := Lib.hid (fun w => fact_abovenob (2 * n - 1) w (by omega))
  have hw1 : IntKind.i64.wrap (2 * n) = 2 * n := IntWalk.i64_in _ (by omega)
  have hw2 : IntKind.i64.wrap (2 * n - 1) = 2 * n - 1 := IntWalk.i64_in _ (by omega)
  clear hh c
  go_enter Try.func73, Try.ntmps73
  go_wp2_with fail
  refine (H.out _).mono ?_
  rintro e w1 ⟨rfl, rfl⟩
  go_wp2_with fail
  refine (A.out _).mono ?_
  rintro e w1 ⟨rfl, rfl⟩
  go_wp2_with fail
  go_ret2
  exact ⟨rfl, rfl⟩
end Go.Proofs.Ytfjioflggkmhcaa
