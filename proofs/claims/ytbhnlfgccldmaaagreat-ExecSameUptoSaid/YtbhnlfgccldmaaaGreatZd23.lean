/- Put together by program (merge2.py): Exk Chirpm Exl. -/
import Derived.Test.YtbhnlfgccldmaaaGreatZd12
import Derived.Test.YtbhnlfgccldmaaaGreatZd16
import Derived.Test.YtbhnlfgccldmaaaGreatZd22
/- Package exec: rader. By program (genexk.py). -/
namespace Go.Proofs.YtbhnlfgccldmaaaGreat
open Go.ChangeShapes Go.WideShapes Go.ChangeAt Go.RowKit
set_option linter.unusedVariables false
open Go.WideMaps Go.MapKept Go.WideElems Go.ChangeMaps
set_option linter.unusedSimpArgs false
/-- A kid in memory. -/
structure KO (w : World) (kb ko : Nat) (k0 n0 : Int) (v0 : Value) : Prop where
  lt : kb < w.heap.size
  c0 : w.cell? ⟨kb, ko, none⟩ = some (.int .i64 k0)
  c1 : w.cell? ⟨kb, ko + 1, none⟩ = some (.int .i64 n0)
  c2 : w.cell? ⟨kb, ko + 2, none⟩ = some v0
theorem KO.below {w w' : World} {kb ko : Nat} {k0 n0 : Int} {v0 : Value} (h : KO w kb ko k0 n0 v0) (hb : Below w.heap.size w w') : KO w' kb ko k0 n0 v0 :=
  ⟨Nat.lt_of_lt_of_le h.lt hb.size, (hb.cell (p := ⟨kb, ko, none⟩) h.lt).trans h.c0, (hb.cell (p := ⟨kb, ko + 1, none⟩) h.lt).trans h.c1, (hb.cell (p := ⟨kb, ko + 2, none⟩) h.lt).trans h.c2⟩
theorem fsum_sm (xs : List Int) : ∀ k, k ≤ xs.length → fsum xs k = fm (sm (fun j => xs.getD j 0) k)
  | 0, _ => by rw [fsum_zero]; rfl
  | k + 1, h => by rw [← fsum_succ xs k (by omega), fsum_sm xs k (by omega), fm_add_l, sm_succ]
theorem horl_zero (r : Int) (xs : List Int) (n : Nat) (hl : xs.length = n) (h : 0 < n) : (horl r xs n).getD 0 0 = fsum xs n := by
  rw [horl_sm r xs n 0 hl h, fsum_sm xs n (by omega)]
  congr 1
  exact sm_eq n fun j _ => by rw [Nat.mul_zero, Int.pow_zero, Int.mul_one]
def rfn (g n q t : Nat) : Nat := g ^ ((n - t) % n) % q
theorem rader_put {N n g : Nat} {d : Int} (hq : isP N) (hn : N = n + 1) (hg : IsMk N g) (xs : List Int) (hl : xs.length = N) (hr : fm (rdir N d ^ N) = 1) {t : Nat} (ht : t < n) :
    fm (xs.getD 0 0 + (cycl (tab n fun j => xs.getD (g ^ j % N) 0) (rdl N d g)).getD t 0) = (horl (rdir N d) xs N).getD (rfn g n N t) 0 := by
  have e : N - 1 = n := by omega
  have q0 := hq.1
  refine rader_at xs _ _ hn (by omega) hl hr (fun i => (pow_pos hq hg.one hg.lt i).1) (fun i j hi hj h => ?_) (fun i => ?_) (tab_len _ _) (fun j hj => tab_at _ _ _ hj) (fun j hj => ?_) ht
  · rcases Nat.le_total i j with hij | hij
    · have h1 := pow_same hq hg hij h
      rw [e] at h1
      rcases Nat.eq_zero_or_pos (j - i) with h2 | h2
      · omega
      · have := Nat.le_of_dvd h2 h1; omega
    · have h1 := pow_same hq hg hij h.symm
      rw [e] at h1
      rcases Nat.eq_zero_or_pos (i - j) with h2 | h2
      · omega
      · have := Nat.le_of_dvd h2 h1; omega
  · have h1 := hg.ord.pow
    rw [e] at h1
    rw [Nat.pow_add, Nat.mul_mod, h1, Nat.mul_one, Nat.mod_mod]
  · rw [rdl_at N d g j (by omega), e, fm_fm]
theorem rader_onto {N n g : Nat} (hq : isP N) (hn : N = n + 1) (hg : IsMk N g) {z : Nat} (h1 : 1 ≤ z) (hz : z < N) : ∃ t, t < n ∧ rfn g n N t = z := by
  obtain ⟨k, hk, e, -⟩ := log_ex hq hg h1 hz
  have q0 := hq.1
  have hkn : k < n := by omega
  refine ⟨(n - k) % n, Nat.mod_lt _ (by omega), ?_⟩
  unfold rfn
  have : (n - (n - k) % n) % n = k := by
    by_cases h0 : k = 0
    · subst h0; simp
    · rw [Nat.mod_eq_of_lt (show n - k < n by omega), Nat.mod_eq_of_lt (by omega)]; omega
  rw [this, e]
set_option maxRecDepth 100000 in
set_option maxHeartbeats 16000000 in
theorem exec_rader (G N n g' : Nat) (hq : isP N) (hn : N = n + 1) (k d k0 s : Int) (v0 : Value) (kb ko km kc : Nat) (p q : Option Addr) (c e0 : Nat) (xs : List Int) (W : World) (hx : Row W p N xs) (hs : N ≤ 131072) (hkm : 1 ≤ km) (hC : KO W kb ko k0 n v0) (hi2 : Inv2 (rdir n 0) s n)
    (hg' : IsMk N g') (hw : Row W q n (horl (rdir n 0) (rdl N d g') n)) (hl : Looks W G ⟨3, N, 0, d⟩ (.slice q n e0)) (hr : fm (rdir N d ^ N) = 1) (K0 : RunK W G k0 n v0 0 (rdir n 0)) :
    Calls Tryz.prog 156 #[.agg #[.map (some G)], .agg #[.int .i64 k, .int .i64 N, .slice (some ⟨kb, ko, none⟩) km kc], .int .i64 d, .slice p N c] W (GivesNw W N (horl (rdir N d) xs N)) := by
  obtain ⟨w0, w1, hw0, hw1, hWB, hB, l0, l1⟩ := wb_start W G k N (.slice (some ⟨kb, ko, none⟩) km kc)
  have q0 := hq.1
  have HS := Lib.hid (show 1 ≤ n ∧ N = n + 1 ∧ N ≤ 131072 from ⟨by omega, hn, hs⟩)
  have HWB := Lib.hid hWB
  have HB := Lib.hid hB
  have HC := Lib.hid (hC.below hB)
  have GP := Lib.hid (fun (w : World) => gen_powers N w hq hs)
  have HX := Lib.hid (fun (w : World) (h : Below w1.heap.size w1 w) => hx.below (hB.trans (h.mono hB.size)))
  obtain ⟨ms, hms⟩ : ∃ ms, (tab n fun j => xs.getD (g' ^ j % N) 0) = ms := ⟨_, rfl⟩
  have ML := Lib.hid (show ms.length = n from by rw [← hms, tab_len])
  have MA := Lib.hid (fun j (hj : j < n) => (show ms.getD j 0 = xs.getD (g' ^ j % N) 0 from by rw [← hms, tab_at _ _ _ hj]))
  have MW := Lib.hid (show ∀ z ∈ ms, (Lit.int .u64 z).wf = true from fun z hz => by
    rw [← hms] at hz
    obtain ⟨j, _, rfl⟩ := List.mem_map.1 hz
    exact WalkArith.wf_u64 (wf_getD hx.wf _))
  have AR := Lib.hid (fun (w : World) (h : Below w1.heap.size w1 w) (a : Option Addr) (c' : Nat) (ha : Row w a n ms) => exec_around G n k0 (rdir n 0) s v0 a q c' e0 ms (rdl N d g') w hi2 ha (by rw [rdl_len]; omega) (hw.below (hB.trans (h.mono hB.size))) (by omega) (by omega) (K0.below (hB.trans (h.mono hB.size))))
  have LK := Lib.hid (fun (w : World) (h : Below w1.heap.size w1 w) => (show (Instr.lookup 114 (.map (some G)) (.agg #[.int .i64 3, .int .i64 N, .int .i64 0, .int .i64 d]) false).run Tryz.prog w = .ok (.slice q n e0) w from hl w (hB.trans (h.mono hB.size))))
  have RP := Lib.hid (fun t (ht : t < n) => (show fm (xs.getD 0 0 + (cycl ms (rdl N d g')).getD t 0) = (horl (rdir N d) xs N).getD (rfn g' n N t) 0 from hms ▸ rader_put hq hn hg' xs hx.len hr ht))
  have RO := Lib.hid (fun z (h1 : 1 ≤ z) (hz : z < N) => rader_onto hq hn hg' h1 hz)
  have GU := Lib.hid (fun g (h : IsMk N g) => h.uniq hg')
  have PW0 := Lib.hid (fun i => Nat.mod_lt (g' ^ i) (show 0 < N by omega))
  have SU := Lib.hid (fun (w : World) (h : Below w1.heap.size w1 w) => (show Calls Tryz.prog 180 #[.slice p N c] w fun e w' => e = .returned (.int .u64 (fsum xs N)) ∧ w = w' from by
    have h2 := hx.below (hB.trans (h.mono hB.size))
    have h3 := h2.len
    have := gold_sum p c xs w h2.reads h2.wf (by omega)
    rwa [h3] at this))
  have HZ := Lib.hid (horl_zero (rdir N d) xs N hx.len (by omega))
  obtain ⟨ar, har⟩ : ∃ ar, cycl ms (rdl N d g') = ar := ⟨_, rfl⟩
  have AB := Lib.hid (fun t => (show 0 ≤ ar.getD t 0 ∧ ar.getD t 0 ≤ 18446744069414584320 from har ▸ cycl_b ms (rdl N d g') t))
  rw [har] at AR RP
  obtain ⟨ys, hys⟩ : ∃ ys, horl (rdir N d) xs N = ys := ⟨_, rfl⟩
  have YW := Lib.hid (show ∀ z ∈ ys, (Lit.int .u64 z).wf = true from hys ▸ horl_wf (rdir N d) xs N)
  have YL := Lib.hid (show ys.length = N from by rw [← hys, horl_len])
  rw [hys] at RP HZ ⊢
  obtain ⟨f0, hf0⟩ : ∃ f0, fsum xs N = f0 := ⟨_, rfl⟩
  have F0 := Lib.hid (show 0 ≤ f0 ∧ f0 ≤ 18446744073709551615 from by rw [← hf0]; exact ⟨fsum_lo _ _, by have := fsum_hi xs N; omega⟩)
  rw [hf0] at SU HZ
  have hmkn := make_u64 n (by omega)
  have hmkN := make_u64 N (by omega)
  have hm0 : 0 < km := by omega
  have hm0i : (0 : Int) < (km : Int) := by omega
  obtain ⟨c0, c1, c2, c3⟩ := hWB.cells
  clear hms har hys hf0 hC hx hs hkm hw hl hr K0 hWB hB l0 l1 hg' hi2 hn
  have hn1 : N - 1 = n := by have := HS.out; omega
  go_enter Tryz.func156, Tryz.ntmps156
  go_wp2_with fail
  refine (GP.out _).mono ?_
  rintro e w2 ⟨g, hg, q2, e2, rfl, r2, b2⟩
  obtain rfl := GU.out g hg
  rw [hn1] at r2 ⊢
  have HR2 := Lib.hid r2
  have HB2 := Lib.hid b2
  have GA := Lib.hid (fun k (hk : k < n) => (show (gpl N g).getD k 0 = ((g ^ k % N : Nat) : Int) from gpl_at N g k (by omega)))
  clear b2 r2 c0 c1 c2 c3 hw0 hw1 hg
  obtain ⟨A, hA⟩ : ∃ A, W.heap.size = A := ⟨_, rfl⟩
  obtain ⟨B, hBB⟩ : ∃ B, w0.heap.size = B := ⟨_, rfl⟩
  rw [hA] at HWB
  rw [hBB] at HWB
  obtain ⟨M, hM⟩ : ∃ M, w2.heap.size = M := ⟨_, rfl⟩
  obtain ⟨w3, hw3⟩ : ∃ w3, w2.alloc (.cells (Array.replicate n (.int .u64 0)) 62) = w3 := ⟨_, rfl⟩
  have H3 := Lib.hid (show RowAt w3 M 62 (tab n (fillt ms (List.replicate n 0) 0)) ∧ Below M w2 w3 from by
    subst hM
    have := RowAt.made w2 62 n
    rw [hw3, ← fillt_start ms (List.replicate n 0) n (by simp)] at this
    exact ⟨this, hw3 ▸ (Below.refl _ _).alloc (Nat.le_refl _) _⟩)
  have HM := Lib.hid (show M = w2.heap.size ∧ w1.heap.size ≤ M from ⟨hM.symm, by rw [← hM]; exact HB2.out.size⟩)
  have LP := Lib.hid (fun t (ht : t < n) => HR2.out.cell ht)
  have LX := Lib.hid (fun t (ht : t < N) => (HX.out w2 HB2.out).cell ht)
  have HW3 := Lib.hid hw3
  clear hw3
  go_wp2_with fail
  (try rw [hA]); (try rw [hBB]); (try rw [hM]); (try rw [HW3.out])
  go_loopw [13, 14, 31] (fun _ _ x wr => ∃ t : Nat, t ≤ n ∧ x = .int .i64 t ∧ Hid (RowAt wr M 62 (tab n (fillt ms (List.replicate n 0) t))) ∧ Hid (Below M w2 wr)) (fun _ _ x _ => n - (intOf x).toNat)
  case atStart => exact ⟨0, Nat.zero_le _, rfl, Lib.hid H3.out.1, Lib.hid H3.out.2⟩
  case round =>
    obtain ⟨t, ht, rfl, RL, HBL⟩ := hrel
    by_cases htn : t < n
    · have hti : (t : Int) < (n : Int) := by omega
      have WT := Lib.hid (show wrap64 ((t : Int) + 1) = ((t + 1 : Nat) : Int) by have := HS.out; simp only [wrap64]; omega)
      have GAt := GA.out t htn
      have MAt := MA.out t htn
      have hzN : g ^ t % N < N := PW0.out t
      obtain ⟨bo, oo, rfl, hbo, ko', -, -⟩ := LP.out t htn
      rw [GAt] at ko'
      obtain ⟨bx, ox, rfl, hbx, kx, -, -⟩ := LX.out _ hzN
      rw [← MAt] at kx
      have ho6 := (HBL.out.cell (p := ⟨bo, oo + t, none⟩) (by rw [HM.out.1]; exact hbo)).trans ko'
      have hx6 := (HBL.out.cell (p := ⟨bx, ox + g ^ t % N, none⟩) (by rw [HM.out.1]; exact hbx)).trans kx
      have cy := RL.out.cell (k := t) (by rw [tab_len]; exact htn)
      have fy := RL.out.free t
      have RN := Lib.hid (show RowAt (wr.setCell ⟨M, t, none⟩ (.int .u64 (ms.getD t 0))) M 62 (tab n (fillt ms (List.replicate n 0) (t + 1))) from by
        have := RL.out.set t (ms.getD t 0)
        rwa [fillt_step] at this)
      have HB7 := Lib.hid (HBL.out.setCell (p := ⟨M, t, none⟩) (Nat.le_refl _) (.int .u64 (ms.getD t 0)))
      have hlt := RL.out.lt
      have hbo6 : bo < wr.heap.size := Nat.lt_of_lt_of_le hbo HBL.out.size
      have hbx6 : bx < wr.heap.size := Nat.lt_of_lt_of_le hbx HBL.out.size
      obtain ⟨z, hz⟩ : ∃ z, g ^ t % N = z := ⟨_, rfl⟩
      rw [hz] at hzN ho6 hx6
      obtain ⟨y, hy⟩ : ∃ y, ms.getD t 0 = y := ⟨_, rfl⟩
      rw [hy] at hx6 RN HB7
      have hzi : (z : Int) < (N : Int) := by omega
      have hz0 : (0 : Int) ≤ (z : Int) := by omega
      clear hz hy ko' kx GAt MAt hbo hbx
      go_wp2_with fail
      go_roundw
      case rel => exact ⟨t + 1, by omega, by first | rw [WT.out] | go_num, RN, HB7⟩
      case measure => first | (first | (simp [intOf]; done) | (simp [intOf]; omega) | (simp only [intOf]; omega)) | (rw [WT.out]; simp only [intOf]; omega)
    · have hti : ¬ (t : Int) < (n : Int) := by omega
      obtain rfl : t = n := by omega
      have RM := Lib.hid (show RowAt wr M 62 ms from by have := RL.out; rwa [fillt_end ms _ t ML.out] at this)
      have HB4 := Lib.hid (HB2.out.trans (HBL.out.mono HM.out.2))
      have HR4 := Lib.hid (show RowI wr q2 t (gpl N g) from HR2.out.below (HM.out.1 ▸ HBL.out))
      obtain ⟨w4, rfl⟩ : ∃ w4, w4 = wr := ⟨_, rfl⟩
      clear RL HBL htn
      go_upto_region 9 with fail
      have FC := Lib.hid (fun (u : World) (h : Below w1.heap.size w1 u) => And.intro (HWB.out.below h).cells (HC.out.below h))
      have Hs0 := HB4.out.trans ((Below.refl w4.heap.size w4).drew.mono HB4.out.size)
      have AR2 := Lib.hid (AR.out w4.drew Hs0 (some ⟨M, 0, none⟩) t (Row.of_at (show RowAt w4.drew M _ _ from RM.out) MW.out ML.out (by have := HS.out; omega)))
      refine wp_region_held_drew (S := (fun w' => Below w1.heap.size w1 w')) (by kernel_rfl) Hs0 (fun hHeld => ?_)
      refine wpAnyH_take (i := 0) (v := ?v1) rfl (by kernel_rfl) (by kernel_rfl) (by kernel_rfl) (fun _ _ _ h => h) (Or.inl ⟨by kernel_rfl, ?hy1⟩) (by assumption) ?rest1
      case hy1 => intro w hSw; (try dsimp only at hSw); obtain ⟨⟨g0, g1, g2, g3⟩, gk⟩ := FC.out w hSw; have gk0 := gk.c0; have gk1 := gk.c1; have gk2 := gk.c2; have lk := LK.out w hSw; go_simp; (first | done | with_reducible rfl)
      (try simp only [Act.put, List.getElem_toArray, List.getElem_cons_zero, List.getElem_cons_succ, List.setIfInBounds_toArray, List.set_cons_zero, List.set_cons_succ])
      refine wpAnyH_take (i := 1) (v := ?v2) rfl (by kernel_rfl) (by kernel_rfl) (by kernel_rfl) (fun _ _ _ h => h) (Or.inl ⟨by kernel_rfl, ?hy2⟩) (by assumption) ?rest2
      case hy2 => intro w hSw; clear hSw; go_simp; (first | done | with_reducible rfl)
      (try simp only [Act.put, List.getElem_toArray, List.getElem_cons_zero, List.getElem_cons_succ, List.setIfInBounds_toArray, List.set_cons_zero, List.set_cons_succ])
      refine wpAnyH_take (i := 2) (v := ?v3) rfl (by kernel_rfl) (by kernel_rfl) (by kernel_rfl) (fun _ _ _ h => h) (Or.inl ⟨by kernel_rfl, ?hy3⟩) (by assumption) ?rest3
      case hy3 => intro w hSw; (try dsimp only at hSw); obtain ⟨⟨g0, g1, g2, g3⟩, gk⟩ := FC.out w hSw; have gk0 := gk.c0; have gk1 := gk.c1; have gk2 := gk.c2; have lk := LK.out w hSw; go_simp; (first | done | with_reducible rfl)
      (try simp only [Act.put, List.getElem_toArray, List.getElem_cons_zero, List.getElem_cons_succ, List.setIfInBounds_toArray, List.set_cons_zero, List.set_cons_succ])
      refine wpAnyH_take (i := 3) (v := ?v4) rfl (by kernel_rfl) (by kernel_rfl) (by kernel_rfl) (fun _ _ _ h => h) (Or.inl ⟨by kernel_rfl, ?hy4⟩) (by assumption) ?rest4
      case hy4 => intro w hSw; clear hSw; go_simp; (first | done | with_reducible rfl)
      (try simp only [Act.put, List.getElem_toArray, List.getElem_cons_zero, List.getElem_cons_succ, List.setIfInBounds_toArray, List.set_cons_zero, List.set_cons_succ])
      refine wpAnyH_take (i := 4) (v := ?v5) rfl (by kernel_rfl) (by kernel_rfl) (by kernel_rfl) (fun _ _ _ h => h) (Or.inl ⟨by kernel_rfl, ?hy5⟩) (by assumption) ?rest5
      case hy5 => intro w hSw; (try dsimp only at hSw); obtain ⟨⟨g0, g1, g2, g3⟩, gk⟩ := FC.out w hSw; have gk0 := gk.c0; have gk1 := gk.c1; have gk2 := gk.c2; have lk := LK.out w hSw; go_simp; (first | done | with_reducible rfl)
      (try simp only [Act.put, List.getElem_toArray, List.getElem_cons_zero, List.getElem_cons_succ, List.setIfInBounds_toArray, List.set_cons_zero, List.set_cons_succ])
      refine wpAnyH_take (i := 5) (v := ?v6) rfl (by kernel_rfl) (by kernel_rfl) (by kernel_rfl) (fun _ _ _ h => h) (Or.inl ⟨by kernel_rfl, ?hy6⟩) (by assumption) ?rest6
      case hy6 => intro w hSw; clear hSw; go_simp; (first | done | with_reducible rfl)
      (try simp only [Act.put, List.getElem_toArray, List.getElem_cons_zero, List.getElem_cons_succ, List.setIfInBounds_toArray, List.set_cons_zero, List.set_cons_succ])
      refine wpAnyH_take (i := 6) (v := ?v7) rfl (by kernel_rfl) (by kernel_rfl) (by kernel_rfl) (fun _ _ _ h => h) (Or.inl ⟨by kernel_rfl, ?hy7⟩) (by assumption) ?rest7
      case hy7 => intro w hSw; clear hSw; go_simp; (first | done | with_reducible rfl)
      (try simp only [Act.put, List.getElem_toArray, List.getElem_cons_zero, List.getElem_cons_succ, List.setIfInBounds_toArray, List.set_cons_zero, List.set_cons_succ])
      refine wpAnyH_take (i := 7) (v := ?v8) rfl (by kernel_rfl) (by kernel_rfl) (by kernel_rfl) (fun _ _ _ h => h) (Or.inl ⟨by kernel_rfl, ?hy8⟩) (by assumption) ?rest8
      case hy8 => intro w hSw; (try dsimp only at hSw); obtain ⟨⟨g0, g1, g2, g3⟩, gk⟩ := FC.out w hSw; have gk0 := gk.c0; have gk1 := gk.c1; have gk2 := gk.c2; have lk := LK.out w hSw; go_simp; (first | done | with_reducible rfl)
      (try simp only [Act.put, List.getElem_toArray, List.getElem_cons_zero, List.getElem_cons_succ, List.setIfInBounds_toArray, List.set_cons_zero, List.set_cons_succ])
      refine wpAnyH_take (i := 8) (v := ?v9) rfl (by kernel_rfl) (by kernel_rfl) (by kernel_rfl) (fun _ _ _ h => h) (Or.inl ⟨by kernel_rfl, ?hy9⟩) (by assumption) ?rest9
      case hy9 => intro w hSw; clear hSw; go_simp; (first | done | with_reducible rfl)
      (try simp only [Act.put, List.getElem_toArray, List.getElem_cons_zero, List.getElem_cons_succ, List.setIfInBounds_toArray, List.set_cons_zero, List.set_cons_succ])
      refine wpAnyH_take (i := 9) (v := ?v10) rfl (by kernel_rfl) (by kernel_rfl) (by kernel_rfl) (fun _ _ _ h => h) (Or.inl ⟨by kernel_rfl, ?hy10⟩) (by assumption) ?rest10
      case hy10 => intro w hSw; (try dsimp only at hSw); obtain ⟨⟨g0, g1, g2, g3⟩, gk⟩ := FC.out w hSw; have gk0 := gk.c0; have gk1 := gk.c1; have gk2 := gk.c2; have lk := LK.out w hSw; go_simp; (first | done | with_reducible rfl)
      (try simp only [Act.put, List.getElem_toArray, List.getElem_cons_zero, List.getElem_cons_succ, List.setIfInBounds_toArray, List.set_cons_zero, List.set_cons_succ])
      refine wpAnyH_take (i := 10) (v := ?v11) rfl (by kernel_rfl) (by kernel_rfl) (by kernel_rfl) (fun _ _ _ h => h) (Or.inl ⟨by kernel_rfl, ?hy11⟩) (by assumption) ?rest11
      case hy11 => intro w hSw; clear hSw; go_simp; (first | done | with_reducible rfl)
      (try simp only [Act.put, List.getElem_toArray, List.getElem_cons_zero, List.getElem_cons_succ, List.setIfInBounds_toArray, List.set_cons_zero, List.set_cons_succ])
      refine wpAnyH_take (i := 11) (v := ?v12) rfl (by kernel_rfl) (by kernel_rfl) (by kernel_rfl) (fun _ _ _ h => h) (Or.inl ⟨by kernel_rfl, ?hy12⟩) (by assumption) ?rest12
      case hy12 => intro w hSw; clear hSw; go_simp; (first | done | with_reducible rfl)
      (try simp only [Act.put, List.getElem_toArray, List.getElem_cons_zero, List.getElem_cons_succ, List.setIfInBounds_toArray, List.set_cons_zero, List.set_cons_succ])
      refine wpAnyH_take (i := 12) (v := ?v13) rfl (by kernel_rfl) (by kernel_rfl) (by kernel_rfl) (fun _ _ _ h => h) (Or.inl ⟨by kernel_rfl, ?hy13⟩) (by assumption) ?rest13
      case hy13 => intro w hSw; (try dsimp only at hSw); obtain ⟨⟨g0, g1, g2, g3⟩, gk⟩ := FC.out w hSw; have gk0 := gk.c0; have gk1 := gk.c1; have gk2 := gk.c2; have lk := LK.out w hSw; go_simp; (first | done | with_reducible rfl)
      (try simp only [Act.put, List.getElem_toArray, List.getElem_cons_zero, List.getElem_cons_succ, List.setIfInBounds_toArray, List.set_cons_zero, List.set_cons_succ])
      refine wpAnyH_ready (rs := [13]) (by kernel_rfl) (by simp) ?_
      refine AllReadyH.cons rfl (fun K hK => ?_) AllReadyH.nil
      go_simp
      refine (AR2.out).mono ?_
      rintro e u ⟨q6, e6, rfl, r6, hb6⟩
      (try go_wp2_with fail)
      refine hK.out _ _ (hHeld.trans (hb6.mono hHeld.size)) (fun hHeld2 => ?_)
      clear hK K hHeld
      have hHeld := hHeld2
      clear hHeld2
      (try simp only [Act.put, List.getElem_toArray, List.getElem_cons_zero, List.getElem_cons_succ, List.setIfInBounds_toArray, List.set_cons_zero, List.set_cons_succ])
      refine wpAnyH_take (i := 14) (v := ?v15) rfl (by kernel_rfl) (by kernel_rfl) (by kernel_rfl) (fun _ _ _ h => h) (Or.inl ⟨by kernel_rfl, ?hy15⟩) (by assumption) ?rest15
      case hy15 => intro w hSw; clear hSw; go_simp; (first | done | with_reducible rfl)
      (try simp only [Act.put, List.getElem_toArray, List.getElem_cons_zero, List.getElem_cons_succ, List.setIfInBounds_toArray, List.set_cons_zero, List.set_cons_succ])
      refine wpAnyH_done (by kernel_rfl) ?_ _
      have HR6 := Lib.hid r6
      have HB6 := Lib.hid hHeld
      have HR7 := Lib.hid ((HR4.out.below ((Below.refl w4.heap.size w4).drew)).below hb6)
      clear r6 hb6 hHeld Hs0
      obtain ⟨w6, rfl⟩ : ∃ z, z = u := ⟨_, rfl⟩
      obtain ⟨n0, n1, n2, n3⟩ := (HWB.out.below HB6.out).cells
      obtain ⟨Y2, hY2⟩ : ∃ Y, w6.heap.size = Y := ⟨_, rfl⟩
      obtain ⟨w7, hw7⟩ : ∃ w7, w6.alloc (.cells (Array.replicate N (.int .u64 0)) 62) = w7 := ⟨_, rfl⟩
      have H7 := Lib.hid (show RowAt w7 Y2 62 (List.replicate N 0) ∧ Below Y2 w6 w7 ∧ Y2 = w6.heap.size ∧ w1.heap.size ≤ Y2 from by
        subst hY2
        have := RowAt.made w6 62 N
        rw [hw7] at this
        exact ⟨this, hw7 ▸ (Below.refl _ _).alloc (Nat.le_refl _) _, rfl, HB6.out.size⟩)
      have HB7 := Lib.hid (HB6.out.trans (H7.out.2.1.mono H7.out.2.2.2))
      have SU7 := Lib.hid (SU.out w7 HB7.out)
      have LR := Lib.hid (fun t' (ht : t' < t) => HR6.out.cell ht)
      have LO := Lib.hid (fun t' (ht : t' < t) => HR7.out.cell ht)
      have LX0 := Lib.hid ((HX.out w6 HB6.out).cell (k := 0) (by have := HS.out; omega))
      have HW7 := Lib.hid hw7
      have hN0 : 0 < N := by have := HS.out; omega
      have hN0i : (0 : Int) < (N : Int) := by omega
      clear hw7
      go_wp2_with fail
      (try rw [hY2]); (try rw [HW7.out])
      refine SU7.out.mono ?_
      rintro e w8 ⟨rfl, rfl⟩
      have cy := H7.out.1.cell (k := 0) (by simp; omega)
      have fy := H7.out.1.free 0
      have H8 := Lib.hid (H7.out.1.set 0 f0)
      have HB8 := Lib.hid (H7.out.2.1.setCell (p := ⟨Y2, 0, none⟩) (Nat.le_refl _) (.int .u64 f0))
      have hlt := H7.out.1.lt
      clear n0 n1 n2 n3
      go_wp2_with fail
      go_loopw [17, 18, 67] (fun _ _ x wr => ∃ s : Nat, s ≤ t ∧ x = .int .i64 s ∧ Hid (RowAt wr Y2 62 (tab N (sett (rfn g t N) ys ((List.replicate N 0).set 0 f0) s))) ∧ Hid (Below Y2 w6 wr)) (fun _ _ x _ => t - (intOf x).toNat)
      case atStart => exact ⟨0, Nat.zero_le _, rfl, Lib.hid (by rw [sett_start _ _ _ N (by simp)]; exact H8.out), HB8⟩
      case round =>
        clear cy fy hlt
        obtain ⟨s', hs', rfl, RL, HBL⟩ := hrel
        by_cases hst : s' < t
        · have hsi : (s' : Int) < (t : Int) := by omega
          have WS := Lib.hid (show wrap64 ((s' : Int) + 1) = ((s' + 1 : Nat) : Int) by have := HS.out; simp only [wrap64]; omega)
          have RPs := RP.out s' hst
          obtain ⟨br, or_, rfl, hbr, kr, -, -⟩ := LR.out s' hst
          have hm : (t - s') % t < t := Nat.mod_lt _ (by omega)
          obtain ⟨bo, oo, rfl, hbo, ko', -, -⟩ := LO.out _ hm
          rw [GA.out _ hm] at ko'
          change w6.cell? _ = some (.int .i64 ((rfn g t N s' : Nat) : Int)) at ko'
          obtain ⟨bx, ox, rfl, hbx, kx, x0, x1⟩ := LX0.out
          obtain ⟨b0, b1⟩ := AB.out s'
          have hfN : rfn g t N s' < N := PW0.out _
          have hr6 := (HBL.out.cell (p := ⟨br, or_ + s', none⟩) (by rw [H7.out.2.2.1]; exact hbr)).trans kr
          have ho6 := (HBL.out.cell (p := ⟨bo, oo + (t - s') % t, none⟩) (by rw [H7.out.2.2.1]; exact hbo)).trans ko'
          have hx6 := (HBL.out.cell (p := ⟨bx, ox + 0, none⟩) (by rw [H7.out.2.2.1]; exact hbx)).trans kx
          have YLt := Lib.hid RL.out.lt
          have hbr6 : br < wr.heap.size := Nat.lt_of_lt_of_le hbr HBL.out.size
          have hbo6 : bo < wr.heap.size := Nat.lt_of_lt_of_le hbo HBL.out.size
          have hbx6 : bx < wr.heap.size := Nat.lt_of_lt_of_le hbx HBL.out.size
          have RN := Lib.hid (fun (u : World) (h : RowAt u Y2 62 (tab N (sett (rfn g t N) ys ((List.replicate N 0).set 0 f0) s'))) => (show RowAt (u.setCell ⟨Y2, rfn g t N s', none⟩ (.int .u64 (ys.getD (rfn g t N s') 0))) Y2 62 (tab N (sett (rfn g t N) ys ((List.replicate N 0).set 0 f0) (s' + 1))) from by
            have := h.set (rfn g t N s') (ys.getD (rfn g t N s') 0)
            rwa [sett_step] at this))
          rw [← RPs] at RN
          have WSUB := Lib.hid (show IntKind.i64.wrap ((t : Int) - (s' : Int)) = ((t - s' : Nat) : Int) by rw [IntWalk.i64_in _ (by have := HS.out; omega)]; omega)
          have hwr := tmod_nat (t - s') t
          obtain ⟨m, hm2⟩ : ∃ m, (t - s') % t = m := ⟨_, rfl⟩
          obtain ⟨u1, hu1⟩ : ∃ u1, t - s' = u1 := ⟨_, rfl⟩
          rw [hu1] at hm2 hwr WSUB
          rw [hm2] at hwr
          rw [hu1, hm2] at ho6 hm
          have hwe : (u1 : Int) % (t : Int) = (m : Int) := by rw [← hm2]; rfl
          obtain ⟨z, hz⟩ : ∃ z, rfn g t N s' = z := ⟨_, rfl⟩
          rw [hz] at ho6 hfN RN
          obtain ⟨xv, hxv⟩ : ∃ x, xs.getD 0 0 = x := ⟨_, rfl⟩
          rw [hxv] at hx6 x0 x1 RN
          obtain ⟨av, hav⟩ : ∃ x, ar.getD s' 0 = x := ⟨_, rfl⟩
          rw [hav] at hr6 b0 b1 RN
          have HADD := Lib.hid (fun (w : World) => gold_add xv av w x0 x1 b0 (by omega))
          have FX := Lib.hid (fun (u : World) (h : Below wr.drew.heap.size wr.drew u) => (show u.cell? ⟨bo, oo + m, none⟩ = some (.int .i64 z) ∧ u.cell? ⟨bx, ox, none⟩ = some (.int .u64 xv) ∧ u.frozen? ⟨Y2, z, none⟩ = false ∧ (∃ yv, u.cell? ⟨Y2, z, none⟩ = some (.int .u64 yv)) ∧ RowAt u Y2 62 (tab N (sett (rfn g t N) ys ((List.replicate N 0).set 0 f0) s')) from
            have hr : RowAt u Y2 62 (tab N (sett (rfn g t N) ys ((List.replicate N 0).set 0 f0) s')) := (show RowAt wr.drew Y2 _ _ from RL.out).below h
            ⟨(h.cell (p := ⟨bo, oo + m, none⟩) hbo6).trans ho6, (h.cell (p := ⟨bx, ox, none⟩) hbx6).trans hx6, hr.free z, ⟨_, hr.cell (k := z) (by rw [tab_len]; exact hfN)⟩, hr⟩))
          have hzi : (z : Int) < (N : Int) := by omega
          have hz0 : (0 : Int) ≤ (z : Int) := by omega
          have hmi : (m : Int) < (t : Int) := by omega
          have hmi0 : (0 : Int) ≤ (m : Int) := by omega
          have hn0 : ((t : Int) == 0) = false := by simp; omega
          have hn1' : ¬ ((t : Int) = 0) := by omega
          have hn2' : ¬ (t = 0) := by omega
          have Z3 := Lib.hid (show Y2 ≤ wr.heap.size from Nat.le_of_lt YLt.out)
          clear hm2 hu1 hz hxv hav ko' kx kr RPs hbr hbo hbx x0 x1 b0 b1 ho6 hx6
          go_wp2_with fail
          clear hr6
          have w1i := WSUB.out
          refine region_gate (fun w' => Below wr.drew.heap.size wr.drew w') 15 (by kernel_rfl) (Below.refl _ _) (fun hHeld => ?_)
          refine gate_takeF (i := 0) (v := ?v16) rfl (by kernel_rfl) (by kernel_rfl) (by kernel_rfl) (by kernel_rfl) (fun _ _ _ h => h) (Or.inl ⟨by rfl, ?hy16⟩) (by assumption) ?rest16
          case hy16 => intro w hSw; clear hSw; go_simp; (first | done | with_reducible rfl)
          (try simp only [Act.put, List.getElem_toArray, List.getElem_cons_zero, List.getElem_cons_succ, List.setIfInBounds_toArray, List.set_cons_zero, List.set_cons_succ])
          refine gate_takeF (i := 1) (v := ?v17) rfl (by kernel_rfl) (by kernel_rfl) (by kernel_rfl) (by kernel_rfl) (fun _ _ _ h => h) (Or.inl ⟨by rfl, ?hy17⟩) (by assumption) ?rest17
          case hy17 => intro w hSw; clear hSw; go_simp; (first | done | with_reducible rfl)
          (try simp only [Act.put, List.getElem_toArray, List.getElem_cons_zero, List.getElem_cons_succ, List.setIfInBounds_toArray, List.set_cons_zero, List.set_cons_succ])
          refine gate_takeF (i := 2) (v := ?v18) rfl (by kernel_rfl) (by kernel_rfl) (by kernel_rfl) (by kernel_rfl) (fun _ _ _ h => h) (Or.inl ⟨by rfl, ?hy18⟩) (by assumption) ?rest18
          case hy18 => intro w hSw; clear hSw; go_simp; (first | done | with_reducible rfl)
          (try simp only [Act.put, List.getElem_toArray, List.getElem_cons_zero, List.getElem_cons_succ, List.setIfInBounds_toArray, List.set_cons_zero, List.set_cons_succ])
          refine gate_takeF (i := 3) (v := ?v19) rfl (by kernel_rfl) (by kernel_rfl) (by kernel_rfl) (by kernel_rfl) (fun _ _ _ h => h) (Or.inl ⟨by rfl, ?hy19⟩) (by assumption) ?rest19
          case hy19 => intro w hSw; clear hSw; go_simp; (first | done | with_reducible rfl)
          (try simp only [Act.put, List.getElem_toArray, List.getElem_cons_zero, List.getElem_cons_succ, List.setIfInBounds_toArray, List.set_cons_zero, List.set_cons_succ])
          refine gate_takeF (i := 4) (v := ?v20) rfl (by kernel_rfl) (by kernel_rfl) (by kernel_rfl) (by kernel_rfl) (fun _ _ _ h => h) (Or.inl ⟨by rfl, ?hy20⟩) (by assumption) ?rest20
          case hy20 => intro w hSw; clear hSw; go_simp; (first | done | with_reducible rfl)
          (try simp only [Act.put, List.getElem_toArray, List.getElem_cons_zero, List.getElem_cons_succ, List.setIfInBounds_toArray, List.set_cons_zero, List.set_cons_succ])
          refine gate_takeF (i := 5) (v := ?v21) rfl (by kernel_rfl) (by kernel_rfl) (by kernel_rfl) (by kernel_rfl) (fun _ _ _ h => h) (Or.inl ⟨by rfl, ?hy21⟩) (by assumption) ?rest21
          case hy21 => intro w hSw; clear hSw; go_simp; (first | done | with_reducible rfl)
          (try simp only [Act.put, List.getElem_toArray, List.getElem_cons_zero, List.getElem_cons_succ, List.setIfInBounds_toArray, List.set_cons_zero, List.set_cons_succ])
          refine gate_takeF (i := 6) (v := ?v22) rfl (by kernel_rfl) (by kernel_rfl) (by kernel_rfl) (by kernel_rfl) (fun _ _ _ h => h) (Or.inl ⟨by rfl, ?hy22⟩) (by assumption) ?rest22
          case hy22 => intro w hSw; clear hSw; go_simp; (first | done | with_reducible rfl)
          (try simp only [Act.put, List.getElem_toArray, List.getElem_cons_zero, List.getElem_cons_succ, List.setIfInBounds_toArray, List.set_cons_zero, List.set_cons_succ])
          refine gate_takeF (i := 7) (v := ?v23) rfl (by kernel_rfl) (by kernel_rfl) (by kernel_rfl) (by kernel_rfl) (fun _ _ _ h => h) (Or.inl ⟨by rfl, ?hy23⟩) (by assumption) ?rest23
          case hy23 => intro w hSw; clear hSw; go_simp; (first | done | with_reducible rfl)
          (try simp only [Act.put, List.getElem_toArray, List.getElem_cons_zero, List.getElem_cons_succ, List.setIfInBounds_toArray, List.set_cons_zero, List.set_cons_succ])
          refine gate_take (i := 8) (v := ?v24) rfl (by kernel_rfl) (by kernel_rfl) (by kernel_rfl) (by kernel_rfl) (by kernel_rfl) (fun _ _ _ h => h) (Or.inl ⟨by rfl, ?hy24⟩) (by assumption) ?rest24
          case hy24 => intro w hSw; (try dsimp only at hSw); obtain ⟨g1, g2, g3, g4, g5⟩ := FX.out w hSw; go_simp; (first | done | with_reducible rfl)
          (try simp only [Act.put, List.getElem_toArray, List.getElem_cons_zero, List.getElem_cons_succ, List.setIfInBounds_toArray, List.set_cons_zero, List.set_cons_succ])
          refine gate_takeF (i := 9) (v := ?v25) rfl (by kernel_rfl) (by kernel_rfl) (by kernel_rfl) (by kernel_rfl) (fun _ _ _ h => h) (Or.inl ⟨by rfl, ?hy25⟩) (by assumption) ?rest25
          case hy25 => intro w hSw; clear hSw; go_simp; (first | done | with_reducible rfl)
          (try simp only [Act.put, List.getElem_toArray, List.getElem_cons_zero, List.getElem_cons_succ, List.setIfInBounds_toArray, List.set_cons_zero, List.set_cons_succ])
          refine gate_takeF (i := 10) (v := ?v26) rfl (by kernel_rfl) (by kernel_rfl) (by kernel_rfl) (by kernel_rfl) (fun _ _ _ h => h) (Or.inl ⟨by rfl, ?hy26⟩) (by assumption) ?rest26
          case hy26 => intro w hSw; clear hSw; go_simp; (first | done | with_reducible rfl)
          (try simp only [Act.put, List.getElem_toArray, List.getElem_cons_zero, List.getElem_cons_succ, List.setIfInBounds_toArray, List.set_cons_zero, List.set_cons_succ])
          refine gate_take (i := 11) (v := ?v27) rfl (by kernel_rfl) (by kernel_rfl) (by kernel_rfl) (by kernel_rfl) (by kernel_rfl) (fun _ _ _ h => h) (Or.inl ⟨by rfl, ?hy27⟩) (by assumption) ?rest27
          case hy27 => intro w hSw; (try dsimp only at hSw); obtain ⟨g1, g2, g3, g4, g5⟩ := FX.out w hSw; go_simp; (first | done | with_reducible rfl)
          (try simp only [Act.put, List.getElem_toArray, List.getElem_cons_zero, List.getElem_cons_succ, List.setIfInBounds_toArray, List.set_cons_zero, List.set_cons_succ])
          refine gate_takeF (i := 12) (v := ?v28) rfl (by kernel_rfl) (by kernel_rfl) (by kernel_rfl) (by kernel_rfl) (fun _ _ _ h => h) (Or.inl ⟨by rfl, ?hy28⟩) (by assumption) ?rest28
          case hy28 => intro w hSw; clear hSw; go_simp; (first | done | with_reducible rfl)
          (try simp only [Act.put, List.getElem_toArray, List.getElem_cons_zero, List.getElem_cons_succ, List.setIfInBounds_toArray, List.set_cons_zero, List.set_cons_succ])
          refine gate_one (i := 13) rfl (by kernel_rfl) (fun K hK => ?_)
          go_simp
          refine (HADD.out _).mono ?_
          rintro e u ⟨rfl, rfl⟩
          (try go_wp2_with fail)
          refine hK.out _ _ hHeld (fun hHeld2 => ?_)
          clear hK K hHeld
          have hHeld := hHeld2
          clear hHeld2
          (try simp only [Act.put, List.getElem_toArray, List.getElem_cons_zero, List.getElem_cons_succ, List.setIfInBounds_toArray, List.set_cons_zero, List.set_cons_succ])
          refine gate_takeF (i := 14) (v := ?v30) rfl (by kernel_rfl) (by kernel_rfl) (by kernel_rfl) (by kernel_rfl) (fun _ _ _ h => h) (Or.inl ⟨by rfl, ?hy30⟩) (by assumption) ?rest30
          case hy30 => intro w hSw; clear hSw; go_simp; (first | done | with_reducible rfl)
          (try simp only [Act.put, List.getElem_toArray, List.getElem_cons_zero, List.getElem_cons_succ, List.setIfInBounds_toArray, List.set_cons_zero, List.set_cons_succ])
          obtain ⟨g1, g2, g3, ⟨yv, g4⟩, g5⟩ := FX.out _ hHeld
          refine gate_past (i := 15) rfl (by kernel_rfl) (by kernel_rfl) (fun K hK => ?_)
          go_simp
          refine hK.out _ _ ?_
          clear hK K
          (try simp only [Act.put, List.getElem_toArray, List.getElem_cons_zero, List.getElem_cons_succ, List.setIfInBounds_toArray, List.set_cons_zero, List.set_cons_succ])
          refine gate_done (by kernel_rfl) ?_ _
          have RN2 := Lib.hid (RN.out _ g5)
          have HB5 := Lib.hid ((HBL.out.trans (((Below.refl wr.heap.size wr).drew.trans hHeld).mono Z3.out)).setCell (p := ⟨Y2, z, none⟩) (Nat.le_refl _) (.int .u64 (fm (xv + av))))
          clear g1 g2 g3 g4 g5 hHeld FX w1i
          go_wp2_with fail
          go_roundw
          case rel => exact ⟨s' + 1, by omega, by first | rw [WS.out] | go_num, RN2, HB5⟩
          case measure => first | (first | (simp [intOf]; done) | (simp [intOf]; omega) | (simp only [intOf]; omega)) | (rw [WS.out]; simp only [intOf]; omega)
        · have hsi : ¬ (s' : Int) < (t : Int) := by omega
          obtain rfl : s' = t := by omega
          have RE := Lib.hid (show RowAt wr Y2 62 ys from by
            have := RL.out
            rwa [sett_end (rfn g s' N) ys _ N s' YL.out (fun z hz => by
              by_cases h0 : z = 0
              · subst h0
                right
                rw [HZ.out]
                simp [List.getD, hN0]
              · exact .inl (RO.out z (by omega) hz))] at this)
          have WB9 := Lib.hid (show Below W.heap.size W wr ∧ W.heap.size ≤ Y2 from ⟨HB.out.trans ((HB6.out.trans (HBL.out.mono H7.out.2.2.2)).mono HB.out.size), Nat.le_trans HB.out.size H7.out.2.2.2⟩)
          go_wp2_with fail
          go_ret
          exact givesNw_at rfl RE.out YW.out YL.out (by have := HS.out; omega) WB9.out.1 WB9.out.2
end Go.Proofs.YtbhnlfgccldmaaaGreat
/- Bluestein's way: plain numbers, no Go text. -/
namespace Go.Proofs.YtbhnlfgccldmaaaGreat
open Go.ChangeShapes Go.WideShapes Go.ChangeAt Go.RowKit
set_option linter.unusedVariables false
theorem tri_add (q : Nat) : ∀ j, tri (q + j) = tri q + tri j + q * j
  | 0 => by simp [tri]
  | j + 1 => by
    rw [show q + (j + 1) = (q + j) + 1 by omega, tri, tri_add q j, tri, Nat.mul_add]
    omega
theorem pow_trin {r : Int} {n : Nat} (h : fm (r ^ n) = 1) (i : Nat) : fm (r ^ trin n i) = fm (r ^ tri i) := pow_mod h (tri i)
theorem chirp_term {r s : Int} {n : Nat} (hr : fm (r ^ n) = 1) (hs : fm (s ^ n) = 1) (hi : ∀ k : Nat, fm (s ^ k * r ^ k) = 1) (x : Int) (j q : Nat) :
    fm (fm (x * fm (s ^ trin n j)) * fm (r ^ trin n (q + j)) * s ^ tri q) = fm (x * (r ^ q) ^ j) := by
  rw [pow_trin hs, pow_trin hr, fm_mul_r x, ← fm_mul_l _ (s ^ tri q), fm_mul_fm, fm_mul_l, tri_add, Int.pow_add, Int.pow_add, ← Int.pow_mul]
  have e : x * s ^ tri j * (r ^ tri q * r ^ tri j * r ^ (q * j)) * s ^ tri q = (s ^ tri j * r ^ tri j) * ((s ^ tri q * r ^ tri q) * (x * r ^ (q * j))) := by grind
  rw [e, ← fm_mul_l, hi, Int.one_mul, ← fm_mul_l, hi, Int.one_mul]
/-- The rows as they stand, noughts behind. -/
theorem pad_at (ys : List Int) (z i : Nat) : (ys ++ List.replicate z 0).getD i 0 = ys.getD i 0 := by
  by_cases h : i < ys.length
  · simp only [List.getD]
    rw [List.getElem?_append_left h]
  · rw [getD_out ys i (by omega)]
    simp only [List.getD]
    rw [List.getElem?_append_right (by omega), List.getElem?_replicate]
    split <;> rfl
theorem chirp_part {r s : Int} {n : Nat} (hr : fm (r ^ n) = 1) (hs : fm (s ^ n) = 1) (hi : ∀ k : Nat, fm (s ^ k * r ^ k) = 1) (xs : List Int) (hx : xs.length = n) (m : Nat) (hm : 2 * n - 1 ≤ m) (q : Nat) (hq : q < n) (zf zk : Nat) :
    ∀ i, i ≤ n → fm (csn (forel s xs n ++ List.replicate zf 0) (rowc r n (2 * n - 1) ++ List.replicate zk 0) m i (n - 1 + q) * s ^ tri q) = fm ((r ^ q) ^ (n - i) * ps (r ^ q) (xs.drop (n - i)))
  | 0, _ => by
    rw [csn, Int.zero_mul, Nat.sub_zero, List.drop_of_length_le (by omega)]
    show fm 0 = fm (_ * 0)
    rw [Int.mul_zero]
  | i + 1, h => by
    have ih := chirp_part hr hs hi xs hx m hm q hq zf zk i (by omega)
    have hj : n - 1 - i < n := by omega
    rw [csn, pad_at, pad_at, forel_at _ _ _ _ (by omega)]
    have e1 : (n - 1 + q + m - i) % m = q + (n - 1 - i) := by
      rw [show n - 1 + q + m - i = (q + (n - 1 - i)) + m by omega, Nat.add_mod_right, Nat.mod_eq_of_lt (by omega)]
    rw [e1, rowc_at _ _ _ _ (by omega), fm_add_r, fm_mul_l, Int.add_mul, ← fm_add_fm, ih, chirp_term hr hs hi, fm_add_fm]
    have e2 : n - (i + 1) = n - 1 - i := by omega
    have e3 : n - i = n - 1 - i + 1 := by omega
    rw [e2, e3]
    generalize n - 1 - i = j at *
    have e4 : xs.drop j = xs.getD j 0 :: xs.drop (j + 1) := by
      have e : xs.getD j 0 = xs[j]'(by omega) := by simp [List.getD, show j < xs.length by omega]
      rw [e]
      exact List.drop_eq_getElem_cons (by omega)
    rw [e4]
    congr 1
    show _ = (r ^ q) ^ j * (xs.getD j 0 + r ^ q * ps (r ^ q) (xs.drop (j + 1)))
    rw [Int.pow_succ]
    grind
theorem csn_still (xs ys : List Int) (m k n : Nat) (h0 : ∀ i, n ≤ i → xs.getD i 0 = 0) : ∀ i, n ≤ i → csn xs ys m i k = csn xs ys m n k
  | 0, h => by rw [show n = 0 by omega]
  | i + 1, h => by
    by_cases e : n = i + 1
    · rw [e]
    · have := csn_b xs ys m i k
      rw [csn, h0 i (by omega), Int.zero_mul, fm_zero, Int.add_zero, fm_small _ this.1 this.2]
      exact csn_still xs ys m k n h0 i (by omega)
/-- The product around, turned, is the transform. -/
theorem chirp_all {r s : Int} {n : Nat} (hr : fm (r ^ n) = 1) (hs : fm (s ^ n) = 1) (hi : ∀ k : Nat, fm (s ^ k * r ^ k) = 1) (xs : List Int) (hx : xs.length = n) (m : Nat) (h0 : 0 < n) (hm : 2 * n - 1 ≤ m) :
    aftl s (cycl (forel s xs n ++ List.replicate (m - n) 0) (rowc r n (2 * n - 1) ++ List.replicate (m - (2 * n - 1)) 0)) n = horl r xs n := by
  have hl : (forel s xs n ++ List.replicate (m - n) (0 : Int)).length = m := by rw [List.length_append, forel_len, List.length_replicate]; omega
  apply getD_ext (by rw [aftl_len, horl_len])
  intro q hq
  rw [aftl_len] at hq
  rw [aftl_at _ _ _ _ hq, horl_at _ _ _ _ hq, hor_fm, hor_ps]
  unfold cycl
  rw [hl, tab_at _ _ _ (by omega), csn_still _ _ m _ n (fun i h => by rw [pad_at, getD_out _ _ (by rw [forel_len]; exact h)]) m (by omega), pow_trin hs, fm_mul_r, chirp_part hr hs hi xs hx m hm q hq _ _ n (Nat.le_refl _), Nat.sub_self, Int.pow_zero, Int.one_mul, List.drop_zero]
end Go.Proofs.YtbhnlfgccldmaaaGreat
/- Package exec: blue. By program (genexl.py). -/
namespace Go.Proofs.YtbhnlfgccldmaaaGreat
open Go.ChangeShapes Go.WideShapes Go.ChangeAt Go.RowKit
set_option linter.unusedVariables false
open Go.WideMaps Go.MapKept Go.WideElems Go.ChangeMaps
set_option linter.unusedSimpArgs false
def bkl (r : Int) (N M : Nat) : List Int := rowc r N (2 * N - 1) ++ List.replicate (M - (2 * N - 1)) 0
def bfl (s : Int) (xs : List Int) (N M : Nat) : List Int := forel s xs N ++ List.replicate (M - N) 0
theorem bfl_len (s : Int) (xs : List Int) (N M : Nat) (h : N ≤ M) : (bfl s xs N M).length = M := by unfold bfl; rw [List.length_append, forel_len, List.length_replicate]; omega
theorem bkl_len (r : Int) (N M : Nat) (h : 2 * N - 1 ≤ M) : (bkl r N M).length = M := by unfold bkl; rw [List.length_append, rowc_len, List.length_replicate]; omega
theorem bfl_at (s : Int) (xs : List Int) (N M j : Nat) (hj : j < N) : (bfl s xs N M).getD (N - 1 - j) 0 = fm (xs.getD j 0 * fm (s ^ trin N j)) := by
  unfold bfl
  rw [pad_at, forel_at _ _ _ _ (by omega), show N - 1 - (N - 1 - j) = j by omega]
theorem bfl_out (s : Int) (xs : List Int) (N M z : Nat) (hz : N ≤ z) : (bfl s xs N M).getD z 0 = 0 := by
  unfold bfl
  rw [pad_at, getD_out _ _ (by rw [forel_len]; exact hz)]
set_option maxRecDepth 100000 in
set_option maxHeartbeats 16000000 in
theorem exec_blue (G N M : Nat) (k d k0 s r sm' : Int) (v0 : Value) (kb ko km kc : Nat) (p q1 q2 : Option Addr) (c e1 e2 : Nat) (xs : List Int) (W : World) (hx : Row W p N xs) (h0 : 1 ≤ N) (hM : 2 * N - 1 ≤ M) (hs : M ≤ 16777216) (hkm : 1 ≤ km) (hC : KO W kb ko k0 M v0) (hi2 : Inv2 (rdir M 0) sm' M)
    (hr : fm (r ^ N) = 1) (hsn : fm (s ^ N) = 1) (hrs : ∀ k : Nat, fm (s ^ k * r ^ k) = 1) (hw1 : Row W q1 N (rowc s N N)) (hl1 : Looks W G ⟨2, N, 0, d⟩ (.slice q1 N e1)) (hw2 : Row W q2 M (horl (rdir M 0) (bkl r N M) M)) (hl2 : Looks W G ⟨4, N, M, d⟩ (.slice q2 M e2)) (K0 : RunK W G k0 M v0 0 (rdir M 0)) :
    Calls Tryz.prog 157 #[.agg #[.map (some G)], .agg #[.int .i64 k, .int .i64 N, .slice (some ⟨kb, ko, none⟩) km kc], .int .i64 d, .slice p N c] W (GivesNw W N (horl r xs N)) := by
  obtain ⟨w0, w1, hw0, hw1', hWB, hB, l0, l1⟩ := wb_start W G k N (.slice (some ⟨kb, ko, none⟩) km kc)
  have hNM : N ≤ M := by omega
  have HS := Lib.hid (show 1 ≤ N ∧ 2 * N - 1 ≤ M ∧ M ≤ 16777216 ∧ N ≤ M from ⟨h0, hM, hs, hNM⟩)
  have HWB := Lib.hid hWB
  have HB := Lib.hid hB
  have HC := Lib.hid (hC.below hB)
  have HX := Lib.hid (fun (w : World) (h : Below w1.heap.size w1 w) => hx.below (hB.trans (h.mono hB.size)))
  have HCH := Lib.hid (fun (w : World) (h : Below w1.heap.size w1 w) => hw1.below (hB.trans (h.mono hB.size)))
  obtain ⟨fs, hfs⟩ : ∃ fs, bfl s xs N M = fs := ⟨_, rfl⟩
  have FLn := Lib.hid (show fs.length = M from by rw [← hfs]; exact bfl_len _ _ _ _ hNM)
  have FA := Lib.hid (fun j (hj : j < N) => (show fs.getD (N - 1 - j) 0 = fm (xs.getD j 0 * fm (s ^ trin N j)) from by rw [← hfs]; exact bfl_at _ _ _ _ _ hj))
  have FO := Lib.hid (fun z (hz : N ≤ z) => (show fs.getD z 0 = 0 from by rw [← hfs]; exact bfl_out _ _ _ _ _ hz))
  have FW := Lib.hid (show ∀ z ∈ fs, (Lit.int .u64 z).wf = true from fun z hz => by
    rw [← hfs] at hz
    unfold bfl at hz
    rcases List.mem_append.1 hz with h | h
    · unfold forel tab at h
      obtain ⟨j, _, rfl⟩ := List.mem_map.1 h
      exact WalkArith.wf_u64 ⟨fm_lo _, fm_hi' _⟩
    · rw [List.eq_of_mem_replicate h]; decide)
  have AR := Lib.hid (fun (w : World) (h : Below w1.heap.size w1 w) (a : Option Addr) (c' : Nat) (ha : Row w a M fs) => exec_around G M k0 (rdir M 0) sm' v0 a q2 c' e2 fs (bkl r N M) w hi2 ha (bkl_len _ _ _ hM) (hw2.below (hB.trans (h.mono hB.size))) (by omega) hs (K0.below (hB.trans (h.mono hB.size))))
  have LK1 := Lib.hid (fun (w : World) (h : Below w1.heap.size w1 w) => (show (Instr.lookup 114 (.map (some G)) (.agg #[.int .i64 2, .int .i64 N, .int .i64 0, .int .i64 d]) false).run Tryz.prog w = .ok (.slice q1 N e1) w from hl1 w (hB.trans (h.mono hB.size))))
  have LK2 := Lib.hid (fun (w : World) (h : Below w1.heap.size w1 w) => (show (Instr.lookup 114 (.map (some G)) (.agg #[.int .i64 4, .int .i64 N, .int .i64 M, .int .i64 d]) false).run Tryz.prog w = .ok (.slice q2 M e2) w from hl2 w (hB.trans (h.mono hB.size))))
  obtain ⟨ar, har⟩ : ∃ ar, cycl fs (bkl r N M) = ar := ⟨_, rfl⟩
  have AB := Lib.hid (fun t => (show 0 ≤ ar.getD t 0 ∧ ar.getD t 0 ≤ 18446744069414584320 from har ▸ cycl_b fs (bkl r N M) t))
  have AL := Lib.hid (show ar.length = M from by rw [← har, cycl_len]; exact FLn.out)
  rw [har] at AR
  have hall := chirp_all hr hsn hrs xs hx.len M h0 hM
  change aftl s (cycl (bfl s xs N M) (bkl r N M)) N = horl r xs N at hall
  rw [hfs, har] at hall
  obtain ⟨ys, hys⟩ : ∃ ys, horl r xs N = ys := ⟨_, rfl⟩
  have YW := Lib.hid (show ∀ z ∈ ys, (Lit.int .u64 z).wf = true from hys ▸ horl_wf r xs N)
  have YL := Lib.hid (show ys.length = N from by rw [← hys, horl_len])
  rw [hys] at hall ⊢
  have YA := Lib.hid (fun k (hk : k < N) => (show ys.getD k 0 = fm (ar.getD (N - 1 + k) 0 * fm (s ^ trin N k)) from by rw [← hall, aftl_at _ _ _ _ hk]))
  have CA := Lib.hid (fun j (hj : j < N) => rowc_at s N N j hj)
  have hmkM := make_u64 M (by omega)
  have hmkN := make_u64 N (by omega)
  have hm0 : 0 < km := by omega
  have hm0i : (0 : Int) < (km : Int) := by omega
  obtain ⟨c0, c1, c2, c3⟩ := hWB.cells
  have hC1 := HC.out
  have k0c := hC1.c0
  have k1c := hC1.c1
  have k2c := hC1.c2
  obtain ⟨N1, hN1⟩ : ∃ N1, N - 1 = N1 := ⟨_, rfl⟩
  have HN1 := Lib.hid (show N = N1 + 1 from by omega)
  rw [hN1] at FA YA
  clear hfs har hys hall hC hC1 hx h0 hM hs hkm hw1 hw2 hl1 hl2 hr hsn hrs K0 hWB hB l0 l1 hi2 hNM hN1
  go_enter Tryz.func157, Tryz.ntmps157
  go_upto_region 1 with fail
  go_quiet (fail)
  obtain ⟨A, hA⟩ : ∃ A, W.heap.size = A := ⟨_, rfl⟩
  obtain ⟨B, hBB⟩ : ∃ B, w0.heap.size = B := ⟨_, rfl⟩
  rw [hA] at HWB
  rw [hBB] at HWB
  rw [hA] at c0
  rw [hBB] at c1 c2 c3
  obtain ⟨w2, hw2⟩ : ∃ w2, w1.drewN nq = w2 := ⟨_, rfl⟩
  have HB2 := Lib.hid (show Below w1.heap.size w1 w2 from hw2 ▸ below_drewN (Below.refl w1.heap.size w1) _)
  obtain ⟨d0, d1, d2, d3⟩ := (HWB.out.below HB2.out).cells
  have lk := LK1.out w2 HB2.out
  (try rw [hw2])
  obtain ⟨Y, hY⟩ : ∃ Y, w2.heap.size = Y := ⟨_, rfl⟩
  obtain ⟨w3, hw3⟩ : ∃ w3, w2.alloc (.cells (Array.replicate M (.int .u64 0)) 62) = w3 := ⟨_, rfl⟩
  have H3 := Lib.hid (show RowAt w3 Y 62 (tab M (sett (fun j => N1 - j) fs (List.replicate M 0) 0)) ∧ Below Y w2 w3 ∧ Y = w2.heap.size ∧ w1.heap.size ≤ Y from by
    subst hY
    have := RowAt.made w2 62 M
    rw [hw3, ← sett_start (fun j => N1 - j) fs (List.replicate M 0) M (by simp)] at this
    exact ⟨this, hw3 ▸ (Below.refl _ _).alloc (Nat.le_refl _) _, rfl, HB2.out.size⟩)
  have LX := Lib.hid (fun t (ht : t < N) => (HX.out w2 HB2.out).cell ht)
  have LC := Lib.hid (fun t (ht : t < N) => (HCH.out w2 HB2.out).cell ht)
  have HW3 := Lib.hid hw3
  clear hw3
  go_wp2_with fail
  (try rw [hA]); (try rw [hBB]); (try rw [hw2]); (try rw [hY]); (try rw [HW3.out])
  clear c0 c1 c2 c3 k0c k1c k2c hw0 hw1' lk d0 d1 d2 d3
  go_loopw [13, 14, 35] (fun _ _ x wr => ∃ t : Nat, t ≤ N ∧ x = .int .i64 t ∧ Hid (RowAt wr Y 62 (tab M (sett (fun j => N1 - j) fs (List.replicate M 0) t))) ∧ Hid (Below Y w2 wr)) (fun _ _ x _ => N - (intOf x).toNat)
  case atStart => exact ⟨0, Nat.zero_le _, rfl, Lib.hid H3.out.1, Lib.hid H3.out.2.1⟩
  case round =>
    obtain ⟨t, ht, rfl, RL, HBL⟩ := hrel
    by_cases htn : t < N
    · have hti : (t : Int) < (N : Int) := by omega
      have WT := Lib.hid (show wrap64 ((t : Int) + 1) = ((t + 1 : Nat) : Int) by have := HS.out; simp only [wrap64]; omega)
      have FAt := FA.out t htn
      have CAt := CA.out t htn
      obtain ⟨bx, ox, rfl, hbx, kx, x0, x1⟩ := LX.out t htn
      obtain ⟨bc, oc, rfl, hbc, kcc, y0, y1⟩ := LC.out t htn
      have hx6 := (HBL.out.cell (p := ⟨bx, ox + t, none⟩) (by rw [H3.out.2.2.1]; exact hbx)).trans kx
      have hc6 := (HBL.out.cell (p := ⟨bc, oc + t, none⟩) (by rw [H3.out.2.2.1]; exact hbc)).trans kcc
      rw [CAt] at hc6 y0 y1
      have hz : N1 - t < M := by have := HS.out; have := HN1.out; omega
      have RN := Lib.hid (fun (u : World) (h : RowAt u Y 62 (tab M (sett (fun j => N1 - j) fs (List.replicate M 0) t))) => (show RowAt (u.setCell ⟨Y, N1 - t, none⟩ (.int .u64 (fs.getD (N1 - t) 0))) Y 62 (tab M (sett (fun j => N1 - j) fs (List.replicate M 0) (t + 1))) from by
        have := h.set (N1 - t) (fs.getD (N1 - t) 0)
        have h2 := sett_step (fun j => N1 - j) fs (List.replicate M 0) M t
        rwa [h2] at this))
      rw [FAt] at RN
      have hbx6 : bx < wr.heap.size := Nat.lt_of_lt_of_le hbx HBL.out.size
      have hbc6 : bc < wr.heap.size := Nat.lt_of_lt_of_le hbc HBL.out.size
      obtain ⟨x, hxe⟩ : ∃ x, xs.getD t 0 = x := ⟨_, rfl⟩
      obtain ⟨y, hye⟩ : ∃ y, fm (s ^ trin N t) = y := ⟨_, rfl⟩
      rw [hxe] at hx6 x0 x1 RN
      rw [hye] at hc6 y0 y1 RN
      have W1 := Lib.hid (show wrap64 ((N : Int) - 1) = (N1 : Int) from by have := HS.out; have := HN1.out; simp only [wrap64]; omega)
      have W2 := Lib.hid (show wrap64 ((N1 : Int) - (t : Int)) = ((N1 - t : Nat) : Int) from by have := HS.out; have := HN1.out; simp only [wrap64]; omega)
      obtain ⟨z, hze⟩ : ∃ z, N1 - t = z := ⟨_, rfl⟩
      rw [hze] at hz RN W2
      have HMUL := Lib.hid (fun (w : World) => gold_mul x y w x0 x1 y0 y1)
      have hzi : (z : Int) < (M : Int) := by omega
      have hz0 : (0 : Int) ≤ (z : Int) := by omega
      clear hxe hye hze kx kcc FAt CAt x0 x1 y0 y1 hbx hbc
      have u1 := W1.out
      have u2 := W2.out
      go_wp2_with fail
      refine (HMUL.out _).mono ?_
      rintro e wm ⟨rfl, hbm⟩
      have RM := RL.out.below hbm
      have cy := RM.cell (k := z) (by rw [tab_len]; exact hz)
      have fy := RM.free z
      have RN2 := Lib.hid (RN.out wm RM)
      have HB7 := Lib.hid ((HBL.out.trans (hbm.mono (Nat.le_of_lt RL.out.lt))).setCell (p := ⟨Y, z, none⟩) (Nat.le_refl _) (.int .u64 (fm (x * y))))
      have hlt := RM.lt
      clear hbm RM hx6 hc6
      go_wp2_with fail
      go_roundw
      case rel => exact ⟨t + 1, by omega, by first | rw [WT.out] | go_num, RN2, HB7⟩
      case measure => first | (first | (simp [intOf]; done) | (simp [intOf]; omega) | (simp only [intOf]; omega)) | (rw [WT.out]; simp only [intOf]; omega)
    · have hti : ¬ (t : Int) < (N : Int) := by omega
      obtain rfl : t = N := by omega
      have RM := Lib.hid (show RowAt wr Y 62 fs from by
        have := RL.out
        rwa [sett_end (fun j => N1 - j) fs _ M t FLn.out (fun z hz => by
          by_cases h1 : z < t
          · exact .inl ⟨N1 - z, by have := HN1.out; omega, by show N1 - (N1 - z) = z; have := HN1.out; omega⟩
          · right
            rw [FO.out z (by omega)]
            simp [List.getD, hz])] at this)
      have HB4 := Lib.hid (HB2.out.trans (HBL.out.mono H3.out.2.2.2))
      have HCH4 := Lib.hid (HCH.out wr HB4.out)
      obtain ⟨w4, rfl⟩ : ∃ w4, w4 = wr := ⟨_, rfl⟩
      clear RL HBL htn
      go_upto_region 9 with fail
      have FC := Lib.hid (fun (u : World) (h : Below w1.heap.size w1 u) => And.intro (HWB.out.below h).cells (HC.out.below h))
      have Hs0 := HB4.out.trans ((Below.refl w4.heap.size w4).drew.mono HB4.out.size)
      have AR2 := Lib.hid (AR.out w4.drew Hs0 (some ⟨Y, 0, none⟩) M (Row.of_at (show RowAt w4.drew Y _ _ from RM.out) FW.out FLn.out (by have := HS.out; omega)))
      refine wp_region_held_drew (S := (fun w' => Below w1.heap.size w1 w')) (by kernel_rfl) Hs0 (fun hHeld => ?_)
      refine wpAnyH_take (i := 0) (v := ?v1) rfl (by kernel_rfl) (by kernel_rfl) (by kernel_rfl) (fun _ _ _ h => h) (Or.inl ⟨by kernel_rfl, ?hy1⟩) (by assumption) ?rest1
      case hy1 => intro w hSw; (try dsimp only at hSw); obtain ⟨⟨g0, g1, g2, g3⟩, gk⟩ := FC.out w hSw; have gk0 := gk.c0; have gk1 := gk.c1; have gk2 := gk.c2; have lk := LK2.out w hSw; go_simp; (first | done | with_reducible rfl)
      (try simp only [Act.put, List.getElem_toArray, List.getElem_cons_zero, List.getElem_cons_succ, List.setIfInBounds_toArray, List.set_cons_zero, List.set_cons_succ])
      refine wpAnyH_take (i := 1) (v := ?v2) rfl (by kernel_rfl) (by kernel_rfl) (by kernel_rfl) (fun _ _ _ h => h) (Or.inl ⟨by kernel_rfl, ?hy2⟩) (by assumption) ?rest2
      case hy2 => intro w hSw; clear hSw; go_simp; (first | done | with_reducible rfl)
      (try simp only [Act.put, List.getElem_toArray, List.getElem_cons_zero, List.getElem_cons_succ, List.setIfInBounds_toArray, List.set_cons_zero, List.set_cons_succ])
      refine wpAnyH_take (i := 2) (v := ?v3) rfl (by kernel_rfl) (by kernel_rfl) (by kernel_rfl) (fun _ _ _ h => h) (Or.inl ⟨by kernel_rfl, ?hy3⟩) (by assumption) ?rest3
      case hy3 => intro w hSw; (try dsimp only at hSw); obtain ⟨⟨g0, g1, g2, g3⟩, gk⟩ := FC.out w hSw; have gk0 := gk.c0; have gk1 := gk.c1; have gk2 := gk.c2; have lk := LK2.out w hSw; go_simp; (first | done | with_reducible rfl)
      (try simp only [Act.put, List.getElem_toArray, List.getElem_cons_zero, List.getElem_cons_succ, List.setIfInBounds_toArray, List.set_cons_zero, List.set_cons_succ])
      refine wpAnyH_take (i := 3) (v := ?v4) rfl (by kernel_rfl) (by kernel_rfl) (by kernel_rfl) (fun _ _ _ h => h) (Or.inl ⟨by kernel_rfl, ?hy4⟩) (by assumption) ?rest4
      case hy4 => intro w hSw; clear hSw; go_simp; (first | done | with_reducible rfl)
      (try simp only [Act.put, List.getElem_toArray, List.getElem_cons_zero, List.getElem_cons_succ, List.setIfInBounds_toArray, List.set_cons_zero, List.set_cons_succ])
      refine wpAnyH_take (i := 4) (v := ?v5) rfl (by kernel_rfl) (by kernel_rfl) (by kernel_rfl) (fun _ _ _ h => h) (Or.inl ⟨by kernel_rfl, ?hy5⟩) (by assumption) ?rest5
      case hy5 => intro w hSw; (try dsimp only at hSw); obtain ⟨⟨g0, g1, g2, g3⟩, gk⟩ := FC.out w hSw; have gk0 := gk.c0; have gk1 := gk.c1; have gk2 := gk.c2; have lk := LK2.out w hSw; go_simp; (first | done | with_reducible rfl)
      (try simp only [Act.put, List.getElem_toArray, List.getElem_cons_zero, List.getElem_cons_succ, List.setIfInBounds_toArray, List.set_cons_zero, List.set_cons_succ])
      refine wpAnyH_take (i := 5) (v := ?v6) rfl (by kernel_rfl) (by kernel_rfl) (by kernel_rfl) (fun _ _ _ h => h) (Or.inl ⟨by kernel_rfl, ?hy6⟩) (by assumption) ?rest6
      case hy6 => intro w hSw; clear hSw; go_simp; (first | done | with_reducible rfl)
      (try simp only [Act.put, List.getElem_toArray, List.getElem_cons_zero, List.getElem_cons_succ, List.setIfInBounds_toArray, List.set_cons_zero, List.set_cons_succ])
      refine wpAnyH_take (i := 6) (v := ?v7) rfl (by kernel_rfl) (by kernel_rfl) (by kernel_rfl) (fun _ _ _ h => h) (Or.inl ⟨by kernel_rfl, ?hy7⟩) (by assumption) ?rest7
      case hy7 => intro w hSw; clear hSw; go_simp; (first | done | with_reducible rfl)
      (try simp only [Act.put, List.getElem_toArray, List.getElem_cons_zero, List.getElem_cons_succ, List.setIfInBounds_toArray, List.set_cons_zero, List.set_cons_succ])
      refine wpAnyH_take (i := 7) (v := ?v8) rfl (by kernel_rfl) (by kernel_rfl) (by kernel_rfl) (fun _ _ _ h => h) (Or.inl ⟨by kernel_rfl, ?hy8⟩) (by assumption) ?rest8
      case hy8 => intro w hSw; (try dsimp only at hSw); obtain ⟨⟨g0, g1, g2, g3⟩, gk⟩ := FC.out w hSw; have gk0 := gk.c0; have gk1 := gk.c1; have gk2 := gk.c2; have lk := LK2.out w hSw; go_simp; (first | done | with_reducible rfl)
      (try simp only [Act.put, List.getElem_toArray, List.getElem_cons_zero, List.getElem_cons_succ, List.setIfInBounds_toArray, List.set_cons_zero, List.set_cons_succ])
      refine wpAnyH_take (i := 8) (v := ?v9) rfl (by kernel_rfl) (by kernel_rfl) (by kernel_rfl) (fun _ _ _ h => h) (Or.inl ⟨by kernel_rfl, ?hy9⟩) (by assumption) ?rest9
      case hy9 => intro w hSw; clear hSw; go_simp; (first | done | with_reducible rfl)
      (try simp only [Act.put, List.getElem_toArray, List.getElem_cons_zero, List.getElem_cons_succ, List.setIfInBounds_toArray, List.set_cons_zero, List.set_cons_succ])
      refine wpAnyH_take (i := 9) (v := ?v10) rfl (by kernel_rfl) (by kernel_rfl) (by kernel_rfl) (fun _ _ _ h => h) (Or.inl ⟨by kernel_rfl, ?hy10⟩) (by assumption) ?rest10
      case hy10 => intro w hSw; clear hSw; go_simp; (first | done | with_reducible rfl)
      (try simp only [Act.put, List.getElem_toArray, List.getElem_cons_zero, List.getElem_cons_succ, List.setIfInBounds_toArray, List.set_cons_zero, List.set_cons_succ])
      refine wpAnyH_take (i := 10) (v := ?v11) rfl (by kernel_rfl) (by kernel_rfl) (by kernel_rfl) (fun _ _ _ h => h) (Or.inl ⟨by kernel_rfl, ?hy11⟩) (by assumption) ?rest11
      case hy11 => intro w hSw; clear hSw; go_simp; (first | done | with_reducible rfl)
      (try simp only [Act.put, List.getElem_toArray, List.getElem_cons_zero, List.getElem_cons_succ, List.setIfInBounds_toArray, List.set_cons_zero, List.set_cons_succ])
      refine wpAnyH_take (i := 11) (v := ?v12) rfl (by kernel_rfl) (by kernel_rfl) (by kernel_rfl) (fun _ _ _ h => h) (Or.inl ⟨by kernel_rfl, ?hy12⟩) (by assumption) ?rest12
      case hy12 => intro w hSw; clear hSw; go_simp; (first | done | with_reducible rfl)
      (try simp only [Act.put, List.getElem_toArray, List.getElem_cons_zero, List.getElem_cons_succ, List.setIfInBounds_toArray, List.set_cons_zero, List.set_cons_succ])
      refine wpAnyH_take (i := 12) (v := ?v13) rfl (by kernel_rfl) (by kernel_rfl) (by kernel_rfl) (fun _ _ _ h => h) (Or.inl ⟨by kernel_rfl, ?hy13⟩) (by assumption) ?rest13
      case hy13 => intro w hSw; (try dsimp only at hSw); obtain ⟨⟨g0, g1, g2, g3⟩, gk⟩ := FC.out w hSw; have gk0 := gk.c0; have gk1 := gk.c1; have gk2 := gk.c2; have lk := LK2.out w hSw; go_simp; (first | done | with_reducible rfl)
      (try simp only [Act.put, List.getElem_toArray, List.getElem_cons_zero, List.getElem_cons_succ, List.setIfInBounds_toArray, List.set_cons_zero, List.set_cons_succ])
      refine wpAnyH_ready (rs := [13]) (by kernel_rfl) (by simp) ?_
      refine AllReadyH.cons rfl (fun K hK => ?_) AllReadyH.nil
      go_simp
      refine (AR2.out).mono ?_
      rintro e u ⟨q6, e6, rfl, r6, hb6⟩
      (try go_wp2_with fail)
      refine hK.out _ _ (hHeld.trans (hb6.mono hHeld.size)) (fun hHeld2 => ?_)
      clear hK K hHeld
      have hHeld := hHeld2
      clear hHeld2
      (try simp only [Act.put, List.getElem_toArray, List.getElem_cons_zero, List.getElem_cons_succ, List.setIfInBounds_toArray, List.set_cons_zero, List.set_cons_succ])
      refine wpAnyH_take (i := 14) (v := ?v15) rfl (by kernel_rfl) (by kernel_rfl) (by kernel_rfl) (fun _ _ _ h => h) (Or.inl ⟨by kernel_rfl, ?hy15⟩) (by assumption) ?rest15
      case hy15 => intro w hSw; clear hSw; go_simp; (first | done | with_reducible rfl)
      (try simp only [Act.put, List.getElem_toArray, List.getElem_cons_zero, List.getElem_cons_succ, List.setIfInBounds_toArray, List.set_cons_zero, List.set_cons_succ])
      refine wpAnyH_done (by kernel_rfl) ?_ _
      have HR6 := Lib.hid r6
      have HB6 := Lib.hid hHeld
      have HR7 := Lib.hid ((HCH4.out.below ((Below.refl w4.heap.size w4).drew)).below hb6)
      clear r6 hb6 hHeld Hs0
      obtain ⟨w6, rfl⟩ : ∃ z, z = u := ⟨_, rfl⟩
      obtain ⟨Y2, hY2⟩ : ∃ Y, w6.heap.size = Y := ⟨_, rfl⟩
      obtain ⟨w7, hw7⟩ : ∃ w7, w6.alloc (.cells (Array.replicate t (.int .u64 0)) 62) = w7 := ⟨_, rfl⟩
      have H7 := Lib.hid (show RowAt w7 Y2 62 (tab t (fillt ys (List.replicate t 0) 0)) ∧ Below Y2 w6 w7 ∧ Y2 = w6.heap.size ∧ w1.heap.size ≤ Y2 from by
        subst hY2
        have := RowAt.made w6 62 t
        rw [hw7, ← fillt_start ys (List.replicate t 0) t (by simp)] at this
        exact ⟨this, hw7 ▸ (Below.refl _ _).alloc (Nat.le_refl _) _, rfl, HB6.out.size⟩)
      have LR := Lib.hid (fun t' (ht : t' < M) => HR6.out.cell ht)
      have LO := Lib.hid (fun t' (ht : t' < t) => HR7.out.cell ht)
      have HW7 := Lib.hid hw7
      clear hw7
      go_wp2_with fail
      (try rw [hY2]); (try rw [HW7.out])
      go_loopw [17, 71] (fun _ x wr => ∃ j : Nat, j ≤ t ∧ x = .int .i64 j ∧ Hid (RowAt wr Y2 62 (tab t (fillt ys (List.replicate t 0) j))) ∧ Hid (Below Y2 w6 wr)) (fun _ x _ => t - (intOf x).toNat)
      case atStart => exact ⟨0, Nat.zero_le _, rfl, Lib.hid H7.out.1, Lib.hid H7.out.2.1⟩
      case round =>
        obtain ⟨j, hj, rfl, RL, HBL⟩ := hrel
        by_cases hjt : j < t
        · have hji : (j : Int) < (t : Int) := by omega
          have WS := Lib.hid (show wrap64 ((j : Int) + 1) = ((j + 1 : Nat) : Int) by have := HS.out; simp only [wrap64]; omega)
          have YAj := YA.out j hjt
          have CAj := CA.out j hjt
          have hI : N1 + j < M := by have := HS.out; have := HN1.out; omega
          obtain ⟨br, or_, rfl, hbr, kr, -, -⟩ := LR.out _ hI
          obtain ⟨bc, oc, rfl, hbc, kcc, y0, y1⟩ := LO.out j hjt
          obtain ⟨b0, b1⟩ := AB.out (N1 + j)
          have hr6 := (HBL.out.cell (p := ⟨br, or_ + (N1 + j), none⟩) (by rw [H7.out.2.2.1]; exact hbr)).trans kr
          have hc6 := (HBL.out.cell (p := ⟨bc, oc + j, none⟩) (by rw [H7.out.2.2.1]; exact hbc)).trans kcc
          rw [CAj] at hc6 y0 y1
          have YLt := Lib.hid RL.out.lt
          have hbr6 : br < wr.heap.size := Nat.lt_of_lt_of_le hbr HBL.out.size
          have hbc6 : bc < wr.heap.size := Nat.lt_of_lt_of_le hbc HBL.out.size
          have RN := Lib.hid (fun (u : World) (h : RowAt u Y2 62 (tab t (fillt ys (List.replicate t 0) j))) => (show RowAt (u.setCell ⟨Y2, j, none⟩ (.int .u64 (ys.getD j 0))) Y2 62 (tab t (fillt ys (List.replicate t 0) (j + 1))) from by
            have := h.set j (ys.getD j 0)
            rwa [fillt_step] at this))
          rw [YAj] at RN
          have W1 := Lib.hid (show IntKind.i64.wrap ((t : Int) - 1) = (N1 : Int) from by rw [IntWalk.i64_in _ (by have := HS.out; have := HN1.out; omega)]; have := HN1.out; omega)
          have W2 := Lib.hid (show IntKind.i64.wrap ((N1 : Int) + (j : Int)) = ((N1 + j : Nat) : Int) from by rw [IntWalk.i64_in _ (by have := HS.out; have := HN1.out; omega)]; omega)
          obtain ⟨I, hIe⟩ : ∃ I, N1 + j = I := ⟨_, rfl⟩
          rw [hIe] at hI hr6 b0 b1 RN W2
          obtain ⟨av, hav⟩ : ∃ x, ar.getD I 0 = x := ⟨_, rfl⟩
          rw [hav] at hr6 b0 b1 RN
          obtain ⟨y, hye⟩ : ∃ y, fm (s ^ trin t j) = y := ⟨_, rfl⟩
          rw [hye] at hc6 y0 y1 RN
          have HMUL := Lib.hid (fun (w : World) => gold_mul av y w b0 (by omega) y0 y1)
          have FX := Lib.hid (fun (u : World) (h : Below wr.drew.heap.size wr.drew u) => (show u.cell? ⟨br, or_ + I, none⟩ = some (.int .u64 av) ∧ u.cell? ⟨bc, oc + j, none⟩ = some (.int .u64 y) ∧ u.frozen? ⟨Y2, j, none⟩ = false ∧ (∃ yv, u.cell? ⟨Y2, j, none⟩ = some (.int .u64 yv)) ∧ RowAt u Y2 62 (tab t (fillt ys (List.replicate t 0) j)) from
            have hr : RowAt u Y2 62 (tab t (fillt ys (List.replicate t 0) j)) := (show RowAt wr.drew Y2 _ _ from RL.out).below h
            ⟨(h.cell (p := ⟨br, or_ + I, none⟩) hbr6).trans hr6, (h.cell (p := ⟨bc, oc + j, none⟩) hbc6).trans hc6, hr.free j, ⟨_, hr.cell (k := j) (by rw [tab_len]; exact hjt)⟩, hr⟩))
          have hIi : (I : Int) < (M : Int) := by omega
          have hI0 : (0 : Int) ≤ (I : Int) := by omega
          have hj0 : (0 : Int) ≤ (j : Int) := by omega
          have Z3 := Lib.hid (show Y2 ≤ wr.heap.size from Nat.le_of_lt YLt.out)
          clear hIe hav hye kr kcc YAj CAj hbr hbc y0 y1 b0 b1 hr6 hc6
          go_wp2_with fail
          have w1i := W1.out
          have w2i := W2.out
          refine region_gate (fun w' => Below wr.drew.heap.size wr.drew w') 15 (by kernel_rfl) (Below.refl _ _) (fun hHeld => ?_)
          refine gate_takeF (i := 0) (v := ?v16) rfl (by kernel_rfl) (by kernel_rfl) (by kernel_rfl) (by kernel_rfl) (fun _ _ _ h => h) (Or.inl ⟨by rfl, ?hy16⟩) (by assumption) ?rest16
          case hy16 => intro w hSw; clear hSw; go_simp; (first | done | with_reducible rfl)
          (try simp only [Act.put, List.getElem_toArray, List.getElem_cons_zero, List.getElem_cons_succ, List.setIfInBounds_toArray, List.set_cons_zero, List.set_cons_succ])
          refine gate_takeF (i := 1) (v := ?v17) rfl (by kernel_rfl) (by kernel_rfl) (by kernel_rfl) (by kernel_rfl) (fun _ _ _ h => h) (Or.inl ⟨by rfl, ?hy17⟩) (by assumption) ?rest17
          case hy17 => intro w hSw; clear hSw; go_simp; (first | done | with_reducible rfl)
          (try simp only [Act.put, List.getElem_toArray, List.getElem_cons_zero, List.getElem_cons_succ, List.setIfInBounds_toArray, List.set_cons_zero, List.set_cons_succ])
          refine gate_takeF (i := 2) (v := ?v18) rfl (by kernel_rfl) (by kernel_rfl) (by kernel_rfl) (by kernel_rfl) (fun _ _ _ h => h) (Or.inl ⟨by rfl, ?hy18⟩) (by assumption) ?rest18
          case hy18 => intro w hSw; clear hSw; go_simp; (first | done | with_reducible rfl)
          (try simp only [Act.put, List.getElem_toArray, List.getElem_cons_zero, List.getElem_cons_succ, List.setIfInBounds_toArray, List.set_cons_zero, List.set_cons_succ])
          refine gate_takeF (i := 3) (v := ?v19) rfl (by kernel_rfl) (by kernel_rfl) (by kernel_rfl) (by kernel_rfl) (fun _ _ _ h => h) (Or.inl ⟨by rfl, ?hy19⟩) (by assumption) ?rest19
          case hy19 => intro w hSw; clear hSw; go_simp; (first | done | with_reducible rfl)
          (try simp only [Act.put, List.getElem_toArray, List.getElem_cons_zero, List.getElem_cons_succ, List.setIfInBounds_toArray, List.set_cons_zero, List.set_cons_succ])
          refine gate_takeF (i := 4) (v := ?v20) rfl (by kernel_rfl) (by kernel_rfl) (by kernel_rfl) (by kernel_rfl) (fun _ _ _ h => h) (Or.inl ⟨by rfl, ?hy20⟩) (by assumption) ?rest20
          case hy20 => intro w hSw; clear hSw; go_simp; (first | done | with_reducible rfl)
          (try simp only [Act.put, List.getElem_toArray, List.getElem_cons_zero, List.getElem_cons_succ, List.setIfInBounds_toArray, List.set_cons_zero, List.set_cons_succ])
          refine gate_takeF (i := 5) (v := ?v21) rfl (by kernel_rfl) (by kernel_rfl) (by kernel_rfl) (by kernel_rfl) (fun _ _ _ h => h) (Or.inl ⟨by rfl, ?hy21⟩) (by assumption) ?rest21
          case hy21 => intro w hSw; clear hSw; go_simp; (first | done | with_reducible rfl)
          (try simp only [Act.put, List.getElem_toArray, List.getElem_cons_zero, List.getElem_cons_succ, List.setIfInBounds_toArray, List.set_cons_zero, List.set_cons_succ])
          refine gate_takeF (i := 6) (v := ?v22) rfl (by kernel_rfl) (by kernel_rfl) (by kernel_rfl) (by kernel_rfl) (fun _ _ _ h => h) (Or.inl ⟨by rfl, ?hy22⟩) (by assumption) ?rest22
          case hy22 => intro w hSw; clear hSw; go_simp; (first | done | with_reducible rfl)
          (try simp only [Act.put, List.getElem_toArray, List.getElem_cons_zero, List.getElem_cons_succ, List.setIfInBounds_toArray, List.set_cons_zero, List.set_cons_succ])
          refine gate_takeF (i := 7) (v := ?v23) rfl (by kernel_rfl) (by kernel_rfl) (by kernel_rfl) (by kernel_rfl) (fun _ _ _ h => h) (Or.inl ⟨by rfl, ?hy23⟩) (by assumption) ?rest23
          case hy23 => intro w hSw; clear hSw; go_simp; (first | done | with_reducible rfl)
          (try simp only [Act.put, List.getElem_toArray, List.getElem_cons_zero, List.getElem_cons_succ, List.setIfInBounds_toArray, List.set_cons_zero, List.set_cons_succ])
          refine gate_take (i := 8) (v := ?v24) rfl (by kernel_rfl) (by kernel_rfl) (by kernel_rfl) (by kernel_rfl) (by kernel_rfl) (fun _ _ _ h => h) (Or.inl ⟨by rfl, ?hy24⟩) (by assumption) ?rest24
          case hy24 => intro w hSw; (try dsimp only at hSw); obtain ⟨g1, g2, g3, g4, g5⟩ := FX.out w hSw; go_simp; (first | done | with_reducible rfl)
          (try simp only [Act.put, List.getElem_toArray, List.getElem_cons_zero, List.getElem_cons_succ, List.setIfInBounds_toArray, List.set_cons_zero, List.set_cons_succ])
          refine gate_takeF (i := 9) (v := ?v25) rfl (by kernel_rfl) (by kernel_rfl) (by kernel_rfl) (by kernel_rfl) (fun _ _ _ h => h) (Or.inl ⟨by rfl, ?hy25⟩) (by assumption) ?rest25
          case hy25 => intro w hSw; clear hSw; go_simp; (first | done | with_reducible rfl)
          (try simp only [Act.put, List.getElem_toArray, List.getElem_cons_zero, List.getElem_cons_succ, List.setIfInBounds_toArray, List.set_cons_zero, List.set_cons_succ])
          refine gate_takeF (i := 10) (v := ?v26) rfl (by kernel_rfl) (by kernel_rfl) (by kernel_rfl) (by kernel_rfl) (fun _ _ _ h => h) (Or.inl ⟨by rfl, ?hy26⟩) (by assumption) ?rest26
          case hy26 => intro w hSw; clear hSw; go_simp; (first | done | with_reducible rfl)
          (try simp only [Act.put, List.getElem_toArray, List.getElem_cons_zero, List.getElem_cons_succ, List.setIfInBounds_toArray, List.set_cons_zero, List.set_cons_succ])
          refine gate_takeF (i := 11) (v := ?v27) rfl (by kernel_rfl) (by kernel_rfl) (by kernel_rfl) (by kernel_rfl) (fun _ _ _ h => h) (Or.inl ⟨by rfl, ?hy27⟩) (by assumption) ?rest27
          case hy27 => intro w hSw; clear hSw; go_simp; (first | done | with_reducible rfl)
          (try simp only [Act.put, List.getElem_toArray, List.getElem_cons_zero, List.getElem_cons_succ, List.setIfInBounds_toArray, List.set_cons_zero, List.set_cons_succ])
          refine gate_take (i := 12) (v := ?v28) rfl (by kernel_rfl) (by kernel_rfl) (by kernel_rfl) (by kernel_rfl) (by kernel_rfl) (fun _ _ _ h => h) (Or.inl ⟨by rfl, ?hy28⟩) (by assumption) ?rest28
          case hy28 => intro w hSw; (try dsimp only at hSw); obtain ⟨g1, g2, g3, g4, g5⟩ := FX.out w hSw; go_simp; (first | done | with_reducible rfl)
          (try simp only [Act.put, List.getElem_toArray, List.getElem_cons_zero, List.getElem_cons_succ, List.setIfInBounds_toArray, List.set_cons_zero, List.set_cons_succ])
          refine gate_one (i := 13) rfl (by kernel_rfl) (fun K hK => ?_)
          go_simp
          refine (HMUL.out _).mono ?_
          rintro e u ⟨rfl, hb⟩
          (try go_wp2_with fail)
          refine hK.out _ _ (hHeld.trans (hb.mono hHeld.size)) (fun hHeld2 => ?_)
          clear hK K hHeld
          have hHeld := hHeld2
          clear hHeld2
          (try simp only [Act.put, List.getElem_toArray, List.getElem_cons_zero, List.getElem_cons_succ, List.setIfInBounds_toArray, List.set_cons_zero, List.set_cons_succ])
          refine gate_takeF (i := 14) (v := ?v30) rfl (by kernel_rfl) (by kernel_rfl) (by kernel_rfl) (by kernel_rfl) (fun _ _ _ h => h) (Or.inl ⟨by rfl, ?hy30⟩) (by assumption) ?rest30
          case hy30 => intro w hSw; clear hSw; go_simp; (first | done | with_reducible rfl)
          (try simp only [Act.put, List.getElem_toArray, List.getElem_cons_zero, List.getElem_cons_succ, List.setIfInBounds_toArray, List.set_cons_zero, List.set_cons_succ])
          obtain ⟨g1, g2, g3, ⟨yv, g4⟩, g5⟩ := FX.out _ hHeld
          refine gate_past (i := 15) rfl (by kernel_rfl) (by kernel_rfl) (fun K hK => ?_)
          go_simp
          refine hK.out _ _ ?_
          clear hK K
          (try simp only [Act.put, List.getElem_toArray, List.getElem_cons_zero, List.getElem_cons_succ, List.setIfInBounds_toArray, List.set_cons_zero, List.set_cons_succ])
          refine gate_done (by kernel_rfl) ?_ _
          have RN2 := Lib.hid (RN.out _ g5)
          have HB5 := Lib.hid ((HBL.out.trans (((Below.refl wr.heap.size wr).drew.trans hHeld).mono Z3.out)).setCell (p := ⟨Y2, j, none⟩) (Nat.le_refl _) (.int .u64 (fm (av * y))))
          clear g1 g2 g3 g4 g5 hHeld FX w1i w2i
          go_wp2_with fail
          go_roundw
          case rel => exact ⟨j + 1, by omega, by first | rw [WS.out] | go_num, RN2, HB5⟩
          case measure => first | (first | (simp [intOf]; done) | (simp [intOf]; omega) | (simp only [intOf]; omega)) | (rw [WS.out]; simp only [intOf]; omega)
        · have hji : ¬ (j : Int) < (t : Int) := by omega
          obtain rfl : j = t := by omega
          have RE := Lib.hid (show RowAt wr Y2 62 ys from by have := RL.out; rwa [fillt_end ys _ j YL.out] at this)
          have WB9 := Lib.hid (show Below W.heap.size W wr ∧ W.heap.size ≤ Y2 from ⟨HB.out.trans ((HB6.out.trans (HBL.out.mono H7.out.2.2.2)).mono HB.out.size), Nat.le_trans HB.out.size H7.out.2.2.2⟩)
          go_wp2_with fail
          go_ret
          exact givesNw_at rfl RE.out YW.out YL.out (by have := HS.out; omega) WB9.out.1 WB9.out.2
end Go.Proofs.YtbhnlfgccldmaaaGreat
