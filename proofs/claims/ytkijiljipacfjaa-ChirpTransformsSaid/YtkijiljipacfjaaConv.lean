/- Package conv, and reference 7: the plain loops. -/
import Derived.Test.YtkijiljipacfjaaConvm
import Derived.Test.YtkijiljipacfjaaVecc
import Derived.Test.YtkijiljipacfjaaBut
import Derived.StillTailTactics
namespace Go.Proofs.Ytkijiljipacfjaa
open Go.ChangeShapes Go.WideShapes Go.ChangeAt Go.RowKit
set_option linter.unusedVariables false
theorem tmod_nat (a b : Nat) : ((a : Int)).tmod (b : Int) = ((a % b : Nat) : Int) := rfl
/-- One number more, around m places. -/
theorem wrap_put (xs : List Int) (m t : Nat) : (tab m fun k => wsn xs m k t).set (t % m) (fm (wsn xs m (t % m) t + xs.getD t 0)) = tab m fun k => wsn xs m k (t + 1) := by
  apply tab_set
  intro j hj
  show wsn xs m j (t + 1) = _
  rw [wsn]
  by_cases e : t % m = j
  · rw [if_pos e, if_pos e.symm, e]
  · rw [if_neg e, if_neg (fun h => e h.symm)]
set_option maxRecDepth 100000 in
theorem conv_wrap (p : Option Addr) (n c m : Nat) (xs : List Int) (W : World) (hr : Row W p n xs) (h1 : 1 ≤ m) (h2 : m ≤ 16777216) :
    Calls Try.prog 23 #[.slice p n c, .int .i64 m] W (GivesOk W m (wrapl xs m)) := by
  have hmk := make_u64 m (by omega)
  have HX := Lib.hid hr
  have hs := hr.small
  have HL := Lib.hid hr.len
  have e1 : decide ((m : Int) < 1) = false := decide_eq_false (by omega)
  have e2 : decide (16777216 < (m : Int)) = false := decide_eq_false (by omega)
  have db : ((m : Int) == 0) = false := by simp; omega
  have db2 : ¬ ((m : Int) = 0) := by omega
  have db3 : ¬ (m = 0) := by omega
  clear hr
  go_enter Try.func23, Try.ntmps23
  go_wp2_with fail
  go_loopw [19] (fun i wr => ∃ t : Nat, t ≤ n ∧ i = .int .i64 t ∧ Hid (RowAt wr W.heap.size 35 (tab m fun k => wsn xs m k t)) ∧ Below W.heap.size W wr) (fun i _ => n - (intOf i).toNat)
  case atStart => exact ⟨0, Nat.zero_le _, rfl, Lib.hid (by have := RowAt.made W 35 m; rw [tab_rep] at this; exact this), (Below.refl _ _).alloc (Nat.le_refl _) _⟩
  case round =>
    obtain ⟨t, ht, rfl, RL, hB⟩ := hrel
    have hsz := RL.out.lt
    by_cases hlt : t < n
    · obtain ⟨b, off, rfl, hb, hc0, x0, x1⟩ := HX.out.cell hlt
      have hq : t % m < m := Nat.mod_lt _ (by omega)
      have cl := RL.out.cell (k := t % m) (by rw [tab_len]; exact hq)
      rw [tab_at _ _ _ hq] at cl
      have fl := RL.out.free (t % m)
      have rl2 := RL.out.set (t % m) (fm (wsn xs m (t % m) t + xs.getD t 0))
      rw [wrap_put xs m t] at rl2
      have RL2 := Lib.hid rl2
      clear rl2
      obtain ⟨s0, s1⟩ := wsn_b xs m (t % m) t
      have hw2 := tmod_nat t m
      have hw3 : (t : Int) % (m : Int) = ((t % m : Nat) : Int) := rfl
      have hc : wr.cell? ⟨b, off + t, none⟩ = some (.int .u64 (xs.getD t 0)) := (hB.cell (p := ⟨b, off + t, none⟩) hb).trans hc0
      clear hc0
      generalize xs.getD t 0 = x at *
      generalize wsn xs m (t % m) t = s at *
      generalize t % m = q at *
      have hm0 : (0 : Int) ≤ (q : Int) := by omega
      have hm1 : (q : Int) < (m : Int) := by omega
      go_wp2_with fail
      refine wp_region_still_tail 13 (by kernel_rfl) (by kernel_rfl) ?_
      simp only [List.take_succ_cons, List.take_zero, List.drop_succ_cons, List.drop_zero]
      change wpStill _ _ wr.drew (fun a' => wpList _ _ _ _ a' wr.drew) _ _
      replace cl : wr.drew.cell? ⟨W.heap.size, q, none⟩ = _ := cl
      replace fl : wr.drew.frozen? ⟨W.heap.size, q, none⟩ = _ := fl
      replace hB := hB.drew
      replace RL2 := Lib.hid (show RowAt (wr.drew.setCell _ _) _ _ _ from RL2.out)
      replace hsz : W.heap.size < wr.drew.heap.size := hsz
      generalize wr.drew = wd at *
      iterate 11 still_step
      still_call ((gold_add s x _ s0 (by omega) x0 x1).mono fun e w' ⟨he, hw⟩ => ⟨he, hw.symm⟩)
      repeat still_step
      refine wpStill_nil ?_
      go_wp2_with fail
      go_roundw
      case rel => exact ⟨t + 1, by omega, by go_num, RL2, hB.setCell (Nat.le_refl _) _⟩
      case measure => (first | (simp [intOf]; done) | (simp [intOf]; omega) | (simp only [intOf]; omega))
    · obtain rfl : t = n := by omega
      go_wp2_with fail
      go_ret2
      exact ⟨_, _, rfl, Row.of_at (by have := RL.out; rw [← HL.out] at this; exact this) (wrapl_wf xs m) (wrapl_len xs m) (by omega), hB⟩
theorem conv_wrapno (p : Option Addr) (n c : Nat) (m : Int) (W : World) (h : m < 1 ∨ 16777216 < m) :
    Calls Try.prog 23 #[.slice p n c, .int .i64 m] W fun e w' => e = .returned (.tuple #[.slice none 0 0, .int .i64 2]) ∧ W = w' := by
  by_cases h1 : m < 1
  · have e1 : decide (m < 1) = true := decide_eq_true h1
    go_enter Try.func23, Try.ntmps23
    go_wp2_with fail
    go_ret2
    exact ⟨rfl, rfl⟩
  · have e1 : decide (m < 1) = false := decide_eq_false h1
    have e2 : decide (16777216 < m) = true := decide_eq_true (by omega)
    go_enter Try.func23, Try.ntmps23
    go_wp2_with fail
    go_ret2
    exact ⟨rfl, rfl⟩
set_option maxRecDepth 100000 in
theorem r7_wrap (p : Option Addr) (n c m : Nat) (xs : List Int) (W : World) (hr : Row W p n xs) (h1 : 1 ≤ m) (h2 : m ≤ 16777216) :
    Calls Try.prog 21 #[.slice p n c, .int .i64 m] W (Gives W m (wrapl xs m)) := by
  have HX := Lib.hid hr
  have hs := hr.small
  have HL := Lib.hid hr.len
  have YL := Lib.hid (wrapl_len xs m)
  have YA := Lib.hid (fun k (hk : k < m) => (show (wrapl xs m).getD k 0 = wsn xs m k xs.length from tab_at m (fun k => wsn xs m k xs.length) k hk))
  have YW := Lib.hid (wrapl_wf xs m)
  have SS := Lib.hid (fun k (hk : k < m) => wsn_start xs m k hk)
  have SN := Lib.hid (fun k i hi => wsn_next xs m k i (by omega) hi)
  have SO := Lib.hid (fun k t ht => wsn_out xs m k t ht)
  clear hr
  go_enter Try.func21, Try.ntmps21
  go_wp2_with fail
  go_loopw [5, 6, 7, 8] (fun v i _ _ wr => ∃ k : Nat, k ≤ m ∧ i = .int .i64 k ∧ Hid (Owns wr W.heap.size 35 .u64 v (upto (wrapl xs m) k)) ∧ Below W.heap.size W wr) (fun _ i _ _ _ => m - (intOf i).toNat)
  case atStart => exact ⟨0, Nat.zero_le _, rfl, Lib.hid (Owns.nil _ _ _ _), Below.refl _ _⟩
  case round =>
    obtain ⟨k, hk, rfl, HOW, hB⟩ := hrel
    have HX := Lib.hid (HX.out.below hB)
    by_cases hlt : k < m
    · have HS := Lib.hid (upto_snoc (wrapl xs m) k _ (by rw [YL.out]; exact hlt) (YA.out k hlt))
      have HK := Lib.hid (upto_len (wrapl xs m) k (by rw [YL.out]; exact hk))
      have S0 := SS.out k hlt
      have K0 := Lib.hid (Nat.mod_eq_of_lt hlt)
      have hd : decide ((k : Int) < (m : Int)) = true := decide_eq_true (by omega)
      go_wp2_with fail
      obtain ⟨wo, rfl⟩ : ∃ wo : World, wo = wr := ⟨_, rfl⟩
      go_loopw [7, 8] (fun s i wr => ∃ j : Nat, j < n + m + 1 ∧ Hid (j % m = k) ∧ i = .int .i64 j ∧ s = .int .u64 (wsn xs m k j) ∧ wo = wr) (fun _ i _ => n - (intOf i).toNat)
      case atStart => exact ⟨k, by omega, K0, rfl, by rw [S0], by first | rfl | trivial⟩
      case round =>
        obtain ⟨j, hj, HJ, rfl, rfl, rfl⟩ := hrel
        by_cases hlt2 : j < n
        · obtain ⟨b, off, rfl, hb, hc, x0, x1⟩ := HX.out.cell hlt2
          have HN := Lib.hid (SN.out k j HJ.out)
          obtain ⟨s0, s1⟩ := wsn_b xs m k j
          have HT := Lib.hid (fm_add_r (wsn xs m k j) (xs.getD j 0))
          have HJ2 := Lib.hid (show (j + m) % m = k by rw [Nat.add_mod_right]; exact HJ.out)
          generalize xs.getD j 0 = x at *
          have hd2 : decide ((j : Int) < (n : Int)) = true := decide_eq_true (by omega)
          go_wp2_with (first | (go_at_call 60; (with_reducible refine (r2_red _ _ x0 x1).mono ?_); rintro e w' ⟨rfl, rfl⟩) | (go_at_call 58; (with_reducible refine (r2_add _ _ _ s0 s1 (fm_lo _) (fm_hi _)).mono ?_); rintro e w' ⟨rfl, rfl⟩))
          rw [HT.out, ← HN.out]
          go_wp2_with fail
          go_roundw
          case rel => exact by refine ⟨j + m, ?_, HJ2, ?_, ?_, ?_⟩ <;> first | omega | go_num | rfl | trivial
          case measure => (first | (simp [intOf]; done) | (simp [intOf]; omega) | (simp only [intOf]; omega))
        · have HE := Lib.hid (SO.out k j (by rw [HL.out]; omega))
          have hd2 : decide ((j : Int) < (n : Int)) = false := decide_eq_false (by omega)
          rw [HE.out]
          go_wp2_with (at_builtin; refine append_one Try.underlying22 info_u64 rfl _ _ rfl rfl HOW.out rfl hB.size (by rw [HK.out]; omega) ?_; intro v' w' hO hb')
          have HO2 := Lib.hid hO
          clear hO
          go_wp2_with fail
          go_roundw
          case rel => exact ⟨k + 1, by omega, by go_num, by rw [← HS.out]; exact HO2, hB.trans hb'⟩
          case measure => (first | (simp [intOf]; done) | (simp [intOf]; omega) | (simp only [intOf]; omega))
    · obtain rfl : k = m := by omega
      have hd : decide ((k : Int) < (k : Int)) = false := decide_eq_false (by omega)
      go_wp2_with fail
      go_ret
      exact gives_own rfl (by rw [← upto_full (wrapl xs k) k YL.out]; exact HOW.out) hB YW.out YL.out (by omega)
set_option maxRecDepth 100000 in
/-- Reference 7's plain product. -/
theorem r7_linear (p q : Option Addr) (n m c d : Nat) (xs ys : List Int) (W : World) (hr : Row W p n xs) (hr2 : Row W q m ys) (hn : n ≤ 5000) (hm : m ≤ 5000) :
    Calls Try.prog 18 #[.slice p n c, .slice q m d] W (Gives W (linl xs ys).length (linl xs ys)) := by
  by_cases h0 : n = 0 ∨ m = 0
  · have E : linl xs ys = [] := by unfold linl; rw [if_pos (by rw [hr.len, hr2.len]; exact h0)]
    rw [E]
    have G : Gives W 0 [] (.returned (.slice none 0 0)) W := ⟨none, 0, rfl, ⟨rfl, .inl rfl, (by intro z hz; cases hz), by omega⟩, Below.refl _ _⟩
    rcases h0 with rfl | rfl
    · go_enter Try.func18, Try.ntmps18
      go_wp2_with fail
      go_ret
      exact G
    · by_cases e : n = 0
      · subst e
        go_enter Try.func18, Try.ntmps18
        go_wp2_with fail
        go_ret
        exact G
      · have d1 : ((n : Int) == 0) = false := by simp; omega
        go_enter Try.func18, Try.ntmps18
        go_wp2_with fail
        go_ret
        exact G
  · have HX := Lib.hid hr
    have HY := Lib.hid hr2
    have HL := Lib.hid hr.len
    have HLY := Lib.hid hr2.len
    have YL := Lib.hid (show (linl xs ys).length = n + m - 1 by rw [linl_len xs ys (by rw [hr.len]; omega) (by rw [hr2.len]; omega), hr.len, hr2.len])
    have YA := Lib.hid (fun k (hk : k < n + m - 1) => (show (linl xs ys).getD k 0 = lsn xs ys n k by unfold linl; rw [if_neg (by rw [hr.len, hr2.len]; exact h0), hr.len, hr2.len]; exact tab_at _ _ k hk))
    have YW := Lib.hid (linl_wf xs ys)
    have SI := Lib.hid (fun i k (h1 : i ≤ k) (h2 : k - i < m) => (show lsn xs ys (i + 1) k = fm (lsn xs ys i k + fm (xs.getD i 0 * ys.getD (k - i) 0)) by rw [lsn, if_pos ⟨h1, by rw [hr2.len]; exact h2⟩]))
    have SO := Lib.hid (fun i k (h1 : ¬ (i ≤ k ∧ k - i < m)) => (show lsn xs ys (i + 1) k = lsn xs ys i k by rw [lsn, if_neg (by rw [hr2.len]; exact h1)]))
    have d1 : ((n : Int) == 0) = false := by simp; omega
    have d2 : ((m : Int) == 0) = false := by simp; omega
    obtain ⟨N, hN⟩ : ∃ N, n + m - 1 = N := ⟨_, rfl⟩
    have hw0 : IntKind.i64.wrap ((n : Int) + (m : Int)) = (n : Int) + (m : Int) := IntWalk.i64_in _ (by omega)
    have hw00 : IntKind.i64.wrap ((n : Int) + (m : Int) - 1) = (N : Int) := by rw [IntWalk.i64_in _ (by omega)]; omega
    rw [YL.out, hN]
    rw [hN] at YL YA
    clear hr hr2 h0
    go_enter Try.func18, Try.ntmps18
    go_wp2_with fail
    go_loopw [5, 6, 7, 8] (fun v i _ _ wr => ∃ k : Nat, k ≤ N ∧ i = .int .i64 k ∧ Hid (Owns wr W.heap.size 35 .u64 v (upto (linl xs ys) k)) ∧ Below W.heap.size W wr) (fun _ i _ _ _ => N - (intOf i).toNat)
    case atStart => exact ⟨0, Nat.zero_le _, rfl, Lib.hid (Owns.nil _ _ _ _), Below.refl _ _⟩
    case round =>
      obtain ⟨k, hk, rfl, HOW, hB⟩ := hrel
      have HX := Lib.hid (HX.out.below hB)
      have HY := Lib.hid (HY.out.below hB)
      by_cases hlt : k < N
      · have HS := Lib.hid (upto_snoc (linl xs ys) k _ (by rw [YL.out]; exact hlt) (YA.out k hlt))
        have HK := Lib.hid (upto_len (linl xs ys) k (by rw [YL.out]; exact hk))
        have hd : decide ((k : Int) < (N : Int)) = true := decide_eq_true (by omega)
        go_wp2_with fail
        obtain ⟨wo, rfl⟩ : ∃ wo : World, wo = wr := ⟨_, rfl⟩
        go_loopw [7, 8] (fun s i wr => ∃ j : Nat, j ≤ n ∧ i = .int .i64 j ∧ s = .int .u64 (lsn xs ys j k) ∧ Below wo.heap.size wo wr) (fun _ i _ => n - (intOf i).toNat)
        case atStart => exact ⟨0, Nat.zero_le _, rfl, rfl, Below.refl _ _⟩
        case round =>
          obtain ⟨j, hj, rfl, rfl, hB2⟩ := hrel
          by_cases hlt2 : j < n
          · have hd2 : decide ((j : Int) < (n : Int)) = true := decide_eq_true (by omega)
            by_cases hin : j ≤ k ∧ k - j < m
            · obtain ⟨i1, i2⟩ := hin
              obtain ⟨b, off, rfl, hb, hc0, x0, x1⟩ := HX.out.cell hlt2
              obtain ⟨b', off', rfl, hb', hd0, y0, y1⟩ := HY.out.cell i2
              have HS1 := Lib.hid (SI.out j k i1 i2)
              obtain ⟨s0, s1⟩ := lsn_b xs ys j k
              have hc : wr.cell? ⟨b, off + j, none⟩ = some (.int .u64 (xs.getD j 0)) := (hB2.cell (p := ⟨b, off + j, none⟩) hb).trans hc0
              have hc' : wr.cell? ⟨b', off' + (k - j), none⟩ = some (.int .u64 (ys.getD (k - j) 0)) := (hB2.cell (p := ⟨b', off' + (k - j), none⟩) hb').trans hd0
              clear hc0 hd0
              generalize xs.getD j 0 = x at *
              generalize ys.getD (k - j) 0 = y at *
              have hw1 : IntKind.i64.wrap ((k : Int) - (j : Int)) = ((k - j : Nat) : Int) := by rw [IntWalk.i64_in _ (by omega)]; omega
              generalize k - j = r at *
              have hm0 : (0 : Int) ≤ (r : Int) := by omega
              have hm1 : (r : Int) < (m : Int) := by omega
              have hd3 : decide ((0 : Int) ≤ (r : Int)) = true := decide_eq_true (by omega)
              have hd4 : decide ((r : Int) < (m : Int)) = true := decide_eq_true (by omega)
              go_wp2_with fail
              go_region_held3 (fun w' => w'.cell? ⟨b, off + j, none⟩ = some (.int .u64 x) ∧ w'.cell? ⟨b', off' + r, none⟩ = some (.int .u64 y) ∧ Below wo.heap.size wo w') (first | exact ⟨hc, hc', hB2.drew⟩ | assumption) (first | (go_at_call 60; (with_reducible refine (r2_red _ _ (by assumption) (by assumption)).mono ?_); rintro e w' ⟨rfl, rfl⟩) | (go_at_call 59; (with_reducible refine (r2_mulf _ _ _).mono ?_); rintro e w' ⟨rfl, rfl⟩) | (go_at_call 58; (with_reducible refine (r2_add _ _ _ s0 s1 (fm_lo _) (fm_hi _)).mono ?_); rintro e w' ⟨rfl, rfl⟩))
              have hS2 := Lib.hid (by assumption : _ ∧ _ ∧ Below wo.heap.size wo _)
              rw [← HS1.out]
              go_wp2_with fail
              go_roundw
              case rel => exact ⟨j + 1, by omega, by go_num, rfl, hS2.out.2.2⟩
              case measure => (first | (simp [intOf]; done) | (simp [intOf]; omega) | (simp only [intOf]; omega))
            · have HS1 := Lib.hid (SO.out j k hin)
              have hd3 : (j ≤ k ∧ (m : Int) ≤ (k : Int) - (j : Int)) ∨ (k : Int) - (j : Int) < 0 := by omega
              have hw1 : IntKind.i64.wrap ((k : Int) - (j : Int)) = (k : Int) - (j : Int) := IntWalk.i64_in _ (by omega)
              clear hin
              rcases hd3 with ⟨i1, i2⟩ | i2
              · have hd3 : decide ((0 : Int) ≤ (k : Int) - (j : Int)) = true := decide_eq_true (by omega)
                have hd4 : decide ((k : Int) - (j : Int) < (m : Int)) = false := decide_eq_false (by omega)
                go_wp2_with fail
                go_roundw
                case rel => exact ⟨j + 1, by omega, by go_num, by rw [HS1.out], hB2⟩
                case measure => (first | (simp [intOf]; done) | (simp [intOf]; omega) | (simp only [intOf]; omega))
              · have hd3 : decide ((0 : Int) ≤ (k : Int) - (j : Int)) = false := decide_eq_false (by omega)
                go_wp2_with fail
                go_roundw
                case rel => exact ⟨j + 1, by omega, by go_num, by rw [HS1.out], hB2⟩
                case measure => (first | (simp [intOf]; done) | (simp [intOf]; omega) | (simp only [intOf]; omega))
          · obtain rfl : j = n := by omega
            have HOW2 := Lib.hid (HOW.out.below hB2)
            have hB3 := hB.trans (hB2.mono hB.size)
            have hd2 : decide ((j : Int) < (j : Int)) = false := decide_eq_false (by omega)
            go_wp2_with (at_builtin; refine append_one Try.underlying22 info_u64 rfl _ _ rfl rfl HOW2.out rfl hB3.size (by rw [HK.out]; omega) ?_; intro v' w' hO hb')
            have HO2 := Lib.hid hO
            clear hO
            go_wp2_with fail
            go_roundw
            case rel => exact ⟨k + 1, by omega, by go_num, by rw [← HS.out]; exact HO2, hB3.trans hb'⟩
            case measure => (first | (simp [intOf]; done) | (simp [intOf]; omega) | (simp only [intOf]; omega))
      · obtain rfl : k = N := by omega
        have hd : decide ((k : Int) < (k : Int)) = false := decide_eq_false (by omega)
        go_wp2_with fail
        go_ret
        exact gives_own rfl (by rw [← upto_full (linl xs ys) k YL.out]; exact HOW.out) hB YW.out YL.out (by omega)
set_option maxRecDepth 100000 in
/-- Reference 7's product around. -/
theorem r7_cyclic (p q : Option Addr) (n c d : Nat) (xs ys : List Int) (W : World) (hr : Row W p n xs) (hr2 : Row W q n ys) (hn : n ≤ 5000) :
    Calls Try.prog 20 #[.slice p n c, .slice q n d] W (Gives W n (cycl xs ys)) := by
  have HX := Lib.hid hr
  have HY := Lib.hid hr2
  have HL := Lib.hid hr.len
  have YL := Lib.hid (show (cycl xs ys).length = n by rw [cycl_len, hr.len])
  have YA := Lib.hid (fun k (hk : k < n) => (show (cycl xs ys).getD k 0 = csn xs ys n n k by unfold cycl; rw [hr.len]; exact tab_at _ _ k hk))
  have YW := Lib.hid (cycl_wf xs ys)
  clear hr hr2
  go_enter Try.func20, Try.ntmps20
  go_wp2_with fail
  go_loopw [5, 7, 8, 9] (fun v i _ _ wr => ∃ k : Nat, k ≤ n ∧ i = .int .i64 k ∧ Hid (Owns wr W.heap.size 35 .u64 v (upto (cycl xs ys) k)) ∧ Below W.heap.size W wr) (fun _ i _ _ _ => n - (intOf i).toNat)
  case atStart => exact ⟨0, Nat.zero_le _, rfl, Lib.hid (Owns.nil _ _ _ _), Below.refl _ _⟩
  case round =>
    obtain ⟨k, hk, rfl, HOW, hB⟩ := hrel
    have HX := Lib.hid (HX.out.below hB)
    have HY := Lib.hid (HY.out.below hB)
    by_cases hlt : k < n
    · have HS := Lib.hid (upto_snoc (cycl xs ys) k _ (by rw [YL.out]; exact hlt) (YA.out k hlt))
      have HK := Lib.hid (upto_len (cycl xs ys) k (by rw [YL.out]; exact hk))
      have hd : decide ((k : Int) < (n : Int)) = true := decide_eq_true (by omega)
      go_wp2_with fail
      obtain ⟨wo, rfl⟩ : ∃ wo : World, wo = wr := ⟨_, rfl⟩
      go_loopw [8, 9] (fun s i wr => ∃ j : Nat, j ≤ n ∧ i = .int .i64 j ∧ s = .int .u64 (csn xs ys n j k) ∧ Below wo.heap.size wo wr) (fun _ i _ => n - (intOf i).toNat)
      case atStart => exact ⟨0, Nat.zero_le _, rfl, rfl, Below.refl _ _⟩
      case round =>
        obtain ⟨j, hj, rfl, rfl, hB2⟩ := hrel
        by_cases hlt2 : j < n
        · have hd2 : decide ((j : Int) < (n : Int)) = true := decide_eq_true (by omega)
          have hw1 : IntKind.i64.wrap ((k : Int) - (j : Int)) = (k : Int) - (j : Int) := IntWalk.i64_in _ (by omega)
          have hw2 : IntKind.i64.wrap ((k : Int) - (j : Int) + (n : Int)) = (k : Int) - (j : Int) + (n : Int) := IntWalk.i64_in _ (by omega)
          have hmod : ((k : Int) - (j : Int) + (n : Int)).tmod (n : Int) = (((k + n - j) % n : Nat) : Int) := by
            rw [show (k : Int) - (j : Int) + (n : Int) = ((k + n - j : Nat) : Int) by omega]; rfl
          have hnz : ((n : Int) == 0) = false := by simp; omega
          have hnz2 : ¬ ((n : Int) = 0) := by omega
          have hnz3 : ¬ (n = 0) := by omega
          have i2 : (k + n - j) % n < n := Nat.mod_lt _ (by omega)
          obtain ⟨b, off, rfl, hb, hc0, x0, x1⟩ := HX.out.cell hlt2
          obtain ⟨b', off', rfl, hb', hd0, y0, y1⟩ := HY.out.cell i2
          have HS1 := Lib.hid (show csn xs ys n (j + 1) k = fm (csn xs ys n j k + fm (xs.getD j 0 * ys.getD ((k + n - j) % n) 0)) from rfl)
          obtain ⟨s0, s1⟩ := csn_b xs ys n j k
          have hc : wr.cell? ⟨b, off + j, none⟩ = some (.int .u64 (xs.getD j 0)) := (hB2.cell (p := ⟨b, off + j, none⟩) hb).trans hc0
          have hc' : wr.cell? ⟨b', off' + (k + n - j) % n, none⟩ = some (.int .u64 (ys.getD ((k + n - j) % n) 0)) := (hB2.cell (p := ⟨b', off' + (k + n - j) % n, none⟩) hb').trans hd0
          clear hc0 hd0
          generalize xs.getD j 0 = x at *
          generalize ys.getD ((k + n - j) % n) 0 = y at *
          generalize (k + n - j) % n = r at *
          have hm0 : (0 : Int) ≤ (r : Int) := by omega
          have hm1 : (r : Int) < (n : Int) := by omega
          go_wp2_with fail
          go_region_held3 (fun w' => w'.cell? ⟨b, off + j, none⟩ = some (.int .u64 x) ∧ w'.cell? ⟨b', off' + r, none⟩ = some (.int .u64 y) ∧ Below wo.heap.size wo w') (first | exact ⟨hc, hc', hB2.drew⟩ | assumption) (first | (go_at_call 60; (with_reducible refine (r2_red _ _ (by assumption) (by assumption)).mono ?_); rintro e w' ⟨rfl, rfl⟩) | (go_at_call 59; (with_reducible refine (r2_mulf _ _ _).mono ?_); rintro e w' ⟨rfl, rfl⟩) | (go_at_call 58; (with_reducible refine (r2_add _ _ _ s0 s1 (fm_lo _) (fm_hi _)).mono ?_); rintro e w' ⟨rfl, rfl⟩))
          have hS2 := Lib.hid (by assumption : _ ∧ _ ∧ Below wo.heap.size wo _)
          rw [← HS1.out]
          go_wp2_with fail
          go_roundw
          case rel => exact ⟨j + 1, by omega, by go_num, rfl, hS2.out.2.2⟩
          case measure => (first | (simp [intOf]; done) | (simp [intOf]; omega) | (simp only [intOf]; omega))
        · obtain rfl : j = n := by omega
          have HOW2 := Lib.hid (HOW.out.below hB2)
          have hB3 := hB.trans (hB2.mono hB.size)
          have hd2 : decide ((j : Int) < (j : Int)) = false := decide_eq_false (by omega)
          go_wp2_with (at_builtin; refine append_one Try.underlying22 info_u64 rfl _ _ rfl rfl HOW2.out rfl hB3.size (by rw [HK.out]; omega) ?_; intro v' w' hO hb')
          have HO2 := Lib.hid hO
          clear hO
          go_wp2_with fail
          go_roundw
          case rel => exact ⟨k + 1, by omega, by go_num, by rw [← HS.out]; exact HO2, hB3.trans hb'⟩
          case measure => (first | (simp [intOf]; done) | (simp [intOf]; omega) | (simp only [intOf]; omega))
    · obtain rfl : k = n := by omega
      have hd : decide ((k : Int) < (k : Int)) = false := decide_eq_false (by omega)
      go_wp2_with fail
      go_ret
      exact gives_own rfl (by rw [← upto_full (cycl xs ys) k YL.out]; exact HOW.out) hB YW.out YL.out (by omega)
end Go.Proofs.Ytkijiljipacfjaa
