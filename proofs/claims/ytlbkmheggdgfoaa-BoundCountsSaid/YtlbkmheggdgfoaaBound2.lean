/- Package bound: count. -/
import Derived.Test.YtlbkmheggdgfoaaBound
import Derived.BigRegion
import Derived.StillTailTactics
import Derived.Outline
namespace Go.Proofs.Ytlbkmheggdgfoaa
open Go.ChangeShapes Go.WideShapes Go.ChangeAt Go.RowKit
set_option linter.unusedVariables false
def m1 (k j : Nat) : Int := if j < k then -1 else 0
theorem m1_zero (C : Nat) : tab C (m1 0) = List.replicate C 0 := by
  rw [tab_rep]; exact tab_congr C _ _ (fun j _ => rfl)
theorem m1_set (C k : Nat) (h : k < C) : (tab C (m1 k)).set k (-1) = tab C (m1 (k + 1)) := tab_set C _ _ k (-1) (fun j _ => by
  unfold m1
  by_cases e : j = k
  · rw [if_pos (by omega), if_pos e]
  · rw [if_neg e]
    by_cases e2 : j < k
    · rw [if_pos (by omega), if_pos e2]
    · rw [if_neg (by omega), if_neg e2])
theorem m1_full (C : Nat) (xs : List Int) : tab C (m1 C) = tab C (fun j => la xs j 0) := tab_congr C _ _ (fun j h => by unfold m1; rw [if_pos h]; rfl)
theorem sp_none (C : Nat) (xs : List Int) : List.replicate C 0 = tab C (fun j => sp xs j 0) := tab_rep C 0
theorem lo_none (C : Nat) (xs : List Int) : List.replicate C 0 = tab C (fun j => lo xs j 0) := tab_rep C 0
theorem la_hit (C j0 m : Nat) (xs : List Int) (h : j0 < C) (e : xs.getD m 0 = j0) : (tab C (fun j => la xs j m)).set j0 m = tab C (fun j => la xs j (m + 1)) := tab_set C _ _ j0 m (fun j _ => by
  show (if xs.getD m 0 = (j : Int) then (m : Int) else la xs j m) = _
  by_cases e1 : j = j0
  · rw [if_pos (by omega), if_pos e1]
  · rw [if_neg (by omega), if_neg e1])
theorem sp_hit (C j0 m : Nat) (xs : List Int) (h : j0 < C) (e : xs.getD m 0 = j0) : (tab C (fun j => sp xs j m)).set j0 (sp xs j0 m + 1) = tab C (fun j => sp xs j (m + 1)) := tab_set C _ _ j0 _ (fun j _ => by
  show (if xs.getD m 0 = (j : Int) then sp xs j m + 1 else sp xs j m) = _
  by_cases e1 : j = j0
  · rw [if_pos (by omega), if_pos e1, e1]
  · rw [if_neg (by omega), if_neg e1])
theorem lo_hit (C j0 m : Nat) (xs : List Int) (h : j0 < C) (e : xs.getD m 0 = j0) : (tab C (fun j => lo xs j m)).set j0 (max (lo xs j0 m) (m - la xs j0 m - 1)) = tab C (fun j => lo xs j (m + 1)) := tab_set C _ _ j0 _ (fun j _ => by
  show (if xs.getD m 0 = (j : Int) then max (lo xs j m) (m - la xs j m - 1) else lo xs j m) = _
  by_cases e1 : j = j0
  · rw [if_pos (by omega), if_pos e1, e1]
  · rw [if_neg (by omega), if_neg e1])
theorem la_miss (C m : Nat) (xs : List Int) (e : ¬ (0 ≤ xs.getD m 0 ∧ xs.getD m 0 < C)) : tab C (fun j => la xs j m) = tab C (fun j => la xs j (m + 1)) := tab_congr C _ _ (fun j h => by
  show (if xs.getD m 0 = (j : Int) then (m : Int) else la xs j m) = _
  rw [if_neg (by omega)])
theorem sp_miss (C m : Nat) (xs : List Int) (e : ¬ (0 ≤ xs.getD m 0 ∧ xs.getD m 0 < C)) : tab C (fun j => sp xs j m) = tab C (fun j => sp xs j (m + 1)) := tab_congr C _ _ (fun j h => by
  show (if xs.getD m 0 = (j : Int) then sp xs j m + 1 else sp xs j m) = _
  rw [if_neg (by omega)])
theorem lo_miss (C m : Nat) (xs : List Int) (e : ¬ (0 ≤ xs.getD m 0 ∧ xs.getD m 0 < C)) : tab C (fun j => lo xs j m) = tab C (fun j => lo xs j (m + 1)) := tab_congr C _ _ (fun j h => by
  show (if xs.getD m 0 = (j : Int) then max (lo xs j m) (m - la xs j m - 1) else lo xs j m) = _
  rw [if_neg (by omega)])
/-- The first k done. -/
def mx (f g : Nat → Int) (k j : Nat) : Int := if j < k then g j else f j
theorem mx_set (C k : Nat) (f g : Nat → Int) (h : k < C) : (tab C (mx f g k)).set k (g k) = tab C (mx f g (k + 1)) := tab_set C _ _ k _ (fun j _ => by
  unfold mx
  by_cases e : j = k
  · rw [if_pos (by omega), if_pos e, e]
  · rw [if_neg e]
    by_cases e2 : j < k
    · rw [if_pos (by omega), if_pos e2]
    · rw [if_neg (by omega), if_neg e2])
theorem mx_zero (C : Nat) (f g : Nat → Int) : tab C f = tab C (mx f g 0) := tab_congr C _ _ (fun j _ => rfl)
theorem mx_full (C : Nat) (f g : Nat → Int) : tab C (mx f g C) = tab C g := tab_congr C _ _ (fun j h => by unfold mx; rw [if_pos h])
theorem sp_wf (xs : List Int) (C n : Nat) (h : n ≤ 300) : ∀ x ∈ tab C (fun j => sp xs j n), (Lit.int .i64 x).wf = true := by
  intro x hx
  unfold tab at hx
  obtain ⟨j, _, rfl⟩ := List.mem_map.1 hx
  have := sp_rng xs j n
  exact WalkArith.wf_i64 ⟨by omega, by omega⟩
theorem lo_wf (xs : List Int) (C n : Nat) (h : n ≤ 300) : ∀ x ∈ tab C (fun j => max (lo xs j n) (n - la xs j n - 1)), (Lit.int .i64 x).wf = true := by
  intro x hx
  unfold tab at hx
  obtain ⟨j, _, rfl⟩ := List.mem_map.1 hx
  have := lo_rng xs j n
  have := la_rng xs j n
  exact WalkArith.wf_i64 ⟨by omega, by omega⟩
set_option maxRecDepth 100000 in
set_option maxHeartbeats 4000000 in
theorem count_spent (p : Option Addr) (n c C : Nat) (xs : List Int) (w : World) (hx : RowI w p n xs) (hn : n ≤ 300) (h1 : 1 ≤ C) (h2 : C ≤ 100) : Calls Try.prog 52 #[.slice p n c, .int .i64 C, .func (.func 53) #[] #[], .func (.func 54) #[] #[]] w (GivesI w C (tab C (fun j => sp xs j n))) := by
  have hmk := make_i64 C (by omega)
  have HX := Lib.hid hx
  have HL := Lib.hid hx.len
  have gC : decide (C = 0) = false := decide_eq_false (by omega)
  clear hx
  go_enter Try.func52, Try.ntmps52
  go_wp2_with fail
  go_region
  · have r1 := (RowAtI.made w 3 C).below ((Below.refl _ _).alloc (Nat.le_refl _) (.cells (Array.replicate C (.int .i64 0)) 3))
    have r2 := RowAtI.made (w.alloc (.cells (Array.replicate C (.int .i64 0)) 3)) 3 C
    have hB : Below w.heap.size w ((w.alloc (.cells (Array.replicate C (.int .i64 0)) 3)).alloc (.cells (Array.replicate C (.int .i64 0)) 3)) := ((Below.refl _ _).alloc (Nat.le_refl _) _).alloc (by simp) _
    have e2 : (w.alloc (.cells (Array.replicate C (.int .i64 0)) 3)).heap.size = w.heap.size + 1 := by simp
    rw [e2] at r2
    clear e2
    have RL := Lib.hid (r1.drew)
    have RS := Lib.hid (r2.drew)
    replace hB := hB.drew
    clear r1 r2
    rw [← m1_zero] at RS
    go_wp2_with fail
    obtain ⟨BL, hBL⟩ : ∃ B, B = w.heap.size := ⟨_, rfl⟩
    obtain ⟨BS, hBS⟩ : ∃ B, B = w.heap.size + 1 := ⟨_, rfl⟩
    rw [← hBL] at RL
    rw [← hBS] at RS
    have hLS : BL ≠ BS := by omega
    have hL0 : w.heap.size ≤ BL := by omega
    have hS0 : w.heap.size ≤ BS := by omega
    rw [← hBS, ← hBL]
    clear hBL hBS
    generalize ((w.alloc (.cells (Array.replicate C (.int .i64 0)) 3)).alloc (.cells (Array.replicate C (.int .i64 0)) 3)).drew = W1 at *
    go_loopw [23, 11] (fun i _ wr => ∃ k : Nat, k ≤ C ∧ i = .int .i64 k ∧ Hid (RowAtI wr BL 3 (List.replicate C 0)) ∧ Hid (RowAtI wr BS 3 (tab C (m1 k))) ∧ Below w.heap.size w wr) (fun i _ _ => C - (intOf i).toNat)
    case atStart => exact ⟨0, Nat.zero_le _, rfl, RL, RS, hB⟩
    case round =>
      clear RL RS hB
      obtain ⟨k, hk, rfl, RL, RS, hB⟩ := hrel
      have hsz := RS.out.lt
      by_cases hlt : k < C
      · have hc := RS.out.cell (k := k) (by rw [tab_len]; exact hlt)
        have hf := RS.out.free k
        generalize (tab C (m1 k)).getD k 0 = u at hc
        have RL2 := Lib.hid (RL.out.other (p := ⟨BS, k, none⟩) (fun e => hLS e.symm) (.int .i64 (-1)))
        have rs2 := RS.out.set k (-1)
        rw [m1_set C k hlt] at rs2
        have RS2 := Lib.hid rs2
        clear rs2
        go_wp2_with fail
        go_roundw
        case rel => exact ⟨k + 1, by omega, by go_num, RL2, RS2, hB.setCell hS0 _⟩
        case measure => (first | (simp [intOf]; done) | (simp [intOf]; omega) | (simp only [intOf]; omega))
      · obtain rfl : k = C := by omega
        have rs := RS.out
        rw [m1_full k xs] at rs
        have RS' := Lib.hid rs
        have rl := RL.out
        rw [sp_none k xs] at rl
        have RL' := Lib.hid rl
        clear rs RS rl RL
        go_wp2_with fail
        go_loopw [32, 12, 13] (fun i _ _ wr => ∃ m : Nat, m ≤ n ∧ i = .int .i64 m ∧ Hid (RowAtI wr BL 3 (tab k (fun j => sp xs j m))) ∧ Hid (RowAtI wr BS 3 (tab k (fun j => la xs j m))) ∧ Below w.heap.size w wr) (fun i _ _ _ => n - (intOf i).toNat)
        case atStart => exact ⟨0, Nat.zero_le _, rfl, RL', RS', hB⟩
        case round =>
          clear RL' RS' hB
          obtain ⟨m, hm, rfl, RL, RS, hB⟩ := hrel
          have hsz := RS.out.lt
          have hszL := RL.out.lt
          by_cases hlt2 : m < n
          · obtain ⟨b, off, rfl, hb, hc0, x0, x1⟩ := HX.out.cell hlt2
            obtain ⟨x, hxe⟩ : ∃ x, xs.getD m 0 = x := ⟨_, rfl⟩
            rw [hxe] at hc0 x0 x1
            have hc : wr.cell? ⟨b, off + m, none⟩ = some (.int .i64 x) := (hB.cell (p := ⟨b, off + m, none⟩) hb).trans hc0
            clear hc0
            by_cases hv : 0 ≤ x ∧ x < k
            · obtain ⟨hv0, hv1⟩ := hv
              obtain ⟨j0, rfl⟩ : ∃ j0 : Nat, x = j0 := ⟨x.toNat, by omega⟩
              have hj : j0 < k := by omega
              have cl := RL.out.cell (k := j0) (by rw [tab_len]; exact hj)
              have cs := RS.out.cell (k := j0) (by rw [tab_len]; exact hj)
              have fl := RL.out.free j0
              have fs := RS.out.free j0
              rw [tab_at _ _ _ hj] at cl cs
              obtain ⟨l0, l1⟩ := la_rng xs (j0 : Nat) m
              obtain ⟨f0, f1⟩ := sp_rng xs (j0 : Nat) m
              have rl2 := (RL.out.set j0 (sp xs j0 m + 1)).other (p := ⟨BS, j0, none⟩) (fun e => hLS e.symm) (.int .i64 m)
              rw [sp_hit k j0 m xs hj hxe] at rl2
              have rs2 := (RS.out.other (p := ⟨BL, j0, none⟩) hLS (.int .i64 (sp xs j0 m + 1))).set j0 m
              rw [la_hit k j0 m xs hj hxe] at rs2
              have RL2 := Lib.hid rl2
              have RS2 := Lib.hid rs2
              clear hxe rl2 rs2
              have hd3 : decide ((j0 : Int) < 0) = false := decide_eq_false (by omega)
              have hd1 : decide ((k : Int) ≤ (j0 : Int)) = false := decide_eq_false (by omega)
              have hd2 : decide (k ≤ j0) = false := decide_eq_false (by omega)
              generalize sp xs (j0 : Nat) m = fv at *
              generalize la xs (j0 : Nat) m = lv at *
              go_wp2_with fail
              refine wp_region_still_tail 14 (by kernel_rfl) (by kernel_rfl) ?_
              simp only [List.take_succ_cons, List.take_zero, List.drop_succ_cons, List.drop_zero]
              change wpStill _ _ wr.drew (fun a' => wpList _ _ _ _ a' wr.drew) _ _
              replace cl : wr.drew.cell? ⟨BL, j0, none⟩ = _ := cl
              replace cs : wr.drew.cell? ⟨BS, j0, none⟩ = _ := cs
              replace fl : wr.drew.frozen? ⟨BL, j0, none⟩ = _ := fl
              replace fs : wr.drew.frozen? ⟨BS, j0, none⟩ = _ := fs
              replace hB := hB.drew
              replace RL2 := Lib.hid (show RowAtI ((wr.drew.setCell _ _).setCell _ _) _ _ _ from RL2.out)
              replace RS2 := Lib.hid (show RowAtI ((wr.drew.setCell _ _).setCell _ _) _ _ _ from RS2.out)
              replace hsz : BS < wr.drew.heap.size := hsz
              replace hszL : BL < wr.drew.heap.size := hszL
              generalize wr.drew = wd at *
              iterate 12 still_step
              still_call ((spent1 _ _ _ _ f0 (by omega)).mono fun e w' ⟨he, hw⟩ => ⟨he, hw.symm⟩)
              repeat still_step
              refine wpStill_nil ?_
              go_wp2_with fail
              go_roundw
              case rel => exact ⟨m + 1, by omega, by go_num, RL2, RS2, (hB.setCell hL0 _).setCell hS0 _⟩
              case measure => (first | (simp [intOf]; done) | (simp [intOf]; omega) | (simp only [intOf]; omega))
            · have rl := RL.out
              have rs := RS.out
              rw [sp_miss k m xs (by rw [hxe]; exact hv)] at rl
              rw [la_miss k m xs (by rw [hxe]; exact hv)] at rs
              have RL2 := Lib.hid rl
              have RS2 := Lib.hid rs
              clear hxe rl rs
              have hv' : x < 0 ∨ (0 ≤ x ∧ (k : Int) ≤ x) := by omega
              clear hv
              rcases hv' with hv | ⟨hv0, hv⟩
              · have hd3 : decide (x < 0) = true := decide_eq_true hv
                go_wp2_with fail
                go_roundw
                case rel => exact ⟨m + 1, by omega, by go_num, RL2, RS2, hB⟩
                case measure => (first | (simp [intOf]; done) | (simp [intOf]; omega) | (simp only [intOf]; omega))
              · have hd3 : decide (x < 0) = false := decide_eq_false (by omega)
                have hd1 : decide ((k : Int) ≤ x) = true := decide_eq_true hv
                go_wp2_with fail
                go_roundw
                case rel => exact ⟨m + 1, by omega, by go_num, RL2, RS2, hB⟩
                case measure => (first | (simp [intOf]; done) | (simp [intOf]; omega) | (simp only [intOf]; omega))
          · obtain rfl : m = n := by omega
            have rl := RL.out
            rw [mx_zero k _ (fun j => sp xs j m)] at rl
            have RL' := Lib.hid rl
            have RS' := Lib.hid RS.out
            clear RL RS rl
            go_wp2_with fail
            go_loopw [65, 14] (fun i _ wr => ∃ q : Nat, q ≤ k ∧ i = .int .i64 q ∧ Hid (RowAtI wr BL 3 (tab k (mx (fun j => sp xs j m) (fun j => sp xs j m) q))) ∧ Hid (RowAtI wr BS 3 (tab k (fun j => la xs j m))) ∧ Below w.heap.size w wr) (fun i _ _ => k - (intOf i).toNat)
            case atStart => exact ⟨0, Nat.zero_le _, rfl, RL', RS', hB⟩
            case round =>
              clear RL' RS' hB hsz hszL
              obtain ⟨q, hq, rfl, RL, RS, hB⟩ := hrel
              have hsz := RS.out.lt
              have hszL := RL.out.lt
              by_cases hlt3 : q < k
              · have cl := RL.out.cell (k := q) (by rw [tab_len]; exact hlt3)
                have cs := RS.out.cell (k := q) (by rw [tab_len]; exact hlt3)
                have fl := RL.out.free q
                rw [tab_at _ _ _ hlt3] at cl cs
                rw [show mx (fun j => sp xs j m) (fun j => sp xs j m) q q = sp xs q m by unfold mx; rw [if_neg (by omega)]] at cl
                obtain ⟨l0, l1⟩ := la_rng xs (q : Nat) m
                obtain ⟨f0, f1⟩ := sp_rng xs (q : Nat) m
                have rl2 := RL.out.set q ((fun j => sp xs j m) q)
                rw [mx_set k q _ _ hlt3] at rl2
                have RL2 := Lib.hid rl2
                have RS2 := Lib.hid (RS.out.other (p := ⟨BL, q, none⟩) hLS (.int .i64 ((fun j => sp xs j m) q)))
                clear rl2
                have hd1 : decide ((q : Int) < (k : Int)) = true := decide_eq_true (by omega)
                have FV := Lib.hid (show (fun j => sp xs j m) q = sp xs q m from rfl)
                generalize hfin : (fun j => sp xs j m) q = fin at *
                generalize sp xs (q : Nat) m = fv at *
                generalize la xs (q : Nat) m = lv at *
                clear hfin
                go_wp2_with fail
                refine wp_region_still_tail 15 (by kernel_rfl) (by kernel_rfl) ?_
                simp only [List.take_succ_cons, List.take_zero, List.drop_succ_cons, List.drop_zero]
                change wpStill _ _ wr.drew (fun a' => wpList _ _ _ _ a' wr.drew) _ _
                replace cl : wr.drew.cell? ⟨BL, q, none⟩ = _ := cl
                replace cs : wr.drew.cell? ⟨BS, q, none⟩ = _ := cs
                replace fl : wr.drew.frozen? ⟨BL, q, none⟩ = _ := fl
                replace hB := hB.drew
                replace RL2 := Lib.hid (show RowAtI (wr.drew.setCell _ _) _ _ _ from RL2.out)
                replace RS2 := Lib.hid (show RowAtI (wr.drew.setCell _ _) _ _ _ from RS2.out)
                replace hsz : BS < wr.drew.heap.size := hsz
                replace hszL : BL < wr.drew.heap.size := hszL
                generalize wr.drew = wd at *
                iterate 13 still_step
                still_call ((spent2 _ _ _ _).mono fun e w' ⟨he, hw⟩ => ⟨he, hw.symm⟩)
                repeat still_step
                refine wpStill_nil ?_
                rw [← FV.out]
                go_wp2_with fail
                go_roundw
                case rel => exact ⟨q + 1, by omega, by go_num, RL2, RS2, hB.setCell hL0 _⟩
                case measure => (first | (simp [intOf]; done) | (simp [intOf]; omega) | (simp only [intOf]; omega))
              · obtain rfl : q = k := by omega
                have rl := RL.out
                rw [mx_full] at rl
                have RL2 := Lib.hid rl
                clear rl
                have hd1 : decide ((q : Int) < (q : Int)) = false := decide_eq_false (by omega)
                go_wp2_with fail
                go_ret
                exact ⟨_, _, rfl, RowI.of_at RL2.out (sp_wf xs q m (by omega)) (tab_len _ _) (by omega), hB⟩
  · have r1 := (RowAtI.made w 3 C).below ((Below.refl _ _).alloc (Nat.le_refl _) (.cells (Array.replicate C (.int .i64 0)) 3))
    have r2 := RowAtI.made (w.alloc (.cells (Array.replicate C (.int .i64 0)) 3)) 3 C
    have hB : Below w.heap.size w ((w.alloc (.cells (Array.replicate C (.int .i64 0)) 3)).alloc (.cells (Array.replicate C (.int .i64 0)) 3)) := ((Below.refl _ _).alloc (Nat.le_refl _) _).alloc (by simp) _
    have e2 : (w.alloc (.cells (Array.replicate C (.int .i64 0)) 3)).heap.size = w.heap.size + 1 := by simp
    rw [e2] at r2
    clear e2
    have RL := Lib.hid (r2.drew)
    have RS := Lib.hid (r1.drew)
    replace hB := hB.drew
    clear r1 r2
    rw [← m1_zero] at RS
    go_wp2_with fail
    obtain ⟨BL, hBL⟩ : ∃ B, B = w.heap.size + 1 := ⟨_, rfl⟩
    obtain ⟨BS, hBS⟩ : ∃ B, B = w.heap.size := ⟨_, rfl⟩
    rw [← hBL] at RL
    rw [← hBS] at RS
    have hLS : BL ≠ BS := by omega
    have hL0 : w.heap.size ≤ BL := by omega
    have hS0 : w.heap.size ≤ BS := by omega
    rw [← hBL, ← hBS]
    clear hBL hBS
    generalize ((w.alloc (.cells (Array.replicate C (.int .i64 0)) 3)).alloc (.cells (Array.replicate C (.int .i64 0)) 3)).drew = W1 at *
    go_loopw [23, 11] (fun i _ wr => ∃ k : Nat, k ≤ C ∧ i = .int .i64 k ∧ Hid (RowAtI wr BL 3 (List.replicate C 0)) ∧ Hid (RowAtI wr BS 3 (tab C (m1 k))) ∧ Below w.heap.size w wr) (fun i _ _ => C - (intOf i).toNat)
    case atStart => exact ⟨0, Nat.zero_le _, rfl, RL, RS, hB⟩
    case round =>
      clear RL RS hB
      obtain ⟨k, hk, rfl, RL, RS, hB⟩ := hrel
      have hsz := RS.out.lt
      by_cases hlt : k < C
      · have hc := RS.out.cell (k := k) (by rw [tab_len]; exact hlt)
        have hf := RS.out.free k
        generalize (tab C (m1 k)).getD k 0 = u at hc
        have RL2 := Lib.hid (RL.out.other (p := ⟨BS, k, none⟩) (fun e => hLS e.symm) (.int .i64 (-1)))
        have rs2 := RS.out.set k (-1)
        rw [m1_set C k hlt] at rs2
        have RS2 := Lib.hid rs2
        clear rs2
        go_wp2_with fail
        go_roundw
        case rel => exact ⟨k + 1, by omega, by go_num, RL2, RS2, hB.setCell hS0 _⟩
        case measure => (first | (simp [intOf]; done) | (simp [intOf]; omega) | (simp only [intOf]; omega))
      · obtain rfl : k = C := by omega
        have rs := RS.out
        rw [m1_full k xs] at rs
        have RS' := Lib.hid rs
        have rl := RL.out
        rw [sp_none k xs] at rl
        have RL' := Lib.hid rl
        clear rs RS rl RL
        go_wp2_with fail
        go_loopw [32, 12, 13] (fun i _ _ wr => ∃ m : Nat, m ≤ n ∧ i = .int .i64 m ∧ Hid (RowAtI wr BL 3 (tab k (fun j => sp xs j m))) ∧ Hid (RowAtI wr BS 3 (tab k (fun j => la xs j m))) ∧ Below w.heap.size w wr) (fun i _ _ _ => n - (intOf i).toNat)
        case atStart => exact ⟨0, Nat.zero_le _, rfl, RL', RS', hB⟩
        case round =>
          clear RL' RS' hB
          obtain ⟨m, hm, rfl, RL, RS, hB⟩ := hrel
          have hsz := RS.out.lt
          have hszL := RL.out.lt
          by_cases hlt2 : m < n
          · obtain ⟨b, off, rfl, hb, hc0, x0, x1⟩ := HX.out.cell hlt2
            obtain ⟨x, hxe⟩ : ∃ x, xs.getD m 0 = x := ⟨_, rfl⟩
            rw [hxe] at hc0 x0 x1
            have hc : wr.cell? ⟨b, off + m, none⟩ = some (.int .i64 x) := (hB.cell (p := ⟨b, off + m, none⟩) hb).trans hc0
            clear hc0
            by_cases hv : 0 ≤ x ∧ x < k
            · obtain ⟨hv0, hv1⟩ := hv
              obtain ⟨j0, rfl⟩ : ∃ j0 : Nat, x = j0 := ⟨x.toNat, by omega⟩
              have hj : j0 < k := by omega
              have cl := RL.out.cell (k := j0) (by rw [tab_len]; exact hj)
              have cs := RS.out.cell (k := j0) (by rw [tab_len]; exact hj)
              have fl := RL.out.free j0
              have fs := RS.out.free j0
              rw [tab_at _ _ _ hj] at cl cs
              obtain ⟨l0, l1⟩ := la_rng xs (j0 : Nat) m
              obtain ⟨f0, f1⟩ := sp_rng xs (j0 : Nat) m
              have rl2 := (RL.out.set j0 (sp xs j0 m + 1)).other (p := ⟨BS, j0, none⟩) (fun e => hLS e.symm) (.int .i64 m)
              rw [sp_hit k j0 m xs hj hxe] at rl2
              have rs2 := (RS.out.other (p := ⟨BL, j0, none⟩) hLS (.int .i64 (sp xs j0 m + 1))).set j0 m
              rw [la_hit k j0 m xs hj hxe] at rs2
              have RL2 := Lib.hid rl2
              have RS2 := Lib.hid rs2
              clear hxe rl2 rs2
              have hd3 : decide ((j0 : Int) < 0) = false := decide_eq_false (by omega)
              have hd1 : decide ((k : Int) ≤ (j0 : Int)) = false := decide_eq_false (by omega)
              have hd2 : decide (k ≤ j0) = false := decide_eq_false (by omega)
              generalize sp xs (j0 : Nat) m = fv at *
              generalize la xs (j0 : Nat) m = lv at *
              go_wp2_with fail
              refine wp_region_still_tail 14 (by kernel_rfl) (by kernel_rfl) ?_
              simp only [List.take_succ_cons, List.take_zero, List.drop_succ_cons, List.drop_zero]
              change wpStill _ _ wr.drew (fun a' => wpList _ _ _ _ a' wr.drew) _ _
              replace cl : wr.drew.cell? ⟨BL, j0, none⟩ = _ := cl
              replace cs : wr.drew.cell? ⟨BS, j0, none⟩ = _ := cs
              replace fl : wr.drew.frozen? ⟨BL, j0, none⟩ = _ := fl
              replace fs : wr.drew.frozen? ⟨BS, j0, none⟩ = _ := fs
              replace hB := hB.drew
              replace RL2 := Lib.hid (show RowAtI ((wr.drew.setCell _ _).setCell _ _) _ _ _ from RL2.out)
              replace RS2 := Lib.hid (show RowAtI ((wr.drew.setCell _ _).setCell _ _) _ _ _ from RS2.out)
              replace hsz : BS < wr.drew.heap.size := hsz
              replace hszL : BL < wr.drew.heap.size := hszL
              generalize wr.drew = wd at *
              iterate 12 still_step
              still_call ((spent1 _ _ _ _ f0 (by omega)).mono fun e w' ⟨he, hw⟩ => ⟨he, hw.symm⟩)
              repeat still_step
              refine wpStill_nil ?_
              go_wp2_with fail
              go_roundw
              case rel => exact ⟨m + 1, by omega, by go_num, RL2, RS2, (hB.setCell hL0 _).setCell hS0 _⟩
              case measure => (first | (simp [intOf]; done) | (simp [intOf]; omega) | (simp only [intOf]; omega))
            · have rl := RL.out
              have rs := RS.out
              rw [sp_miss k m xs (by rw [hxe]; exact hv)] at rl
              rw [la_miss k m xs (by rw [hxe]; exact hv)] at rs
              have RL2 := Lib.hid rl
              have RS2 := Lib.hid rs
              clear hxe rl rs
              have hv' : x < 0 ∨ (0 ≤ x ∧ (k : Int) ≤ x) := by omega
              clear hv
              rcases hv' with hv | ⟨hv0, hv⟩
              · have hd3 : decide (x < 0) = true := decide_eq_true hv
                go_wp2_with fail
                go_roundw
                case rel => exact ⟨m + 1, by omega, by go_num, RL2, RS2, hB⟩
                case measure => (first | (simp [intOf]; done) | (simp [intOf]; omega) | (simp only [intOf]; omega))
              · have hd3 : decide (x < 0) = false := decide_eq_false (by omega)
                have hd1 : decide ((k : Int) ≤ x) = true := decide_eq_true hv
                go_wp2_with fail
                go_roundw
                case rel => exact ⟨m + 1, by omega, by go_num, RL2, RS2, hB⟩
                case measure => (first | (simp [intOf]; done) | (simp [intOf]; omega) | (simp only [intOf]; omega))
          · obtain rfl : m = n := by omega
            have rl := RL.out
            rw [mx_zero k _ (fun j => sp xs j m)] at rl
            have RL' := Lib.hid rl
            have RS' := Lib.hid RS.out
            clear RL RS rl
            go_wp2_with fail
            go_loopw [65, 14] (fun i _ wr => ∃ q : Nat, q ≤ k ∧ i = .int .i64 q ∧ Hid (RowAtI wr BL 3 (tab k (mx (fun j => sp xs j m) (fun j => sp xs j m) q))) ∧ Hid (RowAtI wr BS 3 (tab k (fun j => la xs j m))) ∧ Below w.heap.size w wr) (fun i _ _ => k - (intOf i).toNat)
            case atStart => exact ⟨0, Nat.zero_le _, rfl, RL', RS', hB⟩
            case round =>
              clear RL' RS' hB hsz hszL
              obtain ⟨q, hq, rfl, RL, RS, hB⟩ := hrel
              have hsz := RS.out.lt
              have hszL := RL.out.lt
              by_cases hlt3 : q < k
              · have cl := RL.out.cell (k := q) (by rw [tab_len]; exact hlt3)
                have cs := RS.out.cell (k := q) (by rw [tab_len]; exact hlt3)
                have fl := RL.out.free q
                rw [tab_at _ _ _ hlt3] at cl cs
                rw [show mx (fun j => sp xs j m) (fun j => sp xs j m) q q = sp xs q m by unfold mx; rw [if_neg (by omega)]] at cl
                obtain ⟨l0, l1⟩ := la_rng xs (q : Nat) m
                obtain ⟨f0, f1⟩ := sp_rng xs (q : Nat) m
                have rl2 := RL.out.set q ((fun j => sp xs j m) q)
                rw [mx_set k q _ _ hlt3] at rl2
                have RL2 := Lib.hid rl2
                have RS2 := Lib.hid (RS.out.other (p := ⟨BL, q, none⟩) hLS (.int .i64 ((fun j => sp xs j m) q)))
                clear rl2
                have hd1 : decide ((q : Int) < (k : Int)) = true := decide_eq_true (by omega)
                have FV := Lib.hid (show (fun j => sp xs j m) q = sp xs q m from rfl)
                generalize hfin : (fun j => sp xs j m) q = fin at *
                generalize sp xs (q : Nat) m = fv at *
                generalize la xs (q : Nat) m = lv at *
                clear hfin
                go_wp2_with fail
                refine wp_region_still_tail 15 (by kernel_rfl) (by kernel_rfl) ?_
                simp only [List.take_succ_cons, List.take_zero, List.drop_succ_cons, List.drop_zero]
                change wpStill _ _ wr.drew (fun a' => wpList _ _ _ _ a' wr.drew) _ _
                replace cl : wr.drew.cell? ⟨BL, q, none⟩ = _ := cl
                replace cs : wr.drew.cell? ⟨BS, q, none⟩ = _ := cs
                replace fl : wr.drew.frozen? ⟨BL, q, none⟩ = _ := fl
                replace hB := hB.drew
                replace RL2 := Lib.hid (show RowAtI (wr.drew.setCell _ _) _ _ _ from RL2.out)
                replace RS2 := Lib.hid (show RowAtI (wr.drew.setCell _ _) _ _ _ from RS2.out)
                replace hsz : BS < wr.drew.heap.size := hsz
                replace hszL : BL < wr.drew.heap.size := hszL
                generalize wr.drew = wd at *
                iterate 13 still_step
                still_call ((spent2 _ _ _ _).mono fun e w' ⟨he, hw⟩ => ⟨he, hw.symm⟩)
                repeat still_step
                refine wpStill_nil ?_
                rw [← FV.out]
                go_wp2_with fail
                go_roundw
                case rel => exact ⟨q + 1, by omega, by go_num, RL2, RS2, hB.setCell hL0 _⟩
                case measure => (first | (simp [intOf]; done) | (simp [intOf]; omega) | (simp only [intOf]; omega))
              · obtain rfl : q = k := by omega
                have rl := RL.out
                rw [mx_full] at rl
                have RL2 := Lib.hid rl
                clear rl
                have hd1 : decide ((q : Int) < (q : Int)) = false := decide_eq_false (by omega)
                go_wp2_with fail
                go_ret
                exact ⟨_, _, rfl, RowI.of_at RL2.out (sp_wf xs q m (by omega)) (tab_len _ _) (by omega), hB⟩

set_option maxRecDepth 100000 in
set_option maxHeartbeats 4000000 in
theorem count_longest (p : Option Addr) (n c C : Nat) (xs : List Int) (w : World) (hx : RowI w p n xs) (hn : n ≤ 300) (h1 : 1 ≤ C) (h2 : C ≤ 100) : Calls Try.prog 52 #[.slice p n c, .int .i64 C, .func (.func 55) #[] #[], .func (.func 55) #[] #[]] w (GivesI w C (tab C (fun j => max (lo xs j n) (n - la xs j n - 1)))) := by
  have hmk := make_i64 C (by omega)
  have HX := Lib.hid hx
  have HL := Lib.hid hx.len
  have gC : decide (C = 0) = false := decide_eq_false (by omega)
  clear hx
  go_enter Try.func52, Try.ntmps52
  go_wp2_with fail
  go_region
  · have r1 := (RowAtI.made w 3 C).below ((Below.refl _ _).alloc (Nat.le_refl _) (.cells (Array.replicate C (.int .i64 0)) 3))
    have r2 := RowAtI.made (w.alloc (.cells (Array.replicate C (.int .i64 0)) 3)) 3 C
    have hB : Below w.heap.size w ((w.alloc (.cells (Array.replicate C (.int .i64 0)) 3)).alloc (.cells (Array.replicate C (.int .i64 0)) 3)) := ((Below.refl _ _).alloc (Nat.le_refl _) _).alloc (by simp) _
    have e2 : (w.alloc (.cells (Array.replicate C (.int .i64 0)) 3)).heap.size = w.heap.size + 1 := by simp
    rw [e2] at r2
    clear e2
    have RL := Lib.hid (r1.drew)
    have RS := Lib.hid (r2.drew)
    replace hB := hB.drew
    clear r1 r2
    rw [← m1_zero] at RS
    go_wp2_with fail
    obtain ⟨BL, hBL⟩ : ∃ B, B = w.heap.size := ⟨_, rfl⟩
    obtain ⟨BS, hBS⟩ : ∃ B, B = w.heap.size + 1 := ⟨_, rfl⟩
    rw [← hBL] at RL
    rw [← hBS] at RS
    have hLS : BL ≠ BS := by omega
    have hL0 : w.heap.size ≤ BL := by omega
    have hS0 : w.heap.size ≤ BS := by omega
    rw [← hBS, ← hBL]
    clear hBL hBS
    generalize ((w.alloc (.cells (Array.replicate C (.int .i64 0)) 3)).alloc (.cells (Array.replicate C (.int .i64 0)) 3)).drew = W1 at *
    go_loopw [23, 11] (fun i _ wr => ∃ k : Nat, k ≤ C ∧ i = .int .i64 k ∧ Hid (RowAtI wr BL 3 (List.replicate C 0)) ∧ Hid (RowAtI wr BS 3 (tab C (m1 k))) ∧ Below w.heap.size w wr) (fun i _ _ => C - (intOf i).toNat)
    case atStart => exact ⟨0, Nat.zero_le _, rfl, RL, RS, hB⟩
    case round =>
      clear RL RS hB
      obtain ⟨k, hk, rfl, RL, RS, hB⟩ := hrel
      have hsz := RS.out.lt
      by_cases hlt : k < C
      · have hc := RS.out.cell (k := k) (by rw [tab_len]; exact hlt)
        have hf := RS.out.free k
        generalize (tab C (m1 k)).getD k 0 = u at hc
        have RL2 := Lib.hid (RL.out.other (p := ⟨BS, k, none⟩) (fun e => hLS e.symm) (.int .i64 (-1)))
        have rs2 := RS.out.set k (-1)
        rw [m1_set C k hlt] at rs2
        have RS2 := Lib.hid rs2
        clear rs2
        go_wp2_with fail
        go_roundw
        case rel => exact ⟨k + 1, by omega, by go_num, RL2, RS2, hB.setCell hS0 _⟩
        case measure => (first | (simp [intOf]; done) | (simp [intOf]; omega) | (simp only [intOf]; omega))
      · obtain rfl : k = C := by omega
        have rs := RS.out
        rw [m1_full k xs] at rs
        have RS' := Lib.hid rs
        have rl := RL.out
        rw [lo_none k xs] at rl
        have RL' := Lib.hid rl
        clear rs RS rl RL
        go_wp2_with fail
        go_loopw [32, 12, 13] (fun i _ _ wr => ∃ m : Nat, m ≤ n ∧ i = .int .i64 m ∧ Hid (RowAtI wr BL 3 (tab k (fun j => lo xs j m))) ∧ Hid (RowAtI wr BS 3 (tab k (fun j => la xs j m))) ∧ Below w.heap.size w wr) (fun i _ _ _ => n - (intOf i).toNat)
        case atStart => exact ⟨0, Nat.zero_le _, rfl, RL', RS', hB⟩
        case round =>
          clear RL' RS' hB
          obtain ⟨m, hm, rfl, RL, RS, hB⟩ := hrel
          have hsz := RS.out.lt
          have hszL := RL.out.lt
          by_cases hlt2 : m < n
          · obtain ⟨b, off, rfl, hb, hc0, x0, x1⟩ := HX.out.cell hlt2
            obtain ⟨x, hxe⟩ : ∃ x, xs.getD m 0 = x := ⟨_, rfl⟩
            rw [hxe] at hc0 x0 x1
            have hc : wr.cell? ⟨b, off + m, none⟩ = some (.int .i64 x) := (hB.cell (p := ⟨b, off + m, none⟩) hb).trans hc0
            clear hc0
            by_cases hv : 0 ≤ x ∧ x < k
            · obtain ⟨hv0, hv1⟩ := hv
              obtain ⟨j0, rfl⟩ : ∃ j0 : Nat, x = j0 := ⟨x.toNat, by omega⟩
              have hj : j0 < k := by omega
              have cl := RL.out.cell (k := j0) (by rw [tab_len]; exact hj)
              have cs := RS.out.cell (k := j0) (by rw [tab_len]; exact hj)
              have fl := RL.out.free j0
              have fs := RS.out.free j0
              rw [tab_at _ _ _ hj] at cl cs
              obtain ⟨l0, l1⟩ := la_rng xs (j0 : Nat) m
              obtain ⟨f0, f1⟩ := lo_rng xs (j0 : Nat) m
              have rl2 := (RL.out.set j0 (max (lo xs j0 m) (m - la xs j0 m - 1))).other (p := ⟨BS, j0, none⟩) (fun e => hLS e.symm) (.int .i64 m)
              rw [lo_hit k j0 m xs hj hxe] at rl2
              have rs2 := (RS.out.other (p := ⟨BL, j0, none⟩) hLS (.int .i64 (max (lo xs j0 m) (m - la xs j0 m - 1)))).set j0 m
              rw [la_hit k j0 m xs hj hxe] at rs2
              have RL2 := Lib.hid rl2
              have RS2 := Lib.hid rs2
              clear hxe rl2 rs2
              have hd3 : decide ((j0 : Int) < 0) = false := decide_eq_false (by omega)
              have hd1 : decide ((k : Int) ≤ (j0 : Int)) = false := decide_eq_false (by omega)
              have hd2 : decide (k ≤ j0) = false := decide_eq_false (by omega)
              generalize lo xs (j0 : Nat) m = fv at *
              generalize la xs (j0 : Nat) m = lv at *
              go_wp2_with fail
              refine wp_region_still_tail 14 (by kernel_rfl) (by kernel_rfl) ?_
              simp only [List.take_succ_cons, List.take_zero, List.drop_succ_cons, List.drop_zero]
              change wpStill _ _ wr.drew (fun a' => wpList _ _ _ _ a' wr.drew) _ _
              replace cl : wr.drew.cell? ⟨BL, j0, none⟩ = _ := cl
              replace cs : wr.drew.cell? ⟨BS, j0, none⟩ = _ := cs
              replace fl : wr.drew.frozen? ⟨BL, j0, none⟩ = _ := fl
              replace fs : wr.drew.frozen? ⟨BS, j0, none⟩ = _ := fs
              replace hB := hB.drew
              replace RL2 := Lib.hid (show RowAtI ((wr.drew.setCell _ _).setCell _ _) _ _ _ from RL2.out)
              replace RS2 := Lib.hid (show RowAtI ((wr.drew.setCell _ _).setCell _ _) _ _ _ from RS2.out)
              replace hsz : BS < wr.drew.heap.size := hsz
              replace hszL : BL < wr.drew.heap.size := hszL
              generalize wr.drew = wd at *
              iterate 12 still_step
              still_call ((longest1 _ _ _ _ f0 (by omega) (by omega) (by omega) l0 (by omega)).mono fun e w' ⟨he, hw⟩ => ⟨he, hw.symm⟩)
              repeat still_step
              refine wpStill_nil ?_
              go_wp2_with fail
              go_roundw
              case rel => exact ⟨m + 1, by omega, by go_num, RL2, RS2, (hB.setCell hL0 _).setCell hS0 _⟩
              case measure => (first | (simp [intOf]; done) | (simp [intOf]; omega) | (simp only [intOf]; omega))
            · have rl := RL.out
              have rs := RS.out
              rw [lo_miss k m xs (by rw [hxe]; exact hv)] at rl
              rw [la_miss k m xs (by rw [hxe]; exact hv)] at rs
              have RL2 := Lib.hid rl
              have RS2 := Lib.hid rs
              clear hxe rl rs
              have hv' : x < 0 ∨ (0 ≤ x ∧ (k : Int) ≤ x) := by omega
              clear hv
              rcases hv' with hv | ⟨hv0, hv⟩
              · have hd3 : decide (x < 0) = true := decide_eq_true hv
                go_wp2_with fail
                go_roundw
                case rel => exact ⟨m + 1, by omega, by go_num, RL2, RS2, hB⟩
                case measure => (first | (simp [intOf]; done) | (simp [intOf]; omega) | (simp only [intOf]; omega))
              · have hd3 : decide (x < 0) = false := decide_eq_false (by omega)
                have hd1 : decide ((k : Int) ≤ x) = true := decide_eq_true hv
                go_wp2_with fail
                go_roundw
                case rel => exact ⟨m + 1, by omega, by go_num, RL2, RS2, hB⟩
                case measure => (first | (simp [intOf]; done) | (simp [intOf]; omega) | (simp only [intOf]; omega))
          · obtain rfl : m = n := by omega
            have rl := RL.out
            rw [mx_zero k _ (fun j => max (lo xs j m) (m - la xs j m - 1))] at rl
            have RL' := Lib.hid rl
            have RS' := Lib.hid RS.out
            clear RL RS rl
            go_wp2_with fail
            go_loopw [65, 14] (fun i _ wr => ∃ q : Nat, q ≤ k ∧ i = .int .i64 q ∧ Hid (RowAtI wr BL 3 (tab k (mx (fun j => lo xs j m) (fun j => max (lo xs j m) (m - la xs j m - 1)) q))) ∧ Hid (RowAtI wr BS 3 (tab k (fun j => la xs j m))) ∧ Below w.heap.size w wr) (fun i _ _ => k - (intOf i).toNat)
            case atStart => exact ⟨0, Nat.zero_le _, rfl, RL', RS', hB⟩
            case round =>
              clear RL' RS' hB hsz hszL
              obtain ⟨q, hq, rfl, RL, RS, hB⟩ := hrel
              have hsz := RS.out.lt
              have hszL := RL.out.lt
              by_cases hlt3 : q < k
              · have cl := RL.out.cell (k := q) (by rw [tab_len]; exact hlt3)
                have cs := RS.out.cell (k := q) (by rw [tab_len]; exact hlt3)
                have fl := RL.out.free q
                rw [tab_at _ _ _ hlt3] at cl cs
                rw [show mx (fun j => lo xs j m) (fun j => max (lo xs j m) (m - la xs j m - 1)) q q = lo xs q m by unfold mx; rw [if_neg (by omega)]] at cl
                obtain ⟨l0, l1⟩ := la_rng xs (q : Nat) m
                obtain ⟨f0, f1⟩ := lo_rng xs (q : Nat) m
                have rl2 := RL.out.set q ((fun j => max (lo xs j m) (m - la xs j m - 1)) q)
                rw [mx_set k q _ _ hlt3] at rl2
                have RL2 := Lib.hid rl2
                have RS2 := Lib.hid (RS.out.other (p := ⟨BL, q, none⟩) hLS (.int .i64 ((fun j => max (lo xs j m) (m - la xs j m - 1)) q)))
                clear rl2
                have hd1 : decide ((q : Int) < (k : Int)) = true := decide_eq_true (by omega)
                have FV := Lib.hid (show (fun j => max (lo xs j m) (m - la xs j m - 1)) q = max (lo xs q m) (m - la xs q m - 1) from rfl)
                generalize hfin : (fun j => max (lo xs j m) (m - la xs j m - 1)) q = fin at *
                generalize lo xs (q : Nat) m = fv at *
                generalize la xs (q : Nat) m = lv at *
                clear hfin
                go_wp2_with fail
                refine wp_region_still_tail 15 (by kernel_rfl) (by kernel_rfl) ?_
                simp only [List.take_succ_cons, List.take_zero, List.drop_succ_cons, List.drop_zero]
                change wpStill _ _ wr.drew (fun a' => wpList _ _ _ _ a' wr.drew) _ _
                replace cl : wr.drew.cell? ⟨BL, q, none⟩ = _ := cl
                replace cs : wr.drew.cell? ⟨BS, q, none⟩ = _ := cs
                replace fl : wr.drew.frozen? ⟨BL, q, none⟩ = _ := fl
                replace hB := hB.drew
                replace RL2 := Lib.hid (show RowAtI (wr.drew.setCell _ _) _ _ _ from RL2.out)
                replace RS2 := Lib.hid (show RowAtI (wr.drew.setCell _ _) _ _ _ from RS2.out)
                replace hsz : BS < wr.drew.heap.size := hsz
                replace hszL : BL < wr.drew.heap.size := hszL
                generalize wr.drew = wd at *
                iterate 13 still_step
                still_call ((longest1 _ _ _ _ f0 (by omega) (by omega) (by omega) l0 (by omega)).mono fun e w' ⟨he, hw⟩ => ⟨he, hw.symm⟩)
                repeat still_step
                refine wpStill_nil ?_
                rw [← FV.out]
                go_wp2_with fail
                go_roundw
                case rel => exact ⟨q + 1, by omega, by go_num, RL2, RS2, hB.setCell hL0 _⟩
                case measure => (first | (simp [intOf]; done) | (simp [intOf]; omega) | (simp only [intOf]; omega))
              · obtain rfl : q = k := by omega
                have rl := RL.out
                rw [mx_full] at rl
                have RL2 := Lib.hid rl
                clear rl
                have hd1 : decide ((q : Int) < (q : Int)) = false := decide_eq_false (by omega)
                go_wp2_with fail
                go_ret
                exact ⟨_, _, rfl, RowI.of_at RL2.out (lo_wf xs q m (by omega)) (tab_len _ _) (by omega), hB⟩
  · have r1 := (RowAtI.made w 3 C).below ((Below.refl _ _).alloc (Nat.le_refl _) (.cells (Array.replicate C (.int .i64 0)) 3))
    have r2 := RowAtI.made (w.alloc (.cells (Array.replicate C (.int .i64 0)) 3)) 3 C
    have hB : Below w.heap.size w ((w.alloc (.cells (Array.replicate C (.int .i64 0)) 3)).alloc (.cells (Array.replicate C (.int .i64 0)) 3)) := ((Below.refl _ _).alloc (Nat.le_refl _) _).alloc (by simp) _
    have e2 : (w.alloc (.cells (Array.replicate C (.int .i64 0)) 3)).heap.size = w.heap.size + 1 := by simp
    rw [e2] at r2
    clear e2
    have RL := Lib.hid (r2.drew)
    have RS := Lib.hid (r1.drew)
    replace hB := hB.drew
    clear r1 r2
    rw [← m1_zero] at RS
    go_wp2_with fail
    obtain ⟨BL, hBL⟩ : ∃ B, B = w.heap.size + 1 := ⟨_, rfl⟩
    obtain ⟨BS, hBS⟩ : ∃ B, B = w.heap.size := ⟨_, rfl⟩
    rw [← hBL] at RL
    rw [← hBS] at RS
    have hLS : BL ≠ BS := by omega
    have hL0 : w.heap.size ≤ BL := by omega
    have hS0 : w.heap.size ≤ BS := by omega
    rw [← hBL, ← hBS]
    clear hBL hBS
    generalize ((w.alloc (.cells (Array.replicate C (.int .i64 0)) 3)).alloc (.cells (Array.replicate C (.int .i64 0)) 3)).drew = W1 at *
    go_loopw [23, 11] (fun i _ wr => ∃ k : Nat, k ≤ C ∧ i = .int .i64 k ∧ Hid (RowAtI wr BL 3 (List.replicate C 0)) ∧ Hid (RowAtI wr BS 3 (tab C (m1 k))) ∧ Below w.heap.size w wr) (fun i _ _ => C - (intOf i).toNat)
    case atStart => exact ⟨0, Nat.zero_le _, rfl, RL, RS, hB⟩
    case round =>
      clear RL RS hB
      obtain ⟨k, hk, rfl, RL, RS, hB⟩ := hrel
      have hsz := RS.out.lt
      by_cases hlt : k < C
      · have hc := RS.out.cell (k := k) (by rw [tab_len]; exact hlt)
        have hf := RS.out.free k
        generalize (tab C (m1 k)).getD k 0 = u at hc
        have RL2 := Lib.hid (RL.out.other (p := ⟨BS, k, none⟩) (fun e => hLS e.symm) (.int .i64 (-1)))
        have rs2 := RS.out.set k (-1)
        rw [m1_set C k hlt] at rs2
        have RS2 := Lib.hid rs2
        clear rs2
        go_wp2_with fail
        go_roundw
        case rel => exact ⟨k + 1, by omega, by go_num, RL2, RS2, hB.setCell hS0 _⟩
        case measure => (first | (simp [intOf]; done) | (simp [intOf]; omega) | (simp only [intOf]; omega))
      · obtain rfl : k = C := by omega
        have rs := RS.out
        rw [m1_full k xs] at rs
        have RS' := Lib.hid rs
        have rl := RL.out
        rw [lo_none k xs] at rl
        have RL' := Lib.hid rl
        clear rs RS rl RL
        go_wp2_with fail
        go_loopw [32, 12, 13] (fun i _ _ wr => ∃ m : Nat, m ≤ n ∧ i = .int .i64 m ∧ Hid (RowAtI wr BL 3 (tab k (fun j => lo xs j m))) ∧ Hid (RowAtI wr BS 3 (tab k (fun j => la xs j m))) ∧ Below w.heap.size w wr) (fun i _ _ _ => n - (intOf i).toNat)
        case atStart => exact ⟨0, Nat.zero_le _, rfl, RL', RS', hB⟩
        case round =>
          clear RL' RS' hB
          obtain ⟨m, hm, rfl, RL, RS, hB⟩ := hrel
          have hsz := RS.out.lt
          have hszL := RL.out.lt
          by_cases hlt2 : m < n
          · obtain ⟨b, off, rfl, hb, hc0, x0, x1⟩ := HX.out.cell hlt2
            obtain ⟨x, hxe⟩ : ∃ x, xs.getD m 0 = x := ⟨_, rfl⟩
            rw [hxe] at hc0 x0 x1
            have hc : wr.cell? ⟨b, off + m, none⟩ = some (.int .i64 x) := (hB.cell (p := ⟨b, off + m, none⟩) hb).trans hc0
            clear hc0
            by_cases hv : 0 ≤ x ∧ x < k
            · obtain ⟨hv0, hv1⟩ := hv
              obtain ⟨j0, rfl⟩ : ∃ j0 : Nat, x = j0 := ⟨x.toNat, by omega⟩
              have hj : j0 < k := by omega
              have cl := RL.out.cell (k := j0) (by rw [tab_len]; exact hj)
              have cs := RS.out.cell (k := j0) (by rw [tab_len]; exact hj)
              have fl := RL.out.free j0
              have fs := RS.out.free j0
              rw [tab_at _ _ _ hj] at cl cs
              obtain ⟨l0, l1⟩ := la_rng xs (j0 : Nat) m
              obtain ⟨f0, f1⟩ := lo_rng xs (j0 : Nat) m
              have rl2 := (RL.out.set j0 (max (lo xs j0 m) (m - la xs j0 m - 1))).other (p := ⟨BS, j0, none⟩) (fun e => hLS e.symm) (.int .i64 m)
              rw [lo_hit k j0 m xs hj hxe] at rl2
              have rs2 := (RS.out.other (p := ⟨BL, j0, none⟩) hLS (.int .i64 (max (lo xs j0 m) (m - la xs j0 m - 1)))).set j0 m
              rw [la_hit k j0 m xs hj hxe] at rs2
              have RL2 := Lib.hid rl2
              have RS2 := Lib.hid rs2
              clear hxe rl2 rs2
              have hd3 : decide ((j0 : Int) < 0) = false := decide_eq_false (by omega)
              have hd1 : decide ((k : Int) ≤ (j0 : Int)) = false := decide_eq_false (by omega)
              have hd2 : decide (k ≤ j0) = false := decide_eq_false (by omega)
              generalize lo xs (j0 : Nat) m = fv at *
              generalize la xs (j0 : Nat) m = lv at *
              go_wp2_with fail
              refine wp_region_still_tail 14 (by kernel_rfl) (by kernel_rfl) ?_
              simp only [List.take_succ_cons, List.take_zero, List.drop_succ_cons, List.drop_zero]
              change wpStill _ _ wr.drew (fun a' => wpList _ _ _ _ a' wr.drew) _ _
              replace cl : wr.drew.cell? ⟨BL, j0, none⟩ = _ := cl
              replace cs : wr.drew.cell? ⟨BS, j0, none⟩ = _ := cs
              replace fl : wr.drew.frozen? ⟨BL, j0, none⟩ = _ := fl
              replace fs : wr.drew.frozen? ⟨BS, j0, none⟩ = _ := fs
              replace hB := hB.drew
              replace RL2 := Lib.hid (show RowAtI ((wr.drew.setCell _ _).setCell _ _) _ _ _ from RL2.out)
              replace RS2 := Lib.hid (show RowAtI ((wr.drew.setCell _ _).setCell _ _) _ _ _ from RS2.out)
              replace hsz : BS < wr.drew.heap.size := hsz
              replace hszL : BL < wr.drew.heap.size := hszL
              generalize wr.drew = wd at *
              iterate 12 still_step
              still_call ((longest1 _ _ _ _ f0 (by omega) (by omega) (by omega) l0 (by omega)).mono fun e w' ⟨he, hw⟩ => ⟨he, hw.symm⟩)
              repeat still_step
              refine wpStill_nil ?_
              go_wp2_with fail
              go_roundw
              case rel => exact ⟨m + 1, by omega, by go_num, RL2, RS2, (hB.setCell hL0 _).setCell hS0 _⟩
              case measure => (first | (simp [intOf]; done) | (simp [intOf]; omega) | (simp only [intOf]; omega))
            · have rl := RL.out
              have rs := RS.out
              rw [lo_miss k m xs (by rw [hxe]; exact hv)] at rl
              rw [la_miss k m xs (by rw [hxe]; exact hv)] at rs
              have RL2 := Lib.hid rl
              have RS2 := Lib.hid rs
              clear hxe rl rs
              have hv' : x < 0 ∨ (0 ≤ x ∧ (k : Int) ≤ x) := by omega
              clear hv
              rcases hv' with hv | ⟨hv0, hv⟩
              · have hd3 : decide (x < 0) = true := decide_eq_true hv
                go_wp2_with fail
                go_roundw
                case rel => exact ⟨m + 1, by omega, by go_num, RL2, RS2, hB⟩
                case measure => (first | (simp [intOf]; done) | (simp [intOf]; omega) | (simp only [intOf]; omega))
              · have hd3 : decide (x < 0) = false := decide_eq_false (by omega)
                have hd1 : decide ((k : Int) ≤ x) = true := decide_eq_true hv
                go_wp2_with fail
                go_roundw
                case rel => exact ⟨m + 1, by omega, by go_num, RL2, RS2, hB⟩
                case measure => (first | (simp [intOf]; done) | (simp [intOf]; omega) | (simp only [intOf]; omega))
          · obtain rfl : m = n := by omega
            have rl := RL.out
            rw [mx_zero k _ (fun j => max (lo xs j m) (m - la xs j m - 1))] at rl
            have RL' := Lib.hid rl
            have RS' := Lib.hid RS.out
            clear RL RS rl
            go_wp2_with fail
            go_loopw [65, 14] (fun i _ wr => ∃ q : Nat, q ≤ k ∧ i = .int .i64 q ∧ Hid (RowAtI wr BL 3 (tab k (mx (fun j => lo xs j m) (fun j => max (lo xs j m) (m - la xs j m - 1)) q))) ∧ Hid (RowAtI wr BS 3 (tab k (fun j => la xs j m))) ∧ Below w.heap.size w wr) (fun i _ _ => k - (intOf i).toNat)
            case atStart => exact ⟨0, Nat.zero_le _, rfl, RL', RS', hB⟩
            case round =>
              clear RL' RS' hB hsz hszL
              obtain ⟨q, hq, rfl, RL, RS, hB⟩ := hrel
              have hsz := RS.out.lt
              have hszL := RL.out.lt
              by_cases hlt3 : q < k
              · have cl := RL.out.cell (k := q) (by rw [tab_len]; exact hlt3)
                have cs := RS.out.cell (k := q) (by rw [tab_len]; exact hlt3)
                have fl := RL.out.free q
                rw [tab_at _ _ _ hlt3] at cl cs
                rw [show mx (fun j => lo xs j m) (fun j => max (lo xs j m) (m - la xs j m - 1)) q q = lo xs q m by unfold mx; rw [if_neg (by omega)]] at cl
                obtain ⟨l0, l1⟩ := la_rng xs (q : Nat) m
                obtain ⟨f0, f1⟩ := lo_rng xs (q : Nat) m
                have rl2 := RL.out.set q ((fun j => max (lo xs j m) (m - la xs j m - 1)) q)
                rw [mx_set k q _ _ hlt3] at rl2
                have RL2 := Lib.hid rl2
                have RS2 := Lib.hid (RS.out.other (p := ⟨BL, q, none⟩) hLS (.int .i64 ((fun j => max (lo xs j m) (m - la xs j m - 1)) q)))
                clear rl2
                have hd1 : decide ((q : Int) < (k : Int)) = true := decide_eq_true (by omega)
                have FV := Lib.hid (show (fun j => max (lo xs j m) (m - la xs j m - 1)) q = max (lo xs q m) (m - la xs q m - 1) from rfl)
                generalize hfin : (fun j => max (lo xs j m) (m - la xs j m - 1)) q = fin at *
                generalize lo xs (q : Nat) m = fv at *
                generalize la xs (q : Nat) m = lv at *
                clear hfin
                go_wp2_with fail
                refine wp_region_still_tail 15 (by kernel_rfl) (by kernel_rfl) ?_
                simp only [List.take_succ_cons, List.take_zero, List.drop_succ_cons, List.drop_zero]
                change wpStill _ _ wr.drew (fun a' => wpList _ _ _ _ a' wr.drew) _ _
                replace cl : wr.drew.cell? ⟨BL, q, none⟩ = _ := cl
                replace cs : wr.drew.cell? ⟨BS, q, none⟩ = _ := cs
                replace fl : wr.drew.frozen? ⟨BL, q, none⟩ = _ := fl
                replace hB := hB.drew
                replace RL2 := Lib.hid (show RowAtI (wr.drew.setCell _ _) _ _ _ from RL2.out)
                replace RS2 := Lib.hid (show RowAtI (wr.drew.setCell _ _) _ _ _ from RS2.out)
                replace hsz : BS < wr.drew.heap.size := hsz
                replace hszL : BL < wr.drew.heap.size := hszL
                generalize wr.drew = wd at *
                iterate 13 still_step
                still_call ((longest1 _ _ _ _ f0 (by omega) (by omega) (by omega) l0 (by omega)).mono fun e w' ⟨he, hw⟩ => ⟨he, hw.symm⟩)
                repeat still_step
                refine wpStill_nil ?_
                rw [← FV.out]
                go_wp2_with fail
                go_roundw
                case rel => exact ⟨q + 1, by omega, by go_num, RL2, RS2, hB.setCell hL0 _⟩
                case measure => (first | (simp [intOf]; done) | (simp [intOf]; omega) | (simp only [intOf]; omega))
              · obtain rfl : q = k := by omega
                have rl := RL.out
                rw [mx_full] at rl
                have RL2 := Lib.hid rl
                clear rl
                have hd1 : decide ((q : Int) < (q : Int)) = false := decide_eq_false (by omega)
                go_wp2_with fail
                go_ret
                exact ⟨_, _, rfl, RowI.of_at RL2.out (lo_wf xs q m (by omega)) (tab_len _ _) (by omega), hB⟩

end Go.Proofs.Ytlbkmheggdgfoaa
