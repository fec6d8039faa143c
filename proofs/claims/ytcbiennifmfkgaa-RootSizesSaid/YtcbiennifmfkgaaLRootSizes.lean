/- RootSizes: all sizes up to any number. -/
import Derived.Test.YtcbiennifmfkgaaSizr
import Derived.BigQuiet
namespace Go.Proofs.Ytcbiennifmfkgaa
open Go.ChangeShapes Go.WideShapes Go.ChangeAt Go.RowKit
set_option linter.unusedVariables false
set_option linter.unusedSimpArgs false
theorem hasb_of {n : Nat} (h1 : 1 ≤ n) (h2 : n ≤ 16777216) : hasb (n : Int) = decide (n ∣ 18446744069414584320) := by
  unfold hasb
  by_cases hd : n ∣ 18446744069414584320
  · rw [decide_eq_true hd]
    refine decide_eq_true ⟨by omega, by omega, ?_⟩
    have h := Nat.mod_eq_zero_of_dvd hd
    have h3 : ((18446744069414584320 % n : Nat) : Int) = 0 := by rw [h]; rfl
    rw [Int.natCast_emod] at h3
    exact h3
  · rw [decide_eq_false hd]
    refine decide_eq_false (fun ⟨_, _, h⟩ => hd ?_)
    have h3 : ((18446744069414584320 % n : Nat) : Int) = 0 := by rw [Int.natCast_emod]; exact h
    exact Nat.dvd_of_mod_eq_zero (by omega)
/-- The sorted row: sizes all, and rising. -/
theorem sorted_facts (m : Nat) (hm : m ≤ 16777216) : ∃ zs : List Int, ((ints (sizL m)).mergeSort fun x y => decide (x ≤ y)) = zs ∧ zs.length = cntS m ∧ (∀ i, i < zs.length → hasb (zs.getD i 0) = true ∧ 1 ≤ zs.getD i 0 ∧ zs.getD i 0 ≤ m) ∧ (∀ i, i + 1 < zs.length → zs.getD i 0 < zs.getD (i + 1) 0) := by
  refine ⟨_, rfl, ?_, ?_, ?_⟩
  · rw [List.length_mergeSort, ints_len, siz_len hm]
  · intro i hi
    have hmem : ((ints (sizL m)).mergeSort fun x y => decide (x ≤ y)).getD i 0 ∈ ((ints (sizL m)).mergeSort fun x y => decide (x ≤ y)) := by
      simp only [List.getD, List.getElem?_eq_getElem hi, Option.getD_some]; exact List.getElem_mem hi
    generalize ((ints (sizL m)).mergeSort fun x y => decide (x ≤ y)).getD i 0 = z at *
    rw [List.mem_mergeSort] at hmem
    obtain ⟨x, hx, rfl⟩ := List.mem_map.1 hmem
    obtain ⟨h1, h2, h3⟩ := siz_in hm hx
    exact ⟨by rw [hasb_of h1 (by omega)]; exact decide_eq_true h3, by omega, by omega⟩
  · intro i hi
    have hs : List.Pairwise (fun x y : Int => decide (x ≤ y) = true) ((ints (sizL m)).mergeSort fun x y => decide (x ≤ y)) := List.pairwise_mergeSort (fun a b c h1 h2 => by simp at *; omega) (fun a b => by simp; omega) _
    have hn : ((ints (sizL m)).mergeSort fun x y => decide (x ≤ y)).Nodup := (List.mergeSort_perm _ _).nodup_iff.2 (List.Pairwise.map _ (fun a b hab e => hab (by omega)) (siz_nodup m))
    have hlt : i < ((ints (sizL m)).mergeSort fun x y => decide (x ≤ y)).length := by omega
    simp only [List.getD, List.getElem?_eq_getElem hlt, List.getElem?_eq_getElem hi, Option.getD_some]
    have h1 := (List.pairwise_iff_getElem.1 hs) i (i + 1) hlt hi (by omega)
    have h2 := (List.pairwise_iff_getElem.1 hn) i (i + 1) hlt hi (by omega)
    simp only [decide_eq_true_eq] at h1
    omega
theorem cntS_pos : ∀ m, 1 ≤ m → 1 ≤ cntS m
  | 0, h => by omega
  | 1, _ => by decide
  | m + 2, _ => by have := cntS_pos (m + 1) (by omega); rw [cntS]; omega
theorem cntS_le : ∀ k, cntS k ≤ k
  | 0 => Nat.le_refl _
  | k + 1 => by have := cntS_le k; unfold cntS; split <;> omega
namespace rootSizes
set_option maxRecDepth 100000 in
set_option maxHeartbeats 8000000 in
theorem walk (W : World) (a0 : Int) (w0 : -9223372036854775808 ≤ a0 ∧ a0 ≤ 9223372036854775807) :
    Calls Try.prog 3 #[.int .i64 a0] W fun e W' => e = .returned (.bool true) ∧ Below W.heap.size W W' := by
  obtain ⟨m, hm⟩ : ∃ m, (min a0 16777216).toNat = m := ⟨_, rfl⟩
  have hm16 : m ≤ 16777216 := by omega
  obtain ⟨zs, hzs, hzl, hz1, hz2⟩ := sorted_facts m hm16
  have RS := root_sizes a0 W w0.1
  rw [hm, hzs] at RS
  have RS := Lib.hid RS
  have LV := Lib.hid (fun w => live4 w)
  have HAS := Lib.hid (fun n w h0 h1 => r4_has n w h0 h1)
  have IS := Lib.hid (fun w => r3_is 1 w)
  have HZ1 := Lib.hid hz1
  have HZ2 := Lib.hid hz2
  have hcl := cntS_le m
  obtain ⟨N, hN⟩ : ∃ N, zs.length = N := ⟨_, rfl⟩
  have HNc := Lib.hid (show N = cntS m by rw [← hN]; exact hzl)
  clear hzs hz1 hz2
  have hN24 : N ≤ 16777216 := by omega
  go_enter Try.func3, Try.ntmps3
  go_wp2_with fail
  refine (RS.out).mono ?_
  rintro e w1 ⟨v, rfl, ho, b1⟩
  obtain ⟨a, c, rfl, hr, hc1, hc2⟩ := ho.shape
  rw [hN] at hc1 ⊢
  have HR := Lib.hid hr
  have hB := Lib.hid b1
  clear ho hr b1 hzl
  go_wp2_with fail
  go_loopw [4] (fun x wr => ∃ i : Nat, i ≤ N ∧ x = .int .i64 i ∧ w1.heap = wr.heap ∧ Hid (Below W.heap.size W wr)) (fun x _ => N - (intOf x).toNat)
  case atStart => exact ⟨0, Nat.zero_le _, rfl, rfl, hB⟩
  case round =>
    obtain ⟨i, hi, rfl, hw, HBw⟩ := hrel
    by_cases hlt : i < N
    · have di : decide ((i : Int) < (N : Int)) = true := decide_eq_true (by omega)
      obtain ⟨b, o, rfl, hc⟩ : ∃ b o, a = some ⟨b, o, none⟩ ∧ ∀ k, k < N → wr.cell? ⟨b, o + k, none⟩ = some (.int .i64 (zs.getD k 0)) := by
        rcases HR.out with hnil | ⟨b, o, e, hb, hc⟩
        · rw [hnil] at hN; simp at hN; omega
        · exact ⟨b, o, e, fun k hk => (World.cell?_of_block (a := ⟨b, o + k, none⟩) (by rw [hw])).trans (hc k (by omega))⟩
      have c0 := hc i hlt
      obtain ⟨f1, f2, f3⟩ := HZ1.out i (by omega)
      obtain ⟨z, hz⟩ : ∃ z, zs.getD i 0 = z := ⟨_, rfl⟩
      rw [hz] at c0 f1 f2 f3
      have H := Lib.hid (fun w => HAS.out z w (by omega) (by omega))
      rw [f1] at H
      have dz : decide (a0 < z) = false := decide_eq_false (by omega)
      have i0 : (0 : Int) ≤ (i : Int) := by omega
      have wi1 : IntKind.i64.wrap ((i : Int) + 1) = (i : Int) + 1 := IntWalk.i64_in _ (by omega)
      by_cases hp : 0 < i
      · have d0 : decide ((0 : Int) < (i : Int)) = true := decide_eq_true (by omega)
        obtain ⟨j, rfl⟩ : ∃ j, i = j + 1 := ⟨i - 1, by omega⟩
        have c1 := hc j (by omega)
        have hlt2 := HZ2.out j (by omega)
        obtain ⟨y, hy⟩ : ∃ y, zs.getD j 0 = y := ⟨_, rfl⟩
        rw [hy] at c1 hlt2
        rw [hz] at hlt2
        have dy : decide (z ≤ y) = false := decide_eq_false (by omega)
        have wj : IntKind.i64.wrap (((j + 1 : Nat) : Int) - 1) = (j : Int) := by rw [show ((j + 1 : Nat) : Int) - 1 = (j : Int) by omega]; exact IntWalk.i64_in _ (by omega)
        have wj2 : IntKind.i64.wrap ((j : Int) + 1 - 1) = (j : Int) := by rw [show (j : Int) + 1 - 1 = (j : Int) by omega]; exact IntWalk.i64_in _ (by omega)
        have j0 : (0 : Int) ≤ (j : Int) := by omega
        have jN : j < N := by omega
        clear hc
        go_wp2_with fail
        go_quiet ((go_at_call 5; exact quiet_l (H.out _)))
        go_wp2_with fail
        go_roundw
        case rel => exact ⟨j + 1 + 1, by omega, by go_num, hw, Lib.hid (by repeat (first | exact HBw.out | refine below_drewN ?_ _))⟩
        case measure => (first | (simp [intOf]; done) | (simp [intOf]; omega) | (simp only [intOf]; omega))
      · have d0 : decide ((0 : Int) < (i : Int)) = false := decide_eq_false (by omega)
        clear hc
        go_wp2_with fail
        go_quiet ((go_at_call 5; exact quiet_l (H.out _)))
        go_wp2_with fail
        go_roundw
        case rel => exact ⟨i + 1, by omega, by go_num, hw, Lib.hid (by repeat (first | exact HBw.out | refine below_drewN ?_ _))⟩
        case measure => (first | (simp [intOf]; done) | (simp [intOf]; omega) | (simp only [intOf]; omega))
    · obtain rfl : i = N := by omega
      have di : decide ((i : Int) < (i : Int)) = false := decide_eq_false (by omega)
      by_cases hbig : 20000 < a0
      · have db : decide (20000 < a0) = true := decide_eq_true hbig
        have hp : 1 ≤ i := by rw [HNc.out]; exact cntS_pos m (by omega)
        have dp : decide ((0 : Int) < (i : Int)) = true := decide_eq_true (by omega)
        go_wp2_with fail
        refine (LV.out _).mono ?_
        rintro e w3 ⟨rfl, b3⟩
        go_wp2_with fail
        go_ret
        exact ⟨rfl, HBw.out.trans (b3.mono HBw.out.size)⟩
      · have db : decide (20000 < a0) = false := decide_eq_false hbig
        go_wp2_with fail
        obtain ⟨w2, hw2⟩ : ∃ w2, wr = w2 := ⟨_, rfl⟩
        rw [hw2] at HBw ⊢
        clear hw hw2
        go_loopw [5, 6] (fun x y wr => ∃ k : Nat, k ≤ a0.toNat ∧ x = .int .i64 (cntS k : Nat) ∧ y = .int .i64 ((k : Int) + 1) ∧ w2 = wr) (fun _ y _ => (a0 + 1 - intOf y).toNat)
        case atStart => exact ⟨0, Nat.zero_le _, rfl, rfl, rfl⟩
        case round =>
          obtain ⟨k, hk, rfl, rfl, rfl⟩ := hrel
          have hck := cntS_le k
          by_cases hle : (k : Int) + 1 ≤ a0
          · have dk : decide ((k : Int) + 1 ≤ a0) = true := decide_eq_true hle
            have H := Lib.hid (fun w => HAS.out ((k : Int) + 1) w (by omega) (by omega))
            have he : hasb ((k : Int) + 1) = decide ((k + 1) ∣ 18446744069414584320) := by rw [← hasb_of (n := k + 1) (by omega) (by omega)]; rfl
            rw [he] at H
            have hs : cntS (k + 1) = cntS k + (if (k + 1) ∣ 18446744069414584320 then 1 else 0) := rfl
            have wk1 : IntKind.i64.wrap ((k : Int) + 1 + 1) = (k : Int) + 1 + 1 := IntWalk.i64_in _ (by omega)
            have wc : IntKind.i64.wrap ((cntS k : Int) + 1) = (cntS k : Int) + 1 := IntWalk.i64_in _ (by omega)
            by_cases hd : (k + 1) ∣ 18446744069414584320
            · rw [if_pos hd] at hs
              rw [decide_eq_true hd] at H
              have HSS := Lib.hid hs
              clear hs he hd
              go_wp2_with fail
              refine (H.out _).mono ?_
              rintro e w4 ⟨rfl, rfl⟩
              go_wp2_with fail
              go_roundw
              case rel => exact ⟨k + 1, by omega, by rw [HSS.out]; go_num, by go_num, trivial⟩
              case measure => simp only [intOf]; omega
            · rw [if_neg hd, Nat.add_zero] at hs
              rw [decide_eq_false hd] at H
              have HSS := Lib.hid hs
              clear hs he hd
              go_wp2_with fail
              refine (H.out _).mono ?_
              rintro e w4 ⟨rfl, rfl⟩
              go_wp2_with fail
              go_roundw
              case rel => exact ⟨k + 1, by omega, by rw [HSS.out]; rfl, by go_num, trivial⟩
              case measure => simp only [intOf]; omega
          · have dk : decide ((k : Int) + 1 ≤ a0) = false := decide_eq_false hle
            obtain rfl : k = m := by omega
            have de : (((cntS k : Nat) : Int) == (i : Int)) = true := by have h := HNc.out; simp; omega
            go_wp2_with fail
            refine (IS.out _).mono ?_
            rintro e w4 ⟨rfl, rfl⟩
            go_wp2_with fail
            refine (LV.out _).mono ?_
            rintro e w3 ⟨rfl, b3⟩
            go_wp2_with fail
            go_ret
            exact ⟨rfl, HBw.out.trans (b3.mono HBw.out.size)⟩
end rootSizes
end Go.Proofs.Ytcbiennifmfkgaa
