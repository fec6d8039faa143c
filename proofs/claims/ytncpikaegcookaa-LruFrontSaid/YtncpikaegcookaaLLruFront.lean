/- LruFront. By program (genlf.py). -/
import Derived.Test.YtncpikaegcookaaLru
namespace Go.Proofs.Ytncpikaegcookaa
open Go.ChangeShapes Go.WideShapes Go.ChangeAt Go.RowKit
set_option linter.unusedVariables false
set_option linter.unusedSimpArgs false
theorem room_num (r : Nat) (h : r ≤ 255) : 1 + ((r : Int).tmod 64) = ((1 + r % 64 : Nat) : Int) := by
  have : (r : Int).tmod 64 = ((r % 64 : Nat) : Int) := by rw [show (64 : Int) = ((64 : Nat) : Int) from rfl, ← Int.ofNat_tmod]
  rw [this]; omega
def wantN (xs : List Int) (m : Nat) : List Int := (xs.reverse.take m).foldl uqs []
theorem wantN_succ {xs : List Int} {m : Nat} {x : Int} (h : xs.reverse[m]? = some x) : wantN xs (m + 1) = uqs (wantN xs m) x := by
  unfold wantN
  rw [List.take_add_one, h, List.foldl_append]; rfl
theorem wantN_all (xs : List Int) : wantN xs xs.length = recL xs := by
  unfold wantN
  rw [recL_uqs, List.take_of_length_le (by simp)]
theorem wantN_pre (xs : List Int) (m : Nat) : ∃ r, recL xs = wantN xs m ++ r := by
  obtain ⟨r, hr⟩ := uqs_pre (xs.reverse.drop m) (wantN xs m)
  refine ⟨r, ?_⟩
  rw [← hr, recL_uqs]
  unfold wantN
  rw [← List.foldl_append, List.take_append_drop]
theorem wantN_len (xs : List Int) : ∀ m, (wantN xs m).length ≤ m
  | 0 => by simp [wantN]
  | m + 1 => by
    have ih := wantN_len xs m
    cases h : xs.reverse[m]? with
    | none =>
      have : wantN xs (m + 1) = wantN xs m := by unfold wantN; rw [List.take_add_one, h]; simp
      rw [this]; omega
    | some x =>
      rw [wantN_succ h]; unfold uqs; split
      · omega
      · rw [List.length_append, List.length_singleton]; omega
/-- The list's keys and what is wanted are the same. -/
theorem want_end {xs : List Int} {n m : Nat} (hm : m ≤ xs.length) (hl : (wantN xs m).length ≤ n) (h : m = xs.length ∨ (wantN xs m).length = n) : (recL xs).take n = wantN xs m := by
  rcases h with rfl | h
  · rw [← wantN_all, List.take_of_length_le hl]
  · obtain ⟨r, hr⟩ := wantN_pre xs m
    rw [hr, List.take_left' h]
namespace lruFront
set_option maxRecDepth 100000 in
set_option maxHeartbeats 32000000 in
theorem walk (W : World) (a0 : Int) (w0 : 0 ≤ a0 ∧ a0 ≤ 255) (a1 : Option Addr) (n1 c1 : Nat) (w1 : IsRow .i64 W a1 n1 c1) :
    Calls Try.prog 4 #[.int .u8 a0, .slice a1 n1 c1] W fun e W' => e = .returned (.bool true) ∧ Below W.heap.size W W' := by
  have LV := Lib.hid live32
  by_cases h200 : 200 < n1
  · have hd : decide ((n1 : Int) > 200) = true := by simp; omega
    clear w0 w1
    go_enter Try.func4, Try.ntmps4
    go_wp2_with fail
    refine (LV.out W).mono ?_
    rintro e x1 ⟨rfl, hb1⟩
    have HB1 := Lib.hid hb1
    clear hb1
    go_wp2_with fail
    go_ret
    exact ⟨rfl, HB1.out⟩
  · obtain ⟨xs, hxs⟩ := RowI.of_isRow w1 (by omega)
    have HX := Lib.hid hxs
    have HXL := Lib.hid hxs.len
    have HN := Lib.hid (show n1 ≤ 200 by omega)
    obtain ⟨r, rfl⟩ : ∃ r : Nat, a0 = r := ⟨a0.toNat, by omega⟩
    have hr : r ≤ 255 := by omega
    have hrn := room_num r hr
    obtain ⟨n, hn⟩ : ∃ n, 1 + r % 64 = n := ⟨_, rfl⟩
    rw [hn] at hrn
    have HNB := Lib.hid (show 1 ≤ n ∧ n ≤ 64 by omega)
    have CN := Lib.hid (l_new (n : Int) (by have := HNB.out; omega) W)
    have hw0 : wrap64 (r : Int) = (r : Int) := by simp only [wrap64]; omega
    have hw1 : wrap64 (1 + (r : Int).tmod 64) = (n : Int) := by rw [hrn]; have := HNB.out; simp only [wrap64]; omega
    have HW0 := Lib.hid hw0
    have HW1 := Lib.hid hw1
    clear w0 w1 hxs hr hn hw0 hw1 hrn
    go_enter Try.func4, Try.ntmps4
    go_upto_region 4 with fail
    rw [HW0.out, HW1.out]
    generalize (r : Int).tmod 64 = rt
    go_wp2_with fail
    refine (CN.out).mono ?_
    rintro e x1 ⟨Lb, rfl, hL1, hb1⟩
    have HL1 := Lib.hid hL1
    have HB1 := Lib.hid hb1
    clear hL1 hb1
    go_wp2_with fail
    go_loopw [9] (fun x wr => ∃ (i : Nat), x = .int .i64 i ∧ Hid (i ≤ n1) ∧ Hid (∃ s, Lru wr W.heap.size Lb n s ∧ s.map Prod.fst = (recL (xs.take i)).take n ∧ s.length ≤ n) ∧ Hid (Below W.heap.size W wr)) (fun x _ => n1 - (match x with | .int _ n => n.toNat | _ => 0))
    case atStart => exact ⟨0, rfl, Lib.hid (Nat.zero_le _), Lib.hid ⟨[], HL1.out, by simp [recL], by simp⟩, HB1⟩
    case round =>
      obtain ⟨i, rfl, HI, HS, HB⟩ := hrel
      obtain ⟨x2, rfl⟩ : ∃ w, w = wr := ⟨_, rfl⟩
      by_cases hi : i < n1
      · obtain ⟨s, hsL, hsk, hsl⟩ := HS.out
        obtain ⟨b, off, rfl, hb, hc0, y0, y1⟩ := HX.out.cell hi
        obtain ⟨x, hx⟩ : ∃ x, xs.getD i 0 = x := ⟨_, rfl⟩
        rw [hx] at hc0 y0 y1
        have hx2 : xs[i]? = some x := by rw [← hx, List.getD_eq_getElem?_getD, List.getElem?_eq_getElem (by rw [HXL.out]; exact hi)]; rfl
        have hc : x2.cell? ⟨b, off + i, none⟩ = some (.int .i64 x) := (HB.out.cell hb).trans hc0
        have hb2 : b < x2.heap.size := by have := HB.out.size; omega
        have HC0 := Lib.hid hc0
        have HBB := Lib.hid hb
        have CP := Lib.hid (l_put W.heap.size Lb n s x i x2 hsL ⟨y0, y1⟩ (by have := HNB.out; omega))
        obtain ⟨s2, hs2⟩ : ∃ s2, putL (n : Int) s x i = s2 := ⟨_, rfl⟩
        have hk2 := put_keys (n := n) HNB.out.1 (s := s) (k := x) (a := i) (recL_nodup xs i (by rw [HXL.out]; omega)) hsk
        rw [hs2, ← recL_succ hx2] at hk2
        have hl2 : s2.length ≤ n := by
          rcases put_len (n := n) (k := x) (a := i) hsl with h | h
          · rwa [hs2] at h
          · have := HNB.out; omega
        rw [hs2] at CP
        have HK2 := Lib.hid hk2
        have HL2 := Lib.hid hl2
        have hhd : (s2.map Prod.fst).getD 0 0 = x ∧ 1 ≤ s2.length := by
          obtain ⟨m, rfl⟩ : ∃ m, n = m + 1 := ⟨n - 1, by have := HNB.out; omega⟩
          rw [recL_succ hx2, recN, List.take_succ_cons] at hk2
          exact ⟨by rw [hk2]; rfl, by have h9 := congrArg List.length hk2; simp only [List.length_map, List.length_cons] at h9; omega⟩
        have HHD := Lib.hid hhd
        have WR := Lib.hid (show wrap64 ((i : Int) + 1) = ((i + 1 : Nat) : Int) by have := HN.out; simp only [wrap64]; omega)
        clear hs2 hk2 hl2 hhd hx hx2 hsL hsk hsl hc0
        go_wp2_with fail
        refine (CP.out).mono ?_
        rintro e x3 ⟨rfl, hL3, hb3⟩
        have HL3 := Lib.hid hL3
        have HB3 := Lib.hid (HB.out.trans hb3)
        have CK := Lib.hid (l_keys W.heap.size Lb n s2 x3 hL3)
        clear hL3 hb3 hb2 hc
        go_wp2_with fail
        refine (CK.out).mono ?_
        rintro e x4 ⟨p4, c4, rfl, hr4, hb4⟩
        have HB4 := Lib.hid (HB3.out.trans (hb4.mono HB3.out.size))
        have HL4 := Lib.hid (HL3.out.below hb4)
        obtain ⟨k4, o4, rfl, hk4, hc4, -, -⟩ := hr4.cell (k := 0) (by have := HHD.out; omega)
        rw [HHD.out.1, Nat.add_zero] at hc4
        have hcx : x4.drew.cell? ⟨b, off + i, none⟩ = some (.int .i64 x) := (HB4.out.cell (p := ⟨b, off + i, none⟩) HBB.out).trans HC0.out
        have HCX := Lib.hid hcx
        have HC4 := Lib.hid (show x4.drew.cell? ⟨k4, o4, none⟩ = some (.int .i64 x) from hc4)
        have hz : ((s2.length : Int) == 0) = false := by have := HHD.out.2; simp only [beq_eq_false_iff_ne, ne_eq]; omega
        have hz1 : (0 : Int) < (s2.length : Int) := by have := HHD.out; omega
        have hz2 : 0 < s2.length := by have := HHD.out; omega
        have hzn := HL2.out
        have hii : (i : Int) < (n1 : Int) := by omega
        clear hr4 hb4 hc4 hcx
        go_upto_region 13 with fail
        refine wp_region_held_drew (S := fun w' => w' = x4.drew) (by kernel_rfl) rfl (fun hHeld => ?_)
        refine wpAnyH_take (i := 0) (v := ?v18) rfl (by kernel_rfl) (by kernel_rfl) (by kernel_rfl) (fun _ _ _ h => h) (Or.inl ⟨by kernel_rfl, ?hy18⟩) (by assumption) ?rest18
        case hy18 => intro w hSw; subst hSw; go_simp; (first | done | with_reducible rfl)
        (try simp only [Act.put, List.getElem_toArray, List.getElem_cons_zero, List.getElem_cons_succ, List.setIfInBounds_toArray, List.set_cons_zero, List.set_cons_succ])
        refine wpAnyH_take (i := 1) (v := ?v19) rfl (by kernel_rfl) (by kernel_rfl) (by kernel_rfl) (fun _ _ _ h => h) (Or.inl ⟨by kernel_rfl, ?hy19⟩) (by assumption) ?rest19
        case hy19 => intro w hSw; subst hSw; go_simp; (first | done | with_reducible rfl)
        (try simp only [Act.put, List.getElem_toArray, List.getElem_cons_zero, List.getElem_cons_succ, List.setIfInBounds_toArray, List.set_cons_zero, List.set_cons_succ])
        refine wpAnyH_take (i := 2) (v := .bool false) rfl (by kernel_rfl) (by kernel_rfl) (by kernel_rfl) (fun _ _ _ h => h) (Or.inl ⟨by kernel_rfl, ?hy20⟩) (by assumption) ?rest20
        case hy20 => intro w hSw; subst hSw; go_simp; (first | done | with_reducible rfl)
        (try simp only [Act.put, List.getElem_toArray, List.getElem_cons_zero, List.getElem_cons_succ, List.setIfInBounds_toArray, List.set_cons_zero, List.set_cons_succ])
        refine wpAnyH_take (i := 3) (v := ?v21) rfl (by kernel_rfl) (by kernel_rfl) (by kernel_rfl) (fun _ _ _ h => h) (Or.inl ⟨by kernel_rfl, ?hy21⟩) (by assumption) ?rest21
        case hy21 => intro w hSw; subst hSw; go_simp; (first | done | with_reducible rfl)
        (try simp only [Act.put, List.getElem_toArray, List.getElem_cons_zero, List.getElem_cons_succ, List.setIfInBounds_toArray, List.set_cons_zero, List.set_cons_succ])
        refine wpAnyH_take (i := 4) (v := ?v22) rfl (by kernel_rfl) (by kernel_rfl) (by kernel_rfl) (fun _ _ _ h => h) (Or.inl ⟨by kernel_rfl, ?hy22⟩) (by assumption) ?rest22
        case hy22 => intro w hSw; subst hSw; go_simp; (first | done | with_reducible rfl)
        (try simp only [Act.put, List.getElem_toArray, List.getElem_cons_zero, List.getElem_cons_succ, List.setIfInBounds_toArray, List.set_cons_zero, List.set_cons_succ])
        refine wpAnyH_take (i := 5) (v := ?v23) rfl (by kernel_rfl) (by kernel_rfl) (by kernel_rfl) (fun _ _ _ h => h) (Or.inl ⟨by kernel_rfl, ?hy23⟩) (by assumption) ?rest23
        case hy23 => intro w hSw; subst hSw; go_simp; (first | done | with_reducible rfl)
        (try simp only [Act.put, List.getElem_toArray, List.getElem_cons_zero, List.getElem_cons_succ, List.setIfInBounds_toArray, List.set_cons_zero, List.set_cons_succ])
        refine wpAnyH_take (i := 6) (v := ?v24) rfl (by kernel_rfl) (by kernel_rfl) (by kernel_rfl) (fun _ _ _ h => h) (Or.inl ⟨by kernel_rfl, ?hy24⟩) (by assumption) ?rest24
        case hy24 => intro w hSw; subst hSw; have hcl := HC4.out; go_simp; (first | done | with_reducible rfl)
        (try simp only [Act.put, List.getElem_toArray, List.getElem_cons_zero, List.getElem_cons_succ, List.setIfInBounds_toArray, List.set_cons_zero, List.set_cons_succ])
        refine wpAnyH_take (i := 7) (v := ?v25) rfl (by kernel_rfl) (by kernel_rfl) (by kernel_rfl) (fun _ _ _ h => h) (Or.inl ⟨by kernel_rfl, ?hy25⟩) (by assumption) ?rest25
        case hy25 => intro w hSw; subst hSw; go_simp; (first | done | with_reducible rfl)
        (try simp only [Act.put, List.getElem_toArray, List.getElem_cons_zero, List.getElem_cons_succ, List.setIfInBounds_toArray, List.set_cons_zero, List.set_cons_succ])
        refine wpAnyH_take (i := 8) (v := ?v26) rfl (by kernel_rfl) (by kernel_rfl) (by kernel_rfl) (fun _ _ _ h => h) (Or.inl ⟨by kernel_rfl, ?hy26⟩) (by assumption) ?rest26
        case hy26 => intro w hSw; subst hSw; go_simp; (first | done | with_reducible rfl)
        (try simp only [Act.put, List.getElem_toArray, List.getElem_cons_zero, List.getElem_cons_succ, List.setIfInBounds_toArray, List.set_cons_zero, List.set_cons_succ])
        refine wpAnyH_take (i := 9) (v := ?v27) rfl (by kernel_rfl) (by kernel_rfl) (by kernel_rfl) (fun _ _ _ h => h) (Or.inl ⟨by kernel_rfl, ?hy27⟩) (by assumption) ?rest27
        case hy27 => intro w hSw; subst hSw; go_simp; (first | done | with_reducible rfl)
        (try simp only [Act.put, List.getElem_toArray, List.getElem_cons_zero, List.getElem_cons_succ, List.setIfInBounds_toArray, List.set_cons_zero, List.set_cons_succ])
        refine wpAnyH_take (i := 10) (v := ?v28) rfl (by kernel_rfl) (by kernel_rfl) (by kernel_rfl) (fun _ _ _ h => h) (Or.inl ⟨by kernel_rfl, ?hy28⟩) (by assumption) ?rest28
        case hy28 => intro w hSw; subst hSw; have hcl := HCX.out; go_simp; (first | done | with_reducible rfl)
        (try simp only [Act.put, List.getElem_toArray, List.getElem_cons_zero, List.getElem_cons_succ, List.setIfInBounds_toArray, List.set_cons_zero, List.set_cons_succ])
        refine wpAnyH_take (i := 11) (v := .bool false) rfl (by kernel_rfl) (by kernel_rfl) (by kernel_rfl) (fun _ _ _ h => h) (Or.inl ⟨by kernel_rfl, ?hy29⟩) (by assumption) ?rest29
        case hy29 => intro w hSw; subst hSw; go_simp; (first | done | with_reducible rfl)
        (try simp only [Act.put, List.getElem_toArray, List.getElem_cons_zero, List.getElem_cons_succ, List.setIfInBounds_toArray, List.set_cons_zero, List.set_cons_succ])
        refine wpAnyH_take (i := 12) (v := ?v30) rfl (by kernel_rfl) (by kernel_rfl) (by kernel_rfl) (fun _ _ _ h => h) (Or.inl ⟨by kernel_rfl, ?hy30⟩) (by assumption) ?rest30
        case hy30 => intro w hSw; subst hSw; go_simp; (first | done | with_reducible rfl)
        (try simp only [Act.put, List.getElem_toArray, List.getElem_cons_zero, List.getElem_cons_succ, List.setIfInBounds_toArray, List.set_cons_zero, List.set_cons_succ])
        refine wpAnyH_take (i := 13) (v := ?v31) rfl (by kernel_rfl) (by kernel_rfl) (by kernel_rfl) (fun _ _ _ h => h) (Or.inl ⟨by kernel_rfl, ?hy31⟩) (by assumption) ?rest31
        case hy31 => intro w hSw; subst hSw; go_simp; (first | done | with_reducible rfl)
        (try simp only [Act.put, List.getElem_toArray, List.getElem_cons_zero, List.getElem_cons_succ, List.setIfInBounds_toArray, List.set_cons_zero, List.set_cons_succ])
        refine wpAnyH_take (i := 14) (v := ?v32) rfl (by kernel_rfl) (by kernel_rfl) (by kernel_rfl) (fun _ _ _ h => h) (Or.inl ⟨by kernel_rfl, ?hy32⟩) (by assumption) ?rest32
        case hy32 => intro w hSw; subst hSw; go_simp; (first | done | with_reducible rfl)
        (try simp only [Act.put, List.getElem_toArray, List.getElem_cons_zero, List.getElem_cons_succ, List.setIfInBounds_toArray, List.set_cons_zero, List.set_cons_succ])
        refine wpAnyH_take (i := 15) (v := ?v33) rfl (by kernel_rfl) (by kernel_rfl) (by kernel_rfl) (fun _ _ _ h => h) (Or.inl ⟨by kernel_rfl, ?hy33⟩) (by assumption) ?rest33
        case hy33 => intro w hSw; subst hSw; go_simp; (first | done | with_reducible rfl)
        (try simp only [Act.put, List.getElem_toArray, List.getElem_cons_zero, List.getElem_cons_succ, List.setIfInBounds_toArray, List.set_cons_zero, List.set_cons_succ])
        refine wpAnyH_take (i := 16) (v := ?v34) rfl (by kernel_rfl) (by kernel_rfl) (by kernel_rfl) (fun _ _ _ h => h) (Or.inl ⟨by kernel_rfl, ?hy34⟩) (by assumption) ?rest34
        case hy34 => intro w hSw; subst hSw; go_simp; (first | done | with_reducible rfl)
        (try simp only [Act.put, List.getElem_toArray, List.getElem_cons_zero, List.getElem_cons_succ, List.setIfInBounds_toArray, List.set_cons_zero, List.set_cons_succ])
        refine wpAnyH_take (i := 17) (v := .bool false) rfl (by kernel_rfl) (by kernel_rfl) (by kernel_rfl) (fun _ _ _ h => h) (Or.inl ⟨by kernel_rfl, ?hy35⟩) (by assumption) ?rest35
        case hy35 => intro w hSw; subst hSw; go_simp; (first | done | with_reducible rfl)
        (try simp only [Act.put, List.getElem_toArray, List.getElem_cons_zero, List.getElem_cons_succ, List.setIfInBounds_toArray, List.set_cons_zero, List.set_cons_succ])
        refine wpAnyH_take (i := 18) (v := ?v36) rfl (by kernel_rfl) (by kernel_rfl) (by kernel_rfl) (fun _ _ _ h => h) (Or.inl ⟨by kernel_rfl, ?hy36⟩) (by assumption) ?rest36
        case hy36 => intro w hSw; subst hSw; go_simp; (first | done | with_reducible rfl)
        (try simp only [Act.put, List.getElem_toArray, List.getElem_cons_zero, List.getElem_cons_succ, List.setIfInBounds_toArray, List.set_cons_zero, List.set_cons_succ])
        refine wpAnyH_done (by kernel_rfl) ?_ _
        clear hHeld
        go_wp2_with fail
        go_roundw
        case rel => exact ⟨i + 1, by first | rw [WR.out] | simp, Lib.hid hi, Lib.hid ⟨s2, HL4.out.below ((Below.refl _ _).drew), HK2.out, HL2.out⟩, Lib.hid (HB4.out.trans ((Below.refl _ _).drew))⟩
        case measure => first | exact meas_step n1 i hi | (rw [WR.out]; exact meas_step' n1 i hi) | (simp; omega)
      · have h9 : i = n1 := by have := HI.out; omega
        subst h9
        have hi : ¬ i < i := by omega
        obtain ⟨s, hsL, hsk, hsl⟩ := HS.out
        rw [show xs.take i = xs from List.take_of_length_le (by rw [HXL.out]; omega)] at hsk
        have HSL := Lib.hid hsL
        have HSK := Lib.hid hsk
        clear hsL hsk hsl HS
        have WS := Lib.hid (show wrap64 ((i : Int) - 1) = (i : Int) - 1 - ((0 : Nat) : Int) by have := HN.out; simp only [wrap64]; omega)
        have HREV := Lib.hid (show ∀ m, m < i → xs.reverse[m]? = some (xs.getD (i - 1 - m) 0) from fun m hm => by
          have hl : i - 1 - m < xs.length := by rw [HXL.out]; omega
          rw [List.getElem?_reverse (by rw [HXL.out]; exact hm), HXL.out, List.getD_eq_getElem?_getD, List.getElem?_eq_getElem hl]; rfl)
        go_upto_region 16 with fail
        go_loopw [11, 8, 12, 13] (fun x v _ _ wr => ∃ (m : Nat), x = .int .i64 ((i : Int) - 1 - m) ∧ Hid (m ≤ i) ∧ Hid (Owns wr W.heap.size 3 .i64 v (wantN xs m)) ∧ Hid ((wantN xs m).length ≤ n) ∧ Hid (Lru wr W.heap.size Lb n s) ∧ Hid (Below W.heap.size W wr)) (fun x _ _ _ _ => (match x with | .int _ n => (n + 1).toNat | _ => 0))
        case atStart => exact ⟨0, by simp, Lib.hid (Nat.zero_le _), Lib.hid (Owns.nil _ _ _ _), Lib.hid (Nat.zero_le _), HSL, HB⟩
        case round =>
          obtain ⟨m, rfl, HM, HO, HWL, HLL, HBB⟩ := hrel
          obtain ⟨x5, rfl⟩ : ∃ w, w = wr := ⟨_, rfl⟩
          obtain ⟨va, vc, rfl, hvr, hvl, hvm⟩ := HO.out.shape
          by_cases hm : m < i
          · obtain ⟨q, hq⟩ : ∃ q : Nat, i - 1 - m = q := ⟨_, rfl⟩
            rw [show (i : Int) - 1 - m = (q : Int) by omega]
            by_cases hw : (wantN xs m).length < n
            · have hqi : q < i := by omega
              obtain ⟨b, off, rfl, hb, hc0, y0, y1⟩ := HX.out.cell hqi
              obtain ⟨y, hy⟩ : ∃ y, xs.getD q 0 = y := ⟨_, rfl⟩
              rw [hy] at hc0
              have HRV := Lib.hid (show wantN xs (m + 1) = uqs (wantN xs m) y from wantN_succ (by rw [HREV.out m hm, hq, hy]))
              obtain ⟨wl, hwl⟩ : ∃ wl, wantN xs m = wl := ⟨_, rfl⟩
              rw [hwl] at HO HWL hvr hvl hw HRV ⊢
              have HVR := Lib.hid hvr
              have HCY := Lib.hid (show ∀ u, Below W.heap.size W u → u.cell? ⟨b, off + q, none⟩ = some (.int .i64 y) from fun u hu => (hu.cell (p := ⟨b, off + q, none⟩) hb).trans hc0)
              have HBL := Lib.hid hb
              have hqi2 : (q : Int) < (i : Int) := by omega
              have HWLT := Lib.hid hw
              have hqq : (0 : Int) ≤ (q : Int) := by omega
              have HQ := Lib.hid hq
              have HMI := Lib.hid hm
              have HLEN := Lib.hid (show wl.length ≤ 200 by have := wantN_len xs m; rw [hwl] at this; have := HN.out; omega)
              have HVL := Lib.hid hvl
              have HYY := Lib.hid (And.intro y0 y1)
              clear hc0 y0 y1 hy hwl hvr hvm hq hm
              go_upto_region 20 with fail
              go_loopw [13, 12] (fun x t wr2 => ∃ (k : Nat), x = .int .i64 k ∧ t = .bool (decide (y ∈ wl.take k)) ∧ Hid (k ≤ wl.length) ∧ Hid (Below x5.heap.size x5 wr2)) (fun x _ _ => wl.length - (match x with | .int _ n => n.toNat | _ => 0))
              case atStart => exact ⟨0, rfl, by simp, Lib.hid (Nat.zero_le _), Lib.hid (Below.refl _ _)⟩
              case round =>
                obtain ⟨k, rfl, rfl, HKK, HB6⟩ := hrel
                obtain ⟨x6, rfl⟩ : ∃ w, w = wr := ⟨_, rfl⟩
                have HB6W := Lib.hid (HBB.out.trans (HB6.out.mono HBB.out.size))
                by_cases hk : k < wl.length
                · obtain ⟨z, hz⟩ : ∃ z, wl[k]? = some z := ⟨_, List.getElem?_eq_getElem hk⟩
                  have WRK := Lib.hid (show wrap64 ((k : Int) + 1) = ((k + 1 : Nat) : Int) by have := HLEN.out; simp only [wrap64]; omega)
                  have hki : (k : Int) < (wl.length : Int) := by omega
                  have TK := Lib.hid (show wl.take (k + 1) = wl.take k ++ [z] by rw [List.take_add_one, hz]; rfl)
                  have hbl6 : b < x6.heap.size := by have := HB6W.out.size; have := HBL.out; omega
                  obtain ⟨vb, vo, rfl, hvb, hvc⟩ : ∃ vb vo, va = some ⟨vb, vo, none⟩ ∧ vb < x5.heap.size ∧ x5.cell? ⟨vb, vo + k, none⟩ = some (.int .i64 z) := by
                    rcases HVR.out with h | ⟨vb, vo, h1, h2, h3⟩
                    · rw [h] at hk; simp at hk
                    · refine ⟨vb, vo, h1, h2, ?_⟩
                      have := h3 k hk
                      rw [List.getD_eq_getElem?_getD, hz] at this
                      exact this
                  have hvb6 : vb < x6.heap.size := by have := HB6.out.size; omega
                  have HC1 := Lib.hid (show x6.drew.cell? ⟨vb, vo + k, none⟩ = some (.int .i64 z) from (HB6.out.cell (p := ⟨vb, vo + k, none⟩) hvb).trans hvc)
                  have HC2 := Lib.hid (show x6.drew.cell? ⟨b, off + q, none⟩ = some (.int .i64 y) from HCY.out x6 HB6W.out)
                  clear hvc hz
                  by_cases hin : y ∈ wl.take k
                  · have hd : decide (y ∈ wl.take k) = true := by simp [hin]
                    have hd2 : decide (y ∈ wl.take (k + 1)) = true := by rw [TK.out]; simp [hin]
                    rw [hd]
                    clear hd hin
                    go_upto_region 22 with fail
                    refine wp_region_held_drew (S := fun w' => w' = x6.drew) (by kernel_rfl) rfl (fun hHeld => ?_)
                    refine wpAnyH_take (i := 0) (v := ?v1) rfl (by kernel_rfl) (by kernel_rfl) (by kernel_rfl) (fun _ _ _ h => h) (Or.inl ⟨by kernel_rfl, ?hy1⟩) (by assumption) ?rest1
                    case hy1 => intro w hSw; subst hSw; go_simp; (first | done | with_reducible rfl)
                    (try simp only [Act.put, List.getElem_toArray, List.getElem_cons_zero, List.getElem_cons_succ, List.setIfInBounds_toArray, List.set_cons_zero, List.set_cons_succ])
                    refine wpAnyH_take (i := 1) (v := ?v2) rfl (by kernel_rfl) (by kernel_rfl) (by kernel_rfl) (fun _ _ _ h => h) (Or.inl ⟨by kernel_rfl, ?hy2⟩) (by assumption) ?rest2
                    case hy2 => intro w hSw; subst hSw; go_simp; (first | done | with_reducible rfl)
                    (try simp only [Act.put, List.getElem_toArray, List.getElem_cons_zero, List.getElem_cons_succ, List.setIfInBounds_toArray, List.set_cons_zero, List.set_cons_succ])
                    refine wpAnyH_take (i := 2) rfl (by kernel_rfl) (by kernel_rfl) (by kernel_rfl) (fun _ _ _ h => h) (Or.inr ⟨by kernel_rfl, rfl⟩) (by assumption) ?_
                    (try simp only [Act.put, List.getElem_toArray, List.getElem_cons_zero, List.getElem_cons_succ, List.setIfInBounds_toArray, List.set_cons_zero, List.set_cons_succ])
                    refine wpAnyH_take (i := 3) rfl (by kernel_rfl) (by kernel_rfl) (by kernel_rfl) (fun _ _ _ h => h) (Or.inr ⟨by kernel_rfl, rfl⟩) (by assumption) ?_
                    (try simp only [Act.put, List.getElem_toArray, List.getElem_cons_zero, List.getElem_cons_succ, List.setIfInBounds_toArray, List.set_cons_zero, List.set_cons_succ])
                    refine wpAnyH_take (i := 4) rfl (by kernel_rfl) (by kernel_rfl) (by kernel_rfl) (fun _ _ _ h => h) (Or.inr ⟨by kernel_rfl, rfl⟩) (by assumption) ?_
                    (try simp only [Act.put, List.getElem_toArray, List.getElem_cons_zero, List.getElem_cons_succ, List.setIfInBounds_toArray, List.set_cons_zero, List.set_cons_succ])
                    refine wpAnyH_take (i := 5) rfl (by kernel_rfl) (by kernel_rfl) (by kernel_rfl) (fun _ _ _ h => h) (Or.inr ⟨by kernel_rfl, rfl⟩) (by assumption) ?_
                    (try simp only [Act.put, List.getElem_toArray, List.getElem_cons_zero, List.getElem_cons_succ, List.setIfInBounds_toArray, List.set_cons_zero, List.set_cons_succ])
                    refine wpAnyH_take (i := 6) rfl (by kernel_rfl) (by kernel_rfl) (by kernel_rfl) (fun _ _ _ h => h) (Or.inr ⟨by kernel_rfl, rfl⟩) (by assumption) ?_
                    (try simp only [Act.put, List.getElem_toArray, List.getElem_cons_zero, List.getElem_cons_succ, List.setIfInBounds_toArray, List.set_cons_zero, List.set_cons_succ])
                    refine wpAnyH_take (i := 7) rfl (by kernel_rfl) (by kernel_rfl) (by kernel_rfl) (fun _ _ _ h => h) (Or.inr ⟨by kernel_rfl, rfl⟩) (by assumption) ?_
                    (try simp only [Act.put, List.getElem_toArray, List.getElem_cons_zero, List.getElem_cons_succ, List.setIfInBounds_toArray, List.set_cons_zero, List.set_cons_succ])
                    refine wpAnyH_take (i := 8) rfl (by kernel_rfl) (by kernel_rfl) (by kernel_rfl) (fun _ _ _ h => h) (Or.inr ⟨by kernel_rfl, rfl⟩) (by assumption) ?_
                    (try simp only [Act.put, List.getElem_toArray, List.getElem_cons_zero, List.getElem_cons_succ, List.setIfInBounds_toArray, List.set_cons_zero, List.set_cons_succ])
                    refine wpAnyH_take (i := 9) rfl (by kernel_rfl) (by kernel_rfl) (by kernel_rfl) (fun _ _ _ h => h) (Or.inr ⟨by kernel_rfl, rfl⟩) (by assumption) ?_
                    (try simp only [Act.put, List.getElem_toArray, List.getElem_cons_zero, List.getElem_cons_succ, List.setIfInBounds_toArray, List.set_cons_zero, List.set_cons_succ])
                    refine wpAnyH_take (i := 10) rfl (by kernel_rfl) (by kernel_rfl) (by kernel_rfl) (fun _ _ _ h => h) (Or.inr ⟨by kernel_rfl, rfl⟩) (by assumption) ?_
                    (try simp only [Act.put, List.getElem_toArray, List.getElem_cons_zero, List.getElem_cons_succ, List.setIfInBounds_toArray, List.set_cons_zero, List.set_cons_succ])
                    refine wpAnyH_take (i := 11) (v := ?v3) rfl (by kernel_rfl) (by kernel_rfl) (by kernel_rfl) (fun _ _ _ h => h) (Or.inl ⟨by kernel_rfl, ?hy3⟩) (by assumption) ?rest3
                    case hy3 => intro w hSw; subst hSw; go_simp; (first | done | with_reducible rfl)
                    (try simp only [Act.put, List.getElem_toArray, List.getElem_cons_zero, List.getElem_cons_succ, List.setIfInBounds_toArray, List.set_cons_zero, List.set_cons_succ])
                    refine wpAnyH_take (i := 12) (v := ?v4) rfl (by kernel_rfl) (by kernel_rfl) (by kernel_rfl) (fun _ _ _ h => h) (Or.inl ⟨by kernel_rfl, ?hy4⟩) (by assumption) ?rest4
                    case hy4 => intro w hSw; subst hSw; go_simp; (first | done | with_reducible rfl)
                    (try simp only [Act.put, List.getElem_toArray, List.getElem_cons_zero, List.getElem_cons_succ, List.setIfInBounds_toArray, List.set_cons_zero, List.set_cons_succ])
                    refine wpAnyH_done (by kernel_rfl) ?_ _
                    clear hHeld
                    go_wp2_with fail
                    go_roundw
                    case rel => exact ⟨k + 1, by first | rw [WRK.out] | simp, by rw [hd2], Lib.hid hk, Lib.hid (HB6.out.trans ((Below.refl _ _).drew))⟩
                    case measure => first | exact meas_step wl.length k hk | (rw [WRK.out]; exact meas_step' wl.length k hk) | (simp; omega)
                  · have hd : decide (y ∈ wl.take k) = false := by simp [hin]
                    have hd2 : decide (y ∈ wl.take (k + 1)) = (z == y) := by
                      rw [TK.out, Bool.eq_iff_iff]
                      simp only [decide_eq_true_eq, List.mem_append, List.mem_singleton, beq_iff_eq]
                      exact ⟨fun h => h.elim (fun h => absurd h hin) Eq.symm, fun h => .inr h.symm⟩
                    rw [hd]
                    clear hd hin
                    go_upto_region 22 with fail
                    refine wp_region_held_drew (S := fun w' => w' = x6.drew) (by kernel_rfl) rfl (fun hHeld => ?_)
                    refine wpAnyH_take (i := 0) (v := ?v5) rfl (by kernel_rfl) (by kernel_rfl) (by kernel_rfl) (fun _ _ _ h => h) (Or.inl ⟨by kernel_rfl, ?hy5⟩) (by assumption) ?rest5
                    case hy5 => intro w hSw; subst hSw; go_simp; (first | done | with_reducible rfl)
                    (try simp only [Act.put, List.getElem_toArray, List.getElem_cons_zero, List.getElem_cons_succ, List.setIfInBounds_toArray, List.set_cons_zero, List.set_cons_succ])
                    refine wpAnyH_take (i := 1) (v := ?v6) rfl (by kernel_rfl) (by kernel_rfl) (by kernel_rfl) (fun _ _ _ h => h) (Or.inl ⟨by kernel_rfl, ?hy6⟩) (by assumption) ?rest6
                    case hy6 => intro w hSw; subst hSw; go_simp; (first | done | with_reducible rfl)
                    (try simp only [Act.put, List.getElem_toArray, List.getElem_cons_zero, List.getElem_cons_succ, List.setIfInBounds_toArray, List.set_cons_zero, List.set_cons_succ])
                    refine wpAnyH_take (i := 2) (v := ?v7) rfl (by kernel_rfl) (by kernel_rfl) (by kernel_rfl) (fun _ _ _ h => h) (Or.inl ⟨by kernel_rfl, ?hy7⟩) (by assumption) ?rest7
                    case hy7 => intro w hSw; subst hSw; go_simp; (first | done | with_reducible rfl)
                    (try simp only [Act.put, List.getElem_toArray, List.getElem_cons_zero, List.getElem_cons_succ, List.setIfInBounds_toArray, List.set_cons_zero, List.set_cons_succ])
                    refine wpAnyH_take (i := 3) (v := ?v8) rfl (by kernel_rfl) (by kernel_rfl) (by kernel_rfl) (fun _ _ _ h => h) (Or.inl ⟨by kernel_rfl, ?hy8⟩) (by assumption) ?rest8
                    case hy8 => intro w hSw; subst hSw; go_simp; (first | done | with_reducible rfl)
                    (try simp only [Act.put, List.getElem_toArray, List.getElem_cons_zero, List.getElem_cons_succ, List.setIfInBounds_toArray, List.set_cons_zero, List.set_cons_succ])
                    refine wpAnyH_take (i := 4) (v := ?v9) rfl (by kernel_rfl) (by kernel_rfl) (by kernel_rfl) (fun _ _ _ h => h) (Or.inl ⟨by kernel_rfl, ?hy9⟩) (by assumption) ?rest9
                    case hy9 => intro w hSw; subst hSw; go_simp; (first | done | with_reducible rfl)
                    (try simp only [Act.put, List.getElem_toArray, List.getElem_cons_zero, List.getElem_cons_succ, List.setIfInBounds_toArray, List.set_cons_zero, List.set_cons_succ])
                    refine wpAnyH_take (i := 5) (v := ?v10) rfl (by kernel_rfl) (by kernel_rfl) (by kernel_rfl) (fun _ _ _ h => h) (Or.inl ⟨by kernel_rfl, ?hy10⟩) (by assumption) ?rest10
                    case hy10 => intro w hSw; subst hSw; have hcl := HC1.out; go_simp; (first | done | with_reducible rfl)
                    (try simp only [Act.put, List.getElem_toArray, List.getElem_cons_zero, List.getElem_cons_succ, List.setIfInBounds_toArray, List.set_cons_zero, List.set_cons_succ])
                    refine wpAnyH_take (i := 6) (v := ?v11) rfl (by kernel_rfl) (by kernel_rfl) (by kernel_rfl) (fun _ _ _ h => h) (Or.inl ⟨by kernel_rfl, ?hy11⟩) (by assumption) ?rest11
                    case hy11 => intro w hSw; subst hSw; go_simp; (first | done | with_reducible rfl)
                    (try simp only [Act.put, List.getElem_toArray, List.getElem_cons_zero, List.getElem_cons_succ, List.setIfInBounds_toArray, List.set_cons_zero, List.set_cons_succ])
                    refine wpAnyH_take (i := 7) (v := ?v12) rfl (by kernel_rfl) (by kernel_rfl) (by kernel_rfl) (fun _ _ _ h => h) (Or.inl ⟨by kernel_rfl, ?hy12⟩) (by assumption) ?rest12
                    case hy12 => intro w hSw; subst hSw; go_simp; (first | done | with_reducible rfl)
                    (try simp only [Act.put, List.getElem_toArray, List.getElem_cons_zero, List.getElem_cons_succ, List.setIfInBounds_toArray, List.set_cons_zero, List.set_cons_succ])
                    refine wpAnyH_take (i := 8) (v := ?v13) rfl (by kernel_rfl) (by kernel_rfl) (by kernel_rfl) (fun _ _ _ h => h) (Or.inl ⟨by kernel_rfl, ?hy13⟩) (by assumption) ?rest13
                    case hy13 => intro w hSw; subst hSw; go_simp; (first | done | with_reducible rfl)
                    (try simp only [Act.put, List.getElem_toArray, List.getElem_cons_zero, List.getElem_cons_succ, List.setIfInBounds_toArray, List.set_cons_zero, List.set_cons_succ])
                    refine wpAnyH_take (i := 9) (v := ?v14) rfl (by kernel_rfl) (by kernel_rfl) (by kernel_rfl) (fun _ _ _ h => h) (Or.inl ⟨by kernel_rfl, ?hy14⟩) (by assumption) ?rest14
                    case hy14 => intro w hSw; subst hSw; have hcl := HC2.out; go_simp; (first | done | with_reducible rfl)
                    (try simp only [Act.put, List.getElem_toArray, List.getElem_cons_zero, List.getElem_cons_succ, List.setIfInBounds_toArray, List.set_cons_zero, List.set_cons_succ])
                    refine wpAnyH_take (i := 10) (v := ?v15) rfl (by kernel_rfl) (by kernel_rfl) (by kernel_rfl) (fun _ _ _ h => h) (Or.inl ⟨by kernel_rfl, ?hy15⟩) (by assumption) ?rest15
                    case hy15 => intro w hSw; subst hSw; go_simp; (first | done | with_reducible rfl)
                    (try simp only [Act.put, List.getElem_toArray, List.getElem_cons_zero, List.getElem_cons_succ, List.setIfInBounds_toArray, List.set_cons_zero, List.set_cons_succ])
                    refine wpAnyH_take (i := 11) (v := ?v16) rfl (by kernel_rfl) (by kernel_rfl) (by kernel_rfl) (fun _ _ _ h => h) (Or.inl ⟨by kernel_rfl, ?hy16⟩) (by assumption) ?rest16
                    case hy16 => intro w hSw; subst hSw; go_simp; (first | done | with_reducible rfl)
                    (try simp only [Act.put, List.getElem_toArray, List.getElem_cons_zero, List.getElem_cons_succ, List.setIfInBounds_toArray, List.set_cons_zero, List.set_cons_succ])
                    refine wpAnyH_take (i := 12) (v := ?v17) rfl (by kernel_rfl) (by kernel_rfl) (by kernel_rfl) (fun _ _ _ h => h) (Or.inl ⟨by kernel_rfl, ?hy17⟩) (by assumption) ?rest17
                    case hy17 => intro w hSw; subst hSw; go_simp; (first | done | with_reducible rfl)
                    (try simp only [Act.put, List.getElem_toArray, List.getElem_cons_zero, List.getElem_cons_succ, List.setIfInBounds_toArray, List.set_cons_zero, List.set_cons_succ])
                    refine wpAnyH_done (by kernel_rfl) ?_ _
                    clear hHeld
                    go_wp2_with fail
                    go_roundw
                    case rel => exact ⟨k + 1, by first | rw [WRK.out] | simp, by rw [hd2], Lib.hid hk, Lib.hid (HB6.out.trans ((Below.refl _ _).drew))⟩
                    case measure => first | exact meas_step wl.length k hk | (rw [WRK.out]; exact meas_step' wl.length k hk) | (simp; omega)
                · have h8 : k = wl.length := by have := HKK.out; omega
                  subst h8
                  have hk : ¬ wl.length < wl.length := by omega
                  rw [List.take_length]
                  have hbl6 : b < x6.heap.size := by have := HB6W.out.size; have := HBL.out; omega
                  have HCX2 := Lib.hid (HCY.out x6 HB6W.out)
                  have hcx := HCX2.out
                  have HO6 := Lib.hid (show Owns x6 W.heap.size 3 .i64 (.slice va wl.length vc) wl from HO.out.below HB6.out)
                  have HL6 := Lib.hid (HLL.out.below HB6.out)
                  have WQ := Lib.hid (show wrap64 ((q : Int) - 1) = (i : Int) - 1 - ((m + 1 : Nat) : Int) by have := HQ.out; have := HMI.out; have := HN.out; simp only [wrap64]; omega)
                  have WQ2 := Lib.hid (show (q : Int) - 1 = (i : Int) - 1 - ((m + 1 : Nat) : Int) by have := HQ.out; have := HMI.out; omega)
                  have HMS := Lib.hid (show ((i : Int) - 1 - ((m + 1 : Nat) : Int) + 1).toNat < ((q : Int) + 1).toNat by have := HQ.out; have := HMI.out; omega)
                  by_cases hin : y ∈ wl
                  · have hd : decide (y ∈ wl) = true := by simp [hin]
                    have HU := Lib.hid (show wantN xs (m + 1) = wl by rw [HRV.out]; unfold uqs; rw [if_pos hin])
                    rw [hd]
                    clear hd hin
                    go_wp2_with fail
                    go_roundw
                    case rel => exact ⟨m + 1, by first | rw [WQ.out] | rw [WQ2.out], Lib.hid HMI.out, by rw [HU.out]; exact HO6, by rw [HU.out]; exact HWL, HL6, HB6W⟩
                    case measure => first | exact HMS.out | (rw [WQ.out]; exact HMS.out) | (rw [WQ2.out]; exact HMS.out)
                  · have hd : decide (y ∈ wl) = false := by simp [hin]
                    have HU := Lib.hid (show wantN xs (m + 1) = wl ++ [y] by rw [HRV.out]; unfold uqs; rw [if_neg hin])
                    rw [hd]
                    clear hd hin
                    go_wp2_with (at_builtin; refine append_one_b Try.underlying30 info_i64 rfl _ _ rfl rfl HO6.out rfl HB6W.out.size (by have := HLEN.out; omega) ?_; intro v' x7 hO7 hb7 hk7)
                    go_roundw
                    case rel => exact ⟨m + 1, by first | rw [WQ.out] | rw [WQ2.out], Lib.hid HMI.out, by rw [HU.out]; exact Lib.hid hO7, by rw [HU.out]; exact Lib.hid (by have := HWLT.out; rw [List.length_append, List.length_singleton]; omega), Lib.hid (HL6.out.own HO6.out hk7), Lib.hid (HB6W.out.trans hb7)⟩
                    case measure => first | exact HMS.out | (rw [WQ.out]; exact HMS.out) | (rw [WQ2.out]; exact HMS.out)
            · have hwn : (wantN xs m).length = n := by have := HWL.out; omega
              have hqq : (0 : Int) ≤ (q : Int) := by omega
              have HWN := Lib.hid hwn
              have hwi : ¬ (((wantN xs m).length : Nat) : Int) < (n : Int) := by omega
              have hwz : decide ((((wantN xs m).length : Nat) : Int) < (n : Int)) = false := decide_eq_false hwi
              clear hwn hw
              have HWE := Lib.hid (show s.map Prod.fst = wantN xs m by rw [HSK.out]; exact want_end (by rw [HXL.out]; exact HM.out) HWL.out (.inr HWN.out))
              have CK := Lib.hid (l_keys W.heap.size Lb n s x5 HLL.out)
              have HVR := Lib.hid hvr
              have HLEN := Lib.hid (wantN_len xs m)
              clear hvr hvl hvm
              go_wp2_with fail
              refine (CK.out).mono ?_
              rintro e x8 ⟨p8, c8, rfl, hr8, hb8⟩
              have HB8 := Lib.hid (HBB.out.trans (hb8.mono HBB.out.size))
              have C8 := Lib.hid (show Calls Try.prog 18 #[.slice p8 s.length c8, .slice va (wantN xs m).length vc] x8 fun e w' => e = .returned (.bool true) ∧ Below x8.heap.size x8 w' from by
                have := r3_samei p8 va c8 vc (s.map Prod.fst) (wantN xs m) x8 hr8.reads (readsI_below HVR.out hb8) (by have := hr8.len; have := hr8.small; omega)
                rw [decide_eq_true HWE.out, List.length_map] at this
                exact this)
              clear hr8 hb8
              go_wp2_with fail
              refine (C8.out).mono ?_
              rintro e x9 ⟨rfl, hb9⟩
              have HB9 := Lib.hid (HB8.out.trans (hb9.mono HB8.out.size))
              clear hb9
              go_wp2_with fail
              refine (LV.out _).mono ?_
              rintro e x10 ⟨rfl, hb10⟩
              have HB10 := Lib.hid (HB9.out.trans (hb10.mono HB9.out.size))
              clear hb10
              go_wp2_with fail
              go_ret
              exact ⟨rfl, HB10.out⟩
          · have hmi : m = i := by have := HM.out; omega
            have HMI := Lib.hid hmi
            rw [show (i : Int) - 1 - m = -1 by omega]
            clear hm hmi
            have HWE := Lib.hid (show s.map Prod.fst = wantN xs m by rw [HSK.out]; exact want_end (by rw [HXL.out]; exact HM.out) HWL.out (.inl (by rw [HXL.out]; exact HMI.out)))
            have CK := Lib.hid (l_keys W.heap.size Lb n s x5 HLL.out)
            have HVR := Lib.hid hvr
            have HLEN := Lib.hid (wantN_len xs m)
            clear hvr hvl hvm
            go_wp2_with fail
            refine (CK.out).mono ?_
            rintro e x8 ⟨p8, c8, rfl, hr8, hb8⟩
            have HB8 := Lib.hid (HBB.out.trans (hb8.mono HBB.out.size))
            have C8 := Lib.hid (show Calls Try.prog 18 #[.slice p8 s.length c8, .slice va (wantN xs m).length vc] x8 fun e w' => e = .returned (.bool true) ∧ Below x8.heap.size x8 w' from by
              have := r3_samei p8 va c8 vc (s.map Prod.fst) (wantN xs m) x8 hr8.reads (readsI_below HVR.out hb8) (by have := hr8.len; have := hr8.small; omega)
              rw [decide_eq_true HWE.out, List.length_map] at this
              exact this)
            clear hr8 hb8
            go_wp2_with fail
            refine (C8.out).mono ?_
            rintro e x9 ⟨rfl, hb9⟩
            have HB9 := Lib.hid (HB8.out.trans (hb9.mono HB8.out.size))
            clear hb9
            go_wp2_with fail
            refine (LV.out _).mono ?_
            rintro e x10 ⟨rfl, hb10⟩
            have HB10 := Lib.hid (HB9.out.trans (hb10.mono HB9.out.size))
            clear hb10
            go_wp2_with fail
            go_ret
            exact ⟨rfl, HB10.out⟩
end lruFront
end Go.Proofs.Ytncpikaegcookaa
