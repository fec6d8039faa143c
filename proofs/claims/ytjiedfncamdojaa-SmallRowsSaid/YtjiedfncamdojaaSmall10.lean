/- Package small: Rows, piece by piece; no claim yet. -/
import Derived.Test.YtjiedfncamdojaaSmall9
import Derived.Test.YtjiedfncamdojaaSmall8
namespace Go.Proofs.Ytjiedfncamdojaa
open Go.ChangeShapes Go.WideShapes Go.ChangeAt Go.RowKit
set_option linter.unusedVariables false
/-- The first k pieces of b numbers, transformed, one behind the other. -/
def rowsl (r : Int) (xs : List Int) (b : Nat) : Nat → List Int
  | 0 => []
  | k + 1 => rowsl r xs b k ++ horl r ((xs.drop (k * b)).take b) b
theorem rowsl_len (r : Int) (xs : List Int) (b : Nat) : ∀ k, (rowsl r xs b k).length = k * b
  | 0 => by simp [rowsl]
  | k + 1 => by rw [rowsl, List.length_append, rowsl_len r xs b k, horl_len, Nat.succ_mul]
theorem redl_drop (xs : List Int) (k : Nat) : (redl xs).drop k = redl (xs.drop k) := by unfold redl; rw [List.map_drop]
theorem piece_len (xs : List Int) (b k m : Nat) (hl : xs.length = m * b) (hk : k < m) : ((xs.drop (k * b)).take b).length = b := by
  have : (k + 1) * b ≤ m * b := Nat.mul_le_mul_right _ hk
  rw [Nat.succ_mul] at this
  rw [List.length_take, List.length_drop]; omega
/-- A piece more. -/
theorem rows_put (r : Int) (xs : List Int) (b k m : Nat) (hl : xs.length = m * b) (hk : k < m) :
    putl (rowsl r xs b k ++ redl (xs.drop (k * b))) (k * b) (horl r ((xs.drop (k * b)).take b) b) = rowsl r xs b (k + 1) ++ redl (xs.drop ((k + 1) * b)) := by
  have e := rowsl_len r xs b k
  unfold putl
  have d1 : (rowsl r xs b k ++ redl (xs.drop (k * b))).drop (k * b + b) = redl (xs.drop ((k + 1) * b)) := by
    rw [List.drop_append, List.drop_eq_nil_of_le (by omega), e, List.nil_append, show k * b + b - k * b = b by omega, redl_drop, List.drop_drop, Nat.succ_mul]
  have d2 : (rowsl r xs b k ++ redl (xs.drop (k * b))).take (k * b) = rowsl r xs b k := by
    rw [List.take_append_of_le_length (by omega), List.take_of_length_le (by omega)]
  rw [horl_len, d1, d2, rowsl]
theorem rows_at (r : Int) (xs : List Int) (b k m i : Nat) (hl : xs.length = m * b) (hk : k < m) (hi : i < b) :
    (rowsl r xs b k ++ redl (xs.drop (k * b))).getD (k * b + i) 0 = fm (((xs.drop (k * b)).take b).getD i 0) := by
  have e := rowsl_len r xs b k
  have h1 : (k + 1) * b ≤ m * b := Nat.mul_le_mul_right _ hk
  rw [Nat.succ_mul] at h1
  have h2 : (rowsl r xs b k ++ redl (xs.drop (k * b))).getD (k * b + i) 0 = (redl (xs.drop (k * b))).getD i 0 := by
    simp only [List.getD]
    rw [List.getElem?_append_right (by omega), e, show k * b + i - k * b = i by omega]
  rw [h2, redl_at _ _ (by rw [List.length_drop]; omega)]
  congr 1
  simp only [List.getD]
  rw [List.getElem?_take_of_lt hi]
theorem rows_len (r : Int) (xs : List Int) (b k m : Nat) (hl : xs.length = m * b) (hk : k ≤ m) : (rowsl r xs b k ++ redl (xs.drop (k * b))).length = m * b := by
  have h1 : k * b ≤ m * b := Nat.mul_le_mul_right _ hk
  rw [List.length_append, rowsl_len, redl_len, List.length_drop]; omega
theorem rowsl_wf (r : Int) (xs : List Int) (b : Nat) : ∀ k, ∀ z ∈ rowsl r xs b k, (Lit.int .u64 z).wf = true
  | 0, _, hz => by cases hz
  | k + 1, z, hz => by
    rw [rowsl, List.mem_append] at hz
    rcases hz with hz | hz
    · exact rowsl_wf r xs b k z hz
    · exact horl_wf _ _ _ z hz
set_option maxRecDepth 100000 in
theorem small_rows (n b m : Nat) (p : Option Addr) (c : Nat) (dir : Int) (xs : List Int) (W : World) (hr : Row W p n xs) (hn : n ≤ 60) (hm : n = m * b) (hm0 : 0 < m) (hf : few b = true) (hd : dir = 0 ∨ dir = 1) :
    Calls Try.prog 47 #[.slice p n c, .int .i64 b, .int .i64 dir] W (GivesOk W n (rowsl (rdir b dir) xs b m)) := by
  obtain ⟨f1, f5⟩ := few_ok hf
  have hl := hr.len
  have RD := Lib.hid (c_redown p n c xs W hr)
  have T := Lib.hid (fun (w : World) (B o c : Nat) (ys zs : List Int) (h1 : ys.length = b) (h2 : RowAt w B 24 zs) (h3 : o + b ≤ zs.length) (h4 : ∀ i, i < b → zs.getD (o + i) 0 = fm (ys.getD i 0)) => small_piece b B o c dir ys zs w h1 f1 f5 hd h2 h3 h4)
  have H2 := fun w => small_has b w
  rw [hf] at H2
  have H2 := Lib.hid H2
  have RP := Lib.hid (fun k hk => rows_put (rdir b dir) xs b k m (by rw [hl, hm]) hk)
  have RA := Lib.hid (fun k i hk hi => rows_at (rdir b dir) xs b k m i (by rw [hl, hm]) hk hi)
  have RL := Lib.hid (fun k hk => rows_len (rdir b dir) xs b k m (by rw [hl, hm]) hk)
  have PL := Lib.hid (fun k hk => piece_len xs b k m (by rw [hl, hm]) hk)
  have HM := Lib.hid hm
  have hn0 : 0 < n := by rw [hm]; exact Nat.mul_pos hm0 f1
  have d0 : ((n : Int) == 0) = false := by simp; omega
  have dr : ((n : Int)).tmod (b : Int) = 0 := by rw [show ((n : Int)).tmod (b : Int) = ((n % b : Nat) : Int) from rfl, hm, Nat.mul_mod_left]; rfl
  have db : ((b : Int) == 0) = false := by simp; omega
  have db2 : ¬ ((b : Int) = 0) := by omega
  have db3 : ¬ (b = 0) := by omega
  generalize rdir b dir = r at *
  clear hr hf hm
  rcases hd with rfl | rfl
  all_goals
    go_enter Try.func47, Try.ntmps47
    go_wp2_with fail
    refine (H2.out _).mono ?_
    rintro e w1 ⟨rfl, rfl⟩
    go_wp2_with fail
    refine RD.out.mono ?_
    rintro e w1 ⟨rfl, hq, b1⟩
    have HQ := Lib.hid (show RowAt w1 W.heap.size 24 (rowsl r xs b 0 ++ redl (xs.drop (0 * b))) by rw [Nat.zero_mul]; exact hq)
    have HB := Lib.hid b1
    clear hq b1 RD
    go_wp2_with fail
    go_loopw [9] (fun i wr => ∃ k o : Nat, k ≤ m ∧ Hid (o = k * b) ∧ i = .int .i64 (o : Int) ∧ Hid (RowAt wr W.heap.size 24 (rowsl r xs b k ++ redl (xs.drop (k * b)))) ∧ Hid (Below W.heap.size W wr)) (fun i _ => n - (intOf i).toNat)
    case atStart => exact ⟨0, 0, Nat.zero_le _, Lib.hid (Nat.zero_mul b).symm, rfl, HQ, HB⟩
    case round =>
      clear HQ HB
      obtain ⟨k, o, hk, HO, rfl, HQ, HB⟩ := hrel
      by_cases hlt : k < m
      · have h1 : o + b ≤ n := by
          have : (k + 1) * b ≤ m * b := Nat.mul_le_mul_right _ hlt
          rw [Nat.succ_mul] at this
          rw [HM.out, HO.out]; exact this
        have hz := HQ.out.lt
        have HT := Lib.hid (T.out wr W.heap.size o (n - o) ((xs.drop (k * b)).take b) _ (PL.out k hlt) HQ.out (by rw [RL.out k hk, ← HM.out]; exact h1) (by intro i hi; rw [HO.out]; exact RA.out k i hlt hi))
        have hd1 : decide ((o : Int) < (n : Int)) = true := decide_eq_true (by omega)
        go_wp2_with fail
        refine HT.out.mono ?_
        rintro e w2 ⟨rfl, i2⟩
        have hq := i2.r
        rw [HO.out, RP.out k hlt] at hq
        have HQ2 := Lib.hid hq
        have HB2 := Lib.hid (HB.out.trans (i2.b.b _ (Nat.le_refl _) HB.out.size))
        have HO2 := Lib.hid (show o + b = (k + 1) * b by rw [Nat.succ_mul, ← HO.out])
        clear hq i2 HQ HB HT
        go_wp2_with fail
        go_roundw
        case rel => exact ⟨k + 1, o + b, by omega, HO2, by go_num, HQ2, HB2⟩
        case measure => (first | (simp [intOf]; done) | (simp [intOf]; omega) | (simp only [intOf]; omega))
      · obtain rfl : k = m := by omega
        have ho : o = n := by rw [HO.out, HM.out]
        have E := Lib.hid (show rowsl r xs b k ++ redl (xs.drop (k * b)) = rowsl r xs b k by rw [← HM.out, List.drop_of_length_le (by omega)]; exact List.append_nil _)
        have hd1 : decide ((o : Int) < (n : Int)) = false := decide_eq_false (by omega)
        go_wp2_with fail
        go_ret2
        exact ⟨_, _, rfl, Row.of_at (by rw [← E.out]; exact HQ.out) (rowsl_wf _ _ _ _) (by rw [rowsl_len]; exact HM.out.symm) (by omega), HB.out⟩
set_option maxRecDepth 100000 in
theorem r10_rows (n b m : Nat) (p : Option Addr) (c : Nat) (dir : Int) (xs : List Int) (W : World) (hr : Row W p n xs) (hn : n ≤ 60) (hc : n ≤ c) (hm : n = m * b) (hm0 : 0 < m) (hf : few b = true) (hd : dir = 0 ∨ dir = 1) :
    Calls Try.prog 48 #[.slice p n c, .int .i64 b, .int .i64 dir] W (Gives W n (rowsl (rdir b dir) xs b m)) := by
  obtain ⟨f1, f5⟩ := few_ok hf
  have hl := hr.len
  have PL := Lib.hid (fun k hk => piece_len xs b k m (by rw [hl, hm]) hk)
  have HM := Lib.hid hm
  have hn0 : 0 < n := by rw [hm]; exact Nat.mul_pos hm0 f1
  obtain ⟨pb, off, rfl, _⟩ := hr.cell hn0
  have HX := Lib.hid hr
  have Q := Lib.hid (fun (w : World) (q : Option Addr) (c : Nat) (ys : List Int) h => r6_dft q b c dir ys w h (chk_five f1 f5 hd))
  have RL := Lib.hid (fun k => rowsl_len (rdir b dir) xs b k)
  have hB : Below W.heap.size W W := Below.refl _ _
  generalize rdir b dir = r at *
  clear hr hf hm hd
  go_enter Try.func48, Try.ntmps48
  go_wp2_with fail
  go_loopw [7, 8] (fun v i wr => ∃ k o : Nat, k ≤ m ∧ Hid (o = k * b) ∧ i = .int .i64 (o : Int) ∧ Hid (Owns wr W.heap.size 24 .u64 v (rowsl r xs b k)) ∧ Below W.heap.size W wr) (fun _ i _ => n - (intOf i).toNat)
  case atStart => exact ⟨0, 0, Nat.zero_le _, Lib.hid (Nat.zero_mul b).symm, rfl, Lib.hid (Owns.nil _ _ _ _), hB⟩
  case round =>
    clear hB
    obtain ⟨k, o, hk, HO, rfl, HOW, hB⟩ := hrel
    by_cases hlt : k < m
    · have h1 : o + b ≤ n := by
        have : (k + 1) * b ≤ m * b := Nat.mul_le_mul_right _ hlt
        rw [Nat.succ_mul] at this
        rw [HM.out, HO.out]; exact this
      have HP := Lib.hid (show Row W (some ⟨pb, off + o, none⟩) b ((xs.drop (k * b)).take b) by
        have := (HX.out.drop o (by omega)).take b (by omega)
        rw [HO.out] at this ⊢; exact this)
      have HP2 := Lib.hid (HP.out.below hB)
      have hd1 : decide ((o : Int) < (n : Int)) = true := decide_eq_true (by omega)
      go_wp2_with fail
      refine (Q.out _ _ _ _ HP2.out).mono ?_
      rintro e w2 ⟨q, d, rfl, hq, b1⟩
      have HQ := Lib.hid hq
      have HOW2 := Lib.hid (HOW.out.below b1)
      have hB2 := hB.trans (b1.mono hB.size)
      clear hq b1 HP HP2 HOW hB
      have ho60 : o ≤ 60 := by omega
      have HZ := Lib.hid (show (rowsl r xs b k).length = o by rw [RL.out, HO.out])
      go_wp2_with (at_builtin; refine append_many Try.underlying22 info_u64 rfl _ _ rfl rfl HOW2.out rfl HQ.out.len HQ.out.reads hB2.size (by rw [HZ.out]; omega) (by omega) ?_; intro v' w' hO hb')
      have HO3 := Lib.hid (show Owns w' W.heap.size 24 .u64 v' (rowsl r xs b (k + 1)) from hO)
      have HO2 := Lib.hid (show o + b = (k + 1) * b by rw [Nat.succ_mul, ← HO.out])
      clear hO
      go_wp2_with fail
      go_roundw
      case rel => exact ⟨k + 1, o + b, by omega, HO2, by go_num, HO3, hB2.trans hb'⟩
      case measure => (first | (simp [intOf]; done) | (simp [intOf]; omega) | (simp only [intOf]; omega))
    · obtain rfl : k = m := by omega
      have ho : o = n := by rw [HO.out, HM.out]
      have hd1 : decide ((o : Int) < (n : Int)) = false := decide_eq_false (by omega)
      go_wp2_with fail
      go_ret
      exact gives_own rfl HOW.out hB (rowsl_wf _ _ _ _) (by rw [RL.out]; exact HM.out.symm) (by omega)
theorem rows_no1 (p : Option Addr) (n c : Nat) (b dir : Int) (W : World) (hd : ¬ (dir = 0 ∨ dir = 1)) (hn : n ≤ 60) : Calls Try.prog 47 #[.slice p n c, .int .i64 b, .int .i64 dir] W fun e w' => e = .returned (.tuple #[.slice none 0 0, .int .i64 2]) ∧ W = w' := by
  have d0 : (dir != 0) = true := by simp; omega
  have d1 : (dir != 1) = true := by simp; omega
  go_enter Try.func47, Try.ntmps47
  go_wp2_with fail
  go_ret2
  exact ⟨rfl, rfl⟩
theorem rows_no2 (p : Option Addr) (n c : Nat) (b dir : Int) (W : World) (hd : dir = 0 ∨ dir = 1) (h : few b = false) (hn : n ≤ 60) : Calls Try.prog 47 #[.slice p n c, .int .i64 b, .int .i64 dir] W fun e w' => e = .returned (.tuple #[.slice none 0 0, .int .i64 2]) ∧ W = w' := by
  have H := fun w => small_has b w
  rw [h] at H
  have H := Lib.hid H
  clear h
  rcases hd with rfl | rfl
  all_goals
    go_enter Try.func47, Try.ntmps47
    go_wp2_with fail
    refine (H.out _).mono ?_
    rintro e w1 ⟨rfl, rfl⟩
    go_wp2_with fail
    go_ret2
    exact ⟨rfl, rfl⟩
theorem rows_no3 (p : Option Addr) (n c : Nat) (b : Nat) (dir : Int) (W : World) (hd : dir = 0 ∨ dir = 1) (h : few b = true) (hn : n ≤ 60) (hbad : n = 0 ∨ (0 < n ∧ n % b ≠ 0)) : Calls Try.prog 47 #[.slice p n c, .int .i64 b, .int .i64 dir] W fun e w' => e = .returned (.tuple #[.slice none 0 0, .int .i64 5]) ∧ W = w' := by
  obtain ⟨f1, f5⟩ := few_ok h
  have H := fun w => small_has b w
  rw [h] at H
  have H := Lib.hid H
  have db : ((b : Int) == 0) = false := by simp; omega
  have db2 : ¬ ((b : Int) = 0) := by omega
  have db3 : ¬ (b = 0) := by omega
  clear h
  rcases hbad with rfl | ⟨h0, hne⟩
  · rcases hd with rfl | rfl
    all_goals
      go_enter Try.func47, Try.ntmps47
      go_wp2_with fail
      refine (H.out _).mono ?_
      rintro e w1 ⟨rfl, rfl⟩
      go_wp2_with fail
      go_ret2
      exact ⟨rfl, rfl⟩
  · have d0 : ((n : Int) == 0) = false := by simp; omega
    have dr : (((n : Int)).tmod (b : Int) != 0) = true := by rw [show ((n : Int)).tmod (b : Int) = ((n % b : Nat) : Int) from rfl]; simp; omega
    have dr2 : (((n : Int) % (b : Int)) != 0) = true := dr
    rcases hd with rfl | rfl
    all_goals
      go_enter Try.func47, Try.ntmps47
      go_wp2_with fail
      refine (H.out _).mono ?_
      rintro e w1 ⟨rfl, rfl⟩
      go_wp2_with fail
      go_ret2
      exact ⟨rfl, rfl⟩
end Go.Proofs.Ytjiedfncamdojaa
