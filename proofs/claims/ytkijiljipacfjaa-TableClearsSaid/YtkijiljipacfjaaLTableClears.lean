/- TableClears: for every row of words: noughts of as many places, and whether a row is noughts alone. -/
import Derived.Test.YtkijiljipacfjaaTable
namespace Go.Proofs.Ytkijiljipacfjaa
open Go.ChangeShapes Go.WideShapes Go.ChangeAt Go.RowKit
set_option linter.unusedVariables false
namespace tableClears
/-- How many of the first k numbers are 0. -/
def cntz (xs : List Int) : Nat → Nat
  | 0 => 0
  | k + 1 => if xs.getD k 0 = 0 then cntz xs k + 1 else cntz xs k
theorem cntz_le (xs : List Int) : ∀ k, cntz xs k ≤ k
  | 0 => Nat.le_refl _
  | k + 1 => by have := cntz_le xs k; rw [cntz]; split <;> omega
theorem cntz_full (xs : List Int) : ∀ k, cntz xs k = k → ∀ j, j < k → xs.getD j 0 = 0
  | 0, _, j, hj => by omega
  | k + 1, h, j, hj => by
    have := cntz_le xs k
    rw [cntz] at h
    by_cases e : xs.getD k 0 = 0
    · rw [if_pos e] at h
      by_cases e2 : j = k
      · rw [e2]; exact e
      · exact cntz_full xs k (by omega) j (by omega)
    · rw [if_neg e] at h; omega
theorem cntz_all (xs : List Int) (h : ∀ j, j < xs.length → xs.getD j 0 = 0) : ∀ k, k ≤ xs.length → cntz xs k = k
  | 0, _ => rfl
  | k + 1, hk => by rw [cntz, if_pos (h k (by omega)), cntz_all xs h k (by omega)]
theorem cntz_allz (xs : List Int) (n : Nat) (hn : xs.length = n) : (((cntz xs n : Nat) : Int) == (n : Int)) = allz xs := by
  by_cases h : ∀ j, j < xs.length → xs.getD j 0 = 0
  · rw [allz_yes h, cntz_all xs h n (by omega)]; simp
  · cases ha : allz xs with
    | true =>
      exfalso
      apply h
      intro j hj
      by_cases e : xs.getD j 0 = 0
      · exact e
      · rw [allz_no hj e] at ha; cases ha
    | false =>
      simp
      intro e
      exact h (fun j hj => cntz_full xs n (by omega) j (by omega))
theorem far (W : World) (a0 : Option Addr) (n c0 : Nat) (h : 200 < n) :
    Calls Try.prog 13 #[.slice a0 n c0] W fun e W' => e = .returned (.bool true) ∧ Below W.heap.size W W' := by
  have g1 : decide (200 < (n : Int)) = true := decide_eq_true (by omega)
  go_enter Try.func13, Try.ntmps13
  go_wp2_with fail
  refine (live16 _).mono ?_
  rintro e w1 ⟨rfl, b1⟩
  go_wp2_with fail
  go_ret
  exact ⟨rfl, b1⟩
set_option maxRecDepth 100000 in
theorem main (W : World) (a0 : Option Addr) (n c0 : Nat) (xs : List Int) (hx : Row W a0 n xs) (hn : n ≤ 200) :
    Calls Try.prog 13 #[.slice a0 n c0] W fun e W' => e = .returned (.bool true) ∧ Below W.heap.size W W' := by
  have g1 : decide (200 < (n : Int)) = false := decide_eq_false (by omega)
  have hmk := make_u64 n (by omega)
  have CL := Lib.hid (fun w => table_clear a0 n c0 w (by omega))
  have CN := Lib.hid (fun p c w h => table_clean p n c (List.replicate n 0) w h)
  have ZZ : allz (List.replicate n 0) = true := allz_yes (fun k hk => by simp at hk; simp [List.getD, hk])
  rw [ZZ] at CN
  have CX := Lib.hid (fun w h => table_clean a0 n c0 xs w h)
  have HQ := cntz_allz xs n hx.len
  have HX := Lib.hid hx
  have CS := Lib.hid (fun k (h : xs.getD k 0 = 0) => (show cntz xs (k + 1) = cntz xs k + 1 by rw [cntz, if_pos h]))
  have CZ := Lib.hid (fun k (h : ¬ xs.getD k 0 = 0) => (show cntz xs (k + 1) = cntz xs k by rw [cntz, if_neg h]))
  have CB := cntz_le xs
  have gnn : ((n : Int) == (n : Int)) = true := by simp
  clear hx ZZ
  generalize allz xs = b at *
  go_enter Try.func13, Try.ntmps13
  go_wp2_with fail
  refine (CL.out _).mono ?_
  rintro e w1 ⟨p1, k1, rfl, h, b1⟩
  have R1 := Lib.hid h
  clear h
  have HX1 := Lib.hid (HX.out.below b1)
  go_wp2_with fail
  go_loopw [4, 5] (fun v i wr => ∃ k : Nat, k ≤ n ∧ i = .int .i64 k ∧ v = .int .i64 ((cntz xs k : Nat) : Int) ∧ w1 = wr) (fun _ i _ => n - (intOf i).toNat)
  case atStart => refine ⟨0, Nat.zero_le _, rfl, rfl, ?_⟩; first | rfl | trivial
  case round =>
    obtain ⟨k, hk, rfl, rfl, rfl⟩ := hrel
    by_cases hlt : k < n
    · obtain ⟨b', off, rfl, hb, hc, x0, x1⟩ := HX1.out.cell hlt
      have CS1 := Lib.hid (CS.out k)
      have CZ1 := Lib.hid (CZ.out k)
      have cb := CB k
      generalize xs.getD k 0 = x at *
      generalize cntz xs k = q at *
      have hd : decide ((k : Int) < (n : Int)) = true := decide_eq_true (by omega)
      by_cases h0 : x = 0
      · subst h0
        have E := CS1.out rfl
        clear CS1 CZ1
        go_wp2_with fail
        go_roundw
        case rel => refine ⟨k + 1, by omega, by go_num, by rw [E]; go_num, ?_⟩; first | rfl | trivial
        case measure => (first | (simp [intOf]; done) | (simp [intOf]; omega) | (simp only [intOf]; omega))
      · have hx0 : (x == 0) = false := by simpa using h0
        have E := CZ1.out h0
        clear CS1 CZ1
        go_wp2_with fail
        go_roundw
        case rel => refine ⟨k + 1, by omega, by go_num, by rw [E], ?_⟩; first | rfl | trivial
        case measure => (first | (simp [intOf]; done) | (simp [intOf]; omega) | (simp only [intOf]; omega))
    · obtain rfl : k = n := by omega
      have hd : decide ((k : Int) < (k : Int)) = false := decide_eq_false (by omega)
      generalize cntz xs k = q at *
      go_wp2_with fail
      refine (CN.out _ _ _ R1.out).mono ?_
      rintro e w2 ⟨rfl, rfl⟩
      have RM := Lib.hid (RowAt.made w1 35 k)
      have R1a := Lib.hid (R1.out.alloc (.cells (Array.replicate k (.int .u64 0)) 35))
      have HXa := Lib.hid (HX1.out.alloc (.cells (Array.replicate k (.int .u64 0)) 35))
      have b2 := b1.alloc b1.size (.cells (Array.replicate k (.int .u64 0)) 35)
      clear R1 HX1 b1
      go_wp2_with fail
      generalize w1.alloc (.cells (Array.replicate k (.int .u64 0)) 35) = w3 at *
      have RMr := Lib.hid (Row.of_at RM.out (fun z hz => by rw [List.eq_of_mem_replicate hz]; decide) (by simp) (show k ≤ 17592186044415 by omega))
      refine (c_same R1a.out RMr.out).mono ?_
      rintro e w4 ⟨rfl, b3⟩
      have b4 := b2.trans (b3.mono b2.size)
      have HXb := Lib.hid (HXa.out.below b3)
      clear b3 b2 HXa
      go_wp2_with fail
      refine (CX.out _ HXb.out).mono ?_
      rintro e w5 ⟨rfl, rfl⟩
      cases b
      all_goals
        go_wp2_with fail
        refine (live16 _).mono ?_
        rintro e w6 ⟨rfl, b5⟩
        have b6 := b4.trans (b5.mono b4.size)
        go_wp2_with fail
        go_ret
        exact ⟨rfl, b6⟩
theorem walk (W : World) (a0 : Option Addr) (n0 c0 : Nat) (w0 : IsRow .u64 W a0 n0 c0) :
    Calls Try.prog 13 #[.slice a0 n0 c0] W fun e W' => e = .returned (.bool true) ∧ Below W.heap.size W W' := by
  by_cases h : 200 < n0
  · exact far W a0 n0 c0 h
  · obtain ⟨xs, hx⟩ := Row.of_isRow w0 (by omega)
    exact main W a0 n0 c0 xs hx (by omega)
end tableClears
end Go.Proofs.Ytkijiljipacfjaa
