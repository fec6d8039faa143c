/- Package perm: Good; reference 8: Has, Right, Check, Good, Crt. -/
import Derived.Test.YtkfjmmhcbbfhdaaPermn
namespace Go.Proofs.Ytkfjmmhcbbfhdaa
open Go.ChangeShapes Go.WideShapes Go.ChangeAt Go.RowKit
set_option linter.unusedVariables false
theorem perm_good (a b : Nat) (W : World) (ha : 1 ≤ a) (hb : 1 ≤ b) (h : a * b ≤ 16777216) (hg : Nat.gcd a b = 1) :
    Calls Try.prog 49 #[.int .i64 a, .int .i64 b] W (GivesIOk W (a * b) (gridl a b b a)) := by
  have a2 : a ≤ a * b := Nat.le_mul_of_pos_right a (by omega)
  have b2 : b ≤ a * b := Nat.le_mul_of_pos_left b (by omega)
  have C := Lib.hid (fun w => coprime_ok a b w (sides_of ha hb h) hg)
  have G := Lib.hid (fun w => perm_grid a b b a w ha hb h (by omega) (by omega))
  have hB : Below W.heap.size W W := Below.refl _ _
  generalize gridl a b b a = ys at *
  generalize a * b = N at *
  clear hg
  go_enter Try.func49, Try.ntmps49
  go_wp2_with fail
  refine (C.out _).mono ?_
  rintro e w1 ⟨rfl, b1⟩
  have hB := hB.trans (b1.mono hB.size); clear b1
  go_wp2_with fail
  refine (G.out _).mono ?_
  rintro e w1 ⟨p, k, rfl, hr, b1⟩
  have HR := Lib.hid hr
  clear hr
  have hB := hB.trans (b1.mono hB.size); clear b1
  go_wp2_with fail
  go_ret2
  exact ⟨_, _, rfl, HR.out, hB⟩
theorem perm_goodno (a b z : Int) (W : World) (a1 : a ≤ 9223372036854775807) (b1 : b ≤ 9223372036854775807) (hz : (sidesb a b = false ∧ z = 3) ∨ (sidesb a b = true ∧ gcdz a b ≠ 1 ∧ z = 2)) :
    Calls Try.prog 49 #[.int .i64 a, .int .i64 b] W fun e w' => e = .returned (.tuple #[.slice none 0 0, .int .i64 z]) ∧ Below W.heap.size W w' := by
  have C := Lib.hid (fun w => coprime_no a b z w a1 b1 hz)
  have d : (z != 0) = true := by rcases hz with ⟨_, rfl⟩ | ⟨_, _, rfl⟩ <;> rfl
  clear hz
  go_enter Try.func49, Try.ntmps49
  go_wp2_with fail
  refine (C.out _).mono ?_
  rintro e w1 ⟨rfl, b1⟩
  go_wp2_with fail
  go_ret2
  exact ⟨rfl, b1⟩
theorem perm_crtno (a b z : Int) (W : World) (a1 : a ≤ 9223372036854775807) (b1 : b ≤ 9223372036854775807) (hz : (sidesb a b = false ∧ z = 3) ∨ (sidesb a b = true ∧ gcdz a b ≠ 1 ∧ z = 2)) :
    Calls Try.prog 50 #[.int .i64 a, .int .i64 b] W fun e w' => e = .returned (.tuple #[.slice none 0 0, .int .i64 z]) ∧ Below W.heap.size W w' := by
  have C := Lib.hid (fun w => coprime_no a b z w a1 b1 hz)
  have d : (z != 0) = true := by rcases hz with ⟨_, rfl⟩ | ⟨_, _, rfl⟩ <;> rfl
  clear hz
  go_enter Try.func50, Try.ntmps50
  go_wp2_with fail
  refine (C.out _).mono ?_
  rintro e w1 ⟨rfl, b1⟩
  go_wp2_with fail
  go_ret2
  exact ⟨rfl, b1⟩
theorem r8_check (a b z : Int) (W : World) (a1 : a ≤ 9223372036854775807) (b1 : b ≤ 9223372036854775807) (hz : (sidesb a b = false ∧ z = 3) ∨ (sidesb a b = true ∧ gcdz a b ≠ 1 ∧ z = 2) ∨ (sidesb a b = true ∧ gcdz a b = 1 ∧ z = 0)) :
    Calls Try.prog 51 #[.int .i64 a, .int .i64 b] W fun e w' => e = .returned (.int .i64 z) ∧ Below W.heap.size W w' := by
  have H := fun w => r8_sides a b w
  have hB : Below W.heap.size W W := Below.refl _ _
  have G := Lib.hid (fun w => r3_gcd a b w a1 b1)
  rcases hz with ⟨hs, rfl⟩ | ⟨hs, hg, rfl⟩ | ⟨hs, hg, rfl⟩
  · rw [hs] at H
    have H := Lib.hid H
    clear hs
    go_enter Try.func51, Try.ntmps51
    go_wp2_with fail
    refine (H.out _).mono ?_
    rintro e w1 ⟨rfl, rfl⟩
    go_wp2_with fail
    go_ret
    exact ⟨rfl, hB⟩
  · rw [hs] at H
    have H := Lib.hid H
    have d : (gcdz a b != 1) = true := by simpa using hg
    clear hs hg
    generalize gcdz a b = g at *
    go_enter Try.func51, Try.ntmps51
    go_wp2_with fail
    refine (H.out _).mono ?_
    rintro e w1 ⟨rfl, rfl⟩
    go_wp2_with fail
    refine (G.out _).mono ?_
    rintro e w1 ⟨rfl, b1⟩
    go_wp2_with fail
    go_ret
    exact ⟨rfl, b1⟩
  · rw [hs] at H
    have H := Lib.hid H
    rw [hg] at G
    clear hs hg
    go_enter Try.func51, Try.ntmps51
    go_wp2_with fail
    refine (H.out _).mono ?_
    rintro e w1 ⟨rfl, rfl⟩
    go_wp2_with fail
    refine (G.out _).mono ?_
    rintro e w1 ⟨rfl, b1⟩
    go_wp2_with fail
    go_ret
    exact ⟨rfl, b1⟩
set_option maxRecDepth 100000 in
theorem r8_has (p : Option Addr) (n c : Nat) (v : Int) (ps : List Int) (W : World) (hr : RowI W p n ps) :
    Calls Try.prog 69 #[.slice p n c, .int .i64 v] W fun e w' => e = .returned (.int .i64 ((cnt ps v n : Nat) : Int)) ∧ W = w' := by
  have HX := Lib.hid hr
  have hs := hr.small
  have CY := Lib.hid (fun k (h : ps.getD k 0 = v) => (show cnt ps v (k + 1) = cnt ps v k + 1 by rw [cnt, if_pos h]))
  have CN := Lib.hid (fun k (h : ¬ ps.getD k 0 = v) => (show cnt ps v (k + 1) = cnt ps v k by rw [cnt, if_neg h]))
  have CB := cnt_le ps v
  clear hr
  go_enter Try.func69, Try.ntmps69
  go_wp2_with fail
  go_loopw [5, 6] (fun t i wr => ∃ k : Nat, k ≤ n ∧ i = .int .i64 k ∧ t = .int .i64 ((cnt ps v k : Nat) : Int) ∧ W = wr) (fun _ i _ => n - (intOf i).toNat)
  case atStart => refine ⟨0, Nat.zero_le _, rfl, rfl, ?_⟩; first | rfl | trivial
  case round =>
    obtain ⟨k, hk, rfl, rfl, rfl⟩ := hrel
    by_cases hlt : k < n
    · obtain ⟨b, off, rfl, hb, hc, x0, x1⟩ := HX.out.cell hlt
      have CY1 := Lib.hid (CY.out k)
      have CN1 := Lib.hid (CN.out k)
      have cb := CB k
      generalize ps.getD k 0 = x at *
      generalize cnt ps v k = q at *
      have hd : decide ((k : Int) < (n : Int)) = true := decide_eq_true (by omega)
      by_cases h0 : x = v
      · have E := CY1.out h0
        have hx : (x == v) = true := by simpa using h0
        clear CY1 CN1 h0
        go_wp2_with fail
        go_roundw
        case rel => refine ⟨k + 1, by omega, by go_num, by rw [E]; go_num, ?_⟩; first | rfl | trivial
        case measure => (first | (simp [intOf]; done) | (simp [intOf]; omega) | (simp only [intOf]; omega))
      · have hx0 : (x == v) = false := by simpa using h0
        have E := CN1.out h0
        clear CY1 CN1 h0
        go_wp2_with fail
        go_roundw
        case rel => refine ⟨k + 1, by omega, by go_num, by rw [E], ?_⟩; first | rfl | trivial
        case measure => (first | (simp [intOf]; done) | (simp [intOf]; omega) | (simp only [intOf]; omega))
    · obtain rfl : k = n := by omega
      have hd : decide ((k : Int) < (k : Int)) = false := decide_eq_false (by omega)
      go_wp2_with fail
      go_ret
      exact ⟨rfl, rfl⟩
set_option maxRecDepth 100000 in
theorem r8_right (p : Option Addr) (n c : Nat) (ps : List Int) (W : World) (hr : RowI W p n ps) :
    Calls Try.prog 43 #[.slice p n c] W fun e w' => e = .returned (.bool (rgt ps n n)) ∧ W = w' := by
  have hs := hr.small
  have H := Lib.hid (fun (v : Nat) => r8_has p n c (v : Int) ps W hr)
  have RY := Lib.hid (fun h => (rgt_cnt ps n).2 h)
  have RN := Lib.hid (fun v (hv : v < n) (h : ¬ cnt ps (v : Int) n = 1) => (show rgt ps n n = false by
    cases e : rgt ps n n with
    | false => rfl
    | true => exact absurd ((rgt_cnt ps n).1 e v hv) h))
  clear hr
  go_enter Try.func43, Try.ntmps43
  go_wp2_with fail
  go_loopw [3] (fun i wr => ∃ k : Nat, k ≤ n ∧ i = .int .i64 k ∧ Hid (∀ v, v < k → cnt ps (v : Int) n = 1) ∧ W = wr) (fun i _ => n - (intOf i).toNat)
  case atStart => refine ⟨0, Nat.zero_le _, rfl, Lib.hid (fun v hv => by omega), ?_⟩; first | rfl | trivial
  case round =>
    obtain ⟨k, hk, rfl, HC, rfl⟩ := hrel
    by_cases hlt : k < n
    · have RN1 := Lib.hid (RN.out k hlt)
      have HC2 := Lib.hid (fun (h : cnt ps (k : Int) n = 1) v (hv : v < k + 1) => (show cnt ps (v : Int) n = 1 by
        by_cases e : v = k
        · rw [e]; exact h
        · exact HC.out v (by omega)))
      have H1 := Lib.hid (H.out k)
      have hd : decide ((k : Int) < (n : Int)) = true := decide_eq_true (by omega)
      generalize cnt ps (k : Int) n = q at *
      go_wp2_with fail
      refine H1.out.mono ?_
      rintro e w1 ⟨rfl, rfl⟩
      by_cases h1 : q = 1
      · subst h1
        have HC3 := Lib.hid (HC2.out rfl)
        clear HC2 RN1 HC
        go_wp2_with fail
        go_roundw
        case rel => refine ⟨k + 1, by omega, by go_num, HC3, ?_⟩; first | rfl | trivial
        case measure => (first | (simp [intOf]; done) | (simp [intOf]; omega) | (simp only [intOf]; omega))
      · have hq : ((q : Int) != 1) = true := by simp; omega
        have E := Lib.hid (RN1.out h1)
        clear HC2 RN1 HC
        go_wp2_with fail
        go_ret
        exact ⟨by rw [E.out]; rfl, rfl⟩
    · obtain rfl : k = n := by omega
      have hd : decide ((k : Int) < (k : Int)) = false := decide_eq_false (by omega)
      have E := Lib.hid (RY.out HC.out)
      go_wp2_with fail
      go_ret
      exact ⟨by rw [E.out]; rfl, rfl⟩
set_option maxRecDepth 100000 in
theorem r8_good (a b : Nat) (W : World) (ha : 1 ≤ a) (hb : 1 ≤ b) (h : a * b ≤ 16777216) :
    Calls Try.prog 52 #[.int .i64 a, .int .i64 b] W (GivesI W (a * b) (gridl a b b a)) := by
  have SA := Lib.hid (fun k hk => gridl_at a b b a k hk)
  have SW := Lib.hid (gridl_wf a b b a h)
  have SL := Lib.hid (gridl_len a b b a)
  have a2 : a ≤ a * b := Nat.le_mul_of_pos_right a (by omega)
  have b2 : b ≤ a * b := Nat.le_mul_of_pos_left b (by omega)
  have hz : ((b : Int) == 0) = false := by simp; omega
  have hz2 : ¬ ((b : Int) = 0) := by omega
  have hz3 : ¬ (b = 0) := by omega
  have KA := Lib.hid (fun k (hk : k < a * b) => (show k / b * b ≤ 16777216 from Nat.le_trans (Nat.div_mul_le_self k b) (by omega)))
  have KB := Lib.hid (fun k => (show k % b * a ≤ 16777216 from Nat.le_trans (Nat.mul_le_mul_right a (Nat.le_of_lt (Nat.mod_lt k (by omega)))) (by rw [Nat.mul_comm]; exact h)))
  have KD := Lib.hid (fun k => (show (k / b * b + k % b * a) % (a * b) = gridn a b b a k from rfl))
  generalize gridl a b b a = ys at *
  obtain ⟨N, hN⟩ : ∃ N, a * b = N := ⟨_, rfl⟩
  rw [hN] at h SA SL a2 b2 KA KD ⊢
  have hw0 : IntKind.i64.wrap ((a : Int) * (b : Int)) = (N : Int) := by rw [mul_cast, hN]; exact IntWalk.i64_in _ (by omega)
  have n0 : 0 < N := by omega
  have nz : ((N : Int) == 0) = false := by simp; omega
  have nz2 : ¬ ((N : Int) = 0) := by omega
  have nz3 : ¬ (N = 0) := by omega
  clear hN
  go_enter Try.func52, Try.ntmps52
  go_wp2_with fail
  go_loopw [5, 6] (fun v i wr => ∃ k : Nat, k ≤ N ∧ i = .int .i64 k ∧ Hid (Owns wr W.heap.size 3 .i64 v (upto ys k)) ∧ Below W.heap.size W wr) (fun _ i _ => N - (intOf i).toNat)
  case atStart => exact ⟨0, Nat.zero_le _, rfl, Lib.hid (Owns.nil _ _ _ _), Below.refl _ _⟩
  case round =>
    obtain ⟨k, hk, rfl, HO, hB⟩ := hrel
    by_cases hlt : k < N
    · have HS := Lib.hid (upto_snoc ys k _ (by rw [SL.out]; exact hlt) (SA.out k hlt))
      have HK := Lib.hid (upto_len ys k (by rw [SL.out]; exact hk))
      have hd : decide ((k : Int) < (N : Int)) = true := decide_eq_true (by omega)
      have c1 := KA.out k hlt
      have c2 := KB.out k
      have c3 := KD.out k
      obtain ⟨q, hq0⟩ : ∃ q, k / b = q := ⟨_, rfl⟩
      obtain ⟨m, hm0⟩ : ∃ m, k % b = m := ⟨_, rfl⟩
      have hm : ((k : Int)).tmod (b : Int) = ((m : Nat) : Int) := by rw [← hm0]; rfl
      have hq : ((k : Int)).tdiv (b : Int) = ((q : Nat) : Int) := by rw [← hq0]; rfl
      have hm' : ((k : Int)) % (b : Int) = ((m : Nat) : Int) := hm
      have hq' : ((k : Int)) / (b : Int) = ((q : Nat) : Int) := hq
      rw [hq0, hm0] at c3
      rw [hq0] at c1
      rw [hm0] at c2
      have hqk : q ≤ k := by rw [← hq0]; exact Nat.div_le_self k b
      obtain ⟨qb, hqb⟩ : ∃ z, q * b = z := ⟨_, rfl⟩
      obtain ⟨ma, hma⟩ : ∃ z, m * a = z := ⟨_, rfl⟩
      rw [hqb] at c1 c3
      rw [hma] at c2 c3
      have hw1 : IntKind.i64.wrap ((q : Nat) : Int) = ((q : Nat) : Int) := IntWalk.i64_in _ (by omega)
      have hw2 : IntKind.i64.wrap (((q : Nat) : Int) * (b : Int)) = ((qb : Nat) : Int) := by rw [mul_cast, hqb]; exact IntWalk.i64_in _ (by omega)
      have hw3 : IntKind.i64.wrap (((m : Nat) : Int) * (a : Int)) = ((ma : Nat) : Int) := by rw [mul_cast, hma]; exact IntWalk.i64_in _ (by omega)
      have hw4 : IntKind.i64.wrap (((qb : Nat) : Int) + ((ma : Nat) : Int)) = ((qb + ma : Nat) : Int) := by rw [IntWalk.i64_in _ (by omega)]; omega
      have hm2 : (((qb + ma : Nat) : Int)).tmod (N : Int) = ((gridn a b b a k : Nat) : Int) := by rw [← c3]; rfl
      have hm3 : (((qb + ma : Nat) : Int)) % (N : Int) = ((gridn a b b a k : Nat) : Int) := hm2
      clear hq0 hm0 hqb hma c3
      generalize gridn a b b a k = y at *
      generalize qb + ma = s at *
      go_wp2_with fail
      go_region_held3 (fun w' => Below W.heap.size W w') (first | exact hB.drew | assumption | exact hB.trans ((((Below.refl _ _).alloc hB.size _)).drew) | exact hB.drew.alloc (by have := hB.size; simp; omega) _ | exact (by assumption : Below W.heap.size W _).trans hb2) (first | (refine step_plain ?_ ?_; rfl; apply wp_append_one (y := (y : Int)) (ys := upto ys k) (H := wr.heap.size) Try.underlying28 info_i64; rfl; rfl; (refine Owns.below HO.out ?_); (focus (go_grown)); rfl; (focus (simp [go_sem]; done)); (focus (have := hB.size; simp; omega)); (focus (rw [HK.out]; omega)); intro v' w' hO hb2))
      have HO2 := Lib.hid (by assumption : Owns _ _ _ _ _ (upto ys k ++ _))
      have hS2 := Lib.hid (by assumption : Below W.heap.size W _)
      go_wp2_with fail
      go_roundw
      case rel => exact ⟨k + 1, by omega, by go_num, by rw [← HS.out]; exact HO2, hS2.out⟩
      case measure => (first | (simp [intOf]; done) | (simp [intOf]; omega) | (simp only [intOf]; omega))
    · obtain rfl : k = N := by omega
      have hd : decide ((k : Int) < (k : Int)) = false := decide_eq_false (by omega)
      go_wp2_with fail
      go_ret
      exact givesI_own rfl (by rw [← upto_full ys k SL.out]; exact HO.out) hB SW.out SL.out (by omega)
end Go.Proofs.Ytkfjmmhcbbfhdaa
