/- Package perm: Good; reference 8: Has, Right, Check, Good, Crt. -/
import Derived.Test.YtblohakflpedoaaPermn
namespace Go.Proofs.Ytblohakflpedoaa
open Go.ChangeShapes Go.WideShapes Go.ChangeAt Go.RowKit
set_option linter.unusedVariables false
theorem perm_crtno (a b z : Int) (W : World) (a1 : a ≤ 9223372036854775807) (b1 : b ≤ 9223372036854775807) (hz : (sidesb a b = false ∧ z = 3) ∨ (sidesb a b = true ∧ gcdz a b ≠ 1 ∧ z = 2)) :
    Calls Try.prog 11 #[.int .i64 a, .int .i64 b] W fun e w' => e = .returned (.tuple #[.slice none 0 0, .int .i64 z]) ∧ Below W.heap.size W w' := by
  have C := Lib.hid (fun w => coprime_no a b z w a1 b1 hz)
  have d : (z != 0) = true := by rcases hz with ⟨_, rfl⟩ | ⟨_, _, rfl⟩ <;> rfl
  clear hz
  go_enter Try.func11, Try.ntmps11
  go_wp2_with fail
  refine (C.out _).mono ?_
  rintro e w1 ⟨rfl, b1⟩
  go_wp2_with fail
  go_ret2
  exact ⟨rfl, b1⟩
set_option maxRecDepth 100000 in
theorem r8_has (p : Option Addr) (n c : Nat) (v : Int) (ps : List Int) (W : World) (hr : RowI W p n ps) :
    Calls Try.prog 14 #[.slice p n c, .int .i64 v] W fun e w' => e = .returned (.int .i64 ((cnt ps v n : Nat) : Int)) ∧ W = w' := by
  have HX := Lib.hid hr
  have hs := hr.small
  have CY := Lib.hid (fun k (h : ps.getD k 0 = v) => (show cnt ps v (k + 1) = cnt ps v k + 1 by rw [cnt, if_pos h]))
  have CN := Lib.hid (fun k (h : ¬ ps.getD k 0 = v) => (show cnt ps v (k + 1) = cnt ps v k by rw [cnt, if_neg h]))
  have CB := cnt_le ps v
  clear hr
  go_enter Try.func14, Try.ntmps14
  go_wp2_with fail
  go_loopw [5, 6] (fun t i wr => ∃ k : Nat, k ≤ n ∧ i = .int .i64 k ∧ t = .int .i64 ((cnt ps v k : Nat) : Int) ∧ W = wr) (fun _ i _ => n - (intOf i).toNat)
  case atStart => refine ⟨0, Nat.zero_le _, rfl, rfl, ?_⟩; first | rfl | trivial
  case round =>
    obtain ⟨k, hk, rfl, rfl, rfl⟩ := hrel
    by_cases hlt : k < n
    · obtain ⟨b, off, rfl, hb, hc, x0, x1⟩ := HX.out.cell hlt
      have CY1 := Lib.hid (CY.out k)
      have CN1 := Lib.hid (CN.out k)
      have cb := CB k
      generalize ps.getD k 0 = x at *
      generalize cnt ps v k = q at *
      have hd : decide ((k : Int) < (n : Int)) = true := decide_eq_true (by omega)
      by_cases h0 : x = v
      · have E := CY1.out h0
        have hx : (x == v) = true := by simpa using h0
        clear CY1 CN1 h0
        go_wp2_with fail
        go_roundw
        case rel => refine ⟨k + 1, by omega, by go_num, by rw [E]; go_num, ?_⟩; first | rfl | trivial
        case measure => (first | (simp [intOf]; done) | (simp [intOf]; omega) | (simp only [intOf]; omega))
      · have hx0 : (x == v) = false := by simpa using h0
        have E := CN1.out h0
        clear CY1 CN1 h0
        go_wp2_with fail
        go_roundw
        case rel => refine ⟨k + 1, by omega, by go_num, by rw [E], ?_⟩; first | rfl | trivial
        case measure => (first | (simp [intOf]; done) | (simp [intOf]; omega) | (simp only [intOf]; omega))
    · obtain rfl : k = n := by omega
      have hd : decide ((k : Int) < (k : Int)) = false := decide_eq_false (by omega)
      go_wp2_with fail
      go_ret
      exact ⟨rfl, rfl⟩
set_option maxRecDepth 100000 in
theorem r8_right (p : Option Addr) (n c : Nat) (ps : List Int) (W : World) (hr : RowI W p n ps) :
    Calls Try.prog 6 #[.slice p n c] W fun e w' => e = .returned (.bool (rgt ps n n)) ∧ W = w' := by
  have hs := hr.small
  have H := Lib.hid (fun (v : Nat) => r8_has p n c (v : Int) ps W hr)
  have RY := Lib.hid (fun h => (rgt_cnt ps n).2 h)
  have RN := Lib.hid (fun v (hv : v < n) (h : ¬ cnt ps (v : Int) n = 1) => (show rgt ps n n = false by
    cases e : rgt ps n n with
    | false => rfl
    | true => exact absurd ((rgt_cnt ps n).1 e v hv) h))
  clear hr
  go_enter Try.func6, Try.ntmps6
  go_wp2_with fail
  go_loopw [3] (fun i wr => ∃ k : Nat, k ≤ n ∧ i = .int .i64 k ∧ Hid (∀ v, v < k → cnt ps (v : Int) n = 1) ∧ W = wr) (fun i _ => n - (intOf i).toNat)
  case atStart => refine ⟨0, Nat.zero_le _, rfl, Lib.hid (fun v hv => by omega), ?_⟩; first | rfl | trivial
  case round =>
    obtain ⟨k, hk, rfl, HC, rfl⟩ := hrel
    by_cases hlt : k < n
    · have RN1 := Lib.hid (RN.out k hlt)
      have HC2 := Lib.hid (fun (h : cnt ps (k : Int) n = 1) v (hv : v < k + 1) => (show cnt ps (v : Int) n = 1 by
        by_cases e : v = k
        · rw [e]; exact h
        · exact HC.out v (by omega)))
      have H1 := Lib.hid (H.out k)
      have hd : decide ((k : Int) < (n : Int)) = true := decide_eq_true (by omega)
      generalize cnt ps (k : Int) n = q at *
      go_wp2_with fail
      refine H1.out.mono ?_
      rintro e w1 ⟨rfl, rfl⟩
      by_cases h1 : q = 1
      · subst h1
        have HC3 := Lib.hid (HC2.out rfl)
        clear HC2 RN1 HC
        go_wp2_with fail
        go_roundw
        case rel => refine ⟨k + 1, by omega, by go_num, HC3, ?_⟩; first | rfl | trivial
        case measure => (first | (simp [intOf]; done) | (simp [intOf]; omega) | (simp only [intOf]; omega))
      · have hq : ((q : Int) != 1) = true := by simp; omega
        have E := Lib.hid (RN1.out h1)
        clear HC2 RN1 HC
        go_wp2_with fail
        go_ret
        exact ⟨by rw [E.out]; rfl, rfl⟩
    · obtain rfl : k = n := by omega
      have hd : decide ((k : Int) < (k : Int)) = false := decide_eq_false (by omega)
      have E := Lib.hid (RY.out HC.out)
      go_wp2_with fail
      go_ret
      exact ⟨by rw [E.out]; rfl, rfl⟩
end Go.Proofs.Ytblohakflpedoaa
