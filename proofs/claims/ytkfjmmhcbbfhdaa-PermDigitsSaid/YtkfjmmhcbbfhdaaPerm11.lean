/- What radices make: reference 8's Product. -/
import Derived.Test.YtkfjmmhcbbfhdaaPerm2
import Derived.Test.YtkfjmmhcbbfhdaaPermg
namespace Go.Proofs.Ytkfjmmhcbbfhdaa
open Go.ChangeShapes Go.WideShapes Go.ChangeAt Go.RowKit
set_option linter.unusedVariables false
/-- What the first k make, unless one is below 2 or they make too much. -/
def pz (xs : List Int) : Nat → Option Nat
  | 0 => some 1
  | k + 1 => match pz xs k with
    | none => none
    | some N => if 2 ≤ xs.getD k 0 ∧ xs.getD k 0 * (N : Int) ≤ 16777216 then some (N * (xs.getD k 0).toNat) else none
theorem pz_yes {xs : List Int} {k N : Nat} (h : pz xs k = some N) (h1 : 2 ≤ xs.getD k 0) (h2 : xs.getD k 0 * (N : Int) ≤ 16777216) : pz xs (k + 1) = some (N * (xs.getD k 0).toNat) := by
  rw [pz, h]; exact if_pos ⟨h1, h2⟩
theorem pz_no {xs : List Int} {k N : Nat} (h : pz xs k = some N) (h1 : ¬ (2 ≤ xs.getD k 0 ∧ xs.getD k 0 * (N : Int) ≤ 16777216)) : pz xs (k + 1) = none := by
  rw [pz, h]; exact if_neg h1
theorem pz_after {xs : List Int} {k m : Nat} (h : pz xs k = none) (hm : k ≤ m) : pz xs m = none := by
  obtain ⟨d, rfl⟩ : ∃ d, m = k + d := ⟨m - k, by omega⟩
  clear hm
  induction d with
  | zero => exact h
  | succ d ih => rw [← Nat.add_assoc, pz, ih]
def pzn (xs : List Int) (m : Nat) : Nat := (pz xs m).getD 0
set_option maxRecDepth 100000 in
theorem r8_product (p : Option Addr) (m c : Nat) (xs : List Int) (W : World) (hs : m ≤ 9223372036854775807)
    (hr : ∀ k, k < m → ∃ b off, p = some ⟨b, off, none⟩ ∧ b < W.heap.size ∧ W.cell? ⟨b, off + k, none⟩ = some (.int .i64 (xs.getD k 0)) ∧ -9223372036854775808 ≤ xs.getD k 0 ∧ xs.getD k 0 ≤ 9223372036854775807) :
    Calls Try.prog 58 #[.slice p m c] W fun e w' => e = .returned (.int .i64 (pzn xs m : Nat)) ∧ Below W.heap.size W w' := by
  have HX := Lib.hid (fun k (hk : k < m) => hr k hk)
  have PY := Lib.hid (fun k N h h1 h2 => pz_yes (xs := xs) (k := k) (N := N) h h1 h2)
  have PN := Lib.hid (fun k N (hk : k < m) h h1 => (show pzn xs m = 0 by unfold pzn; rw [pz_after (pz_no (xs := xs) (k := k) (N := N) h h1) hk]; rfl))
  have PE := Lib.hid (fun N (h : pz xs m = some N) => (show pzn xs m = N by unfold pzn; rw [h]; rfl))
  clear hr
  generalize pzn xs m = z at *
  go_enter Try.func58, Try.ntmps58
  go_wp2_with fail
  go_loopw [3, 4] (fun v i wr => ∃ k N : Nat, k ≤ m ∧ v = .int .i64 N ∧ i = .int .i64 k ∧ Hid (pz xs k = some N) ∧ 1 ≤ N ∧ N ≤ 16777216 ∧ Below W.heap.size W wr) (fun _ i _ => m - (intOf i).toNat)
  case atStart => exact ⟨0, 1, Nat.zero_le _, rfl, rfl, Lib.hid rfl, by omega, by omega, Below.refl _ _⟩
  case round =>
    obtain ⟨k, N, hk, rfl, rfl, HP, n1, n2, hB⟩ := hrel
    by_cases hlt : k < m
    · obtain ⟨b, off, rfl, hb, hc0, x0, x1⟩ := HX.out k hlt
      have hc : wr.cell? ⟨b, off + k, none⟩ = some (.int .i64 (xs.getD k 0)) := (hB.cell (p := ⟨b, off + k, none⟩) hb).trans hc0
      have PY1 := Lib.hid (PY.out k N HP.out)
      have PN1 := Lib.hid (PN.out k N hlt HP.out)
      have dd : decide ((k : Int) < (m : Int)) = true := decide_eq_true (by omega)
      clear hc0
      obtain ⟨x, hx⟩ : ∃ x, xs.getD k 0 = x := ⟨_, rfl⟩
      rw [hx] at hc x0 x1
      have PY1 := Lib.hid (by have := PY1.out; rw [hx] at this; exact this)
      have PN1 := Lib.hid (by have := PN1.out; rw [hx] at this; exact this)
      clear hx
      have hz : ((N : Int) == 0) = false := by simp; omega
      have hz2 : ¬ ((N : Int) = 0) := by omega
      have hz3 : ¬ (N = 0) := by omega
      by_cases c1 : x < 2
      · have d1 : decide (x < 2) = true := decide_eq_true c1
        have E := Lib.hid (PN1.out (by omega))
        clear PY1 PN1
        obtain ⟨q, hq⟩ : ∃ q, (16777216 : Int).tdiv (N : Int) = q := ⟨_, rfl⟩
        go_wp2_with fail
        go_quiet (fail)
        go_wp2_with fail
        go_ret
        exact ⟨by rw [E.out]; rfl, below_drewN hB _⟩
      have d1 : decide (x < 2) = false := decide_eq_false c1
      have q0 := tdiv_le (a := x) (b := (N : Int)) (by omega)
      have qb0 : 0 ≤ (16777216 : Int).tdiv (N : Int) := by rw [Int.tdiv_eq_ediv_of_nonneg (by omega)]; exact Int.ediv_nonneg (by omega) (by omega)
      have qb1 : (16777216 : Int).tdiv (N : Int) ≤ 16777216 := by rw [Int.tdiv_eq_ediv_of_nonneg (by omega)]; exact Int.ediv_le_self _ (by omega)
      obtain ⟨q, hq⟩ : ∃ q, (16777216 : Int).tdiv (N : Int) = q := ⟨_, rfl⟩
      rw [hq] at q0 qb0 qb1
      have hq' : (16777216 : Int) / (N : Int) = q := by rw [← hq, Int.tdiv_eq_ediv_of_nonneg (by omega)]
      have hw : IntKind.i64.wrap q = q := IntWalk.i64_in _ (by omega)
      by_cases c2 : q < x
      · have d2 : decide (q < x) = true := decide_eq_true c2
        have E := Lib.hid (PN1.out (fun h => by have := q0.2 h.2; omega))
        clear PY1 PN1 q0
        go_wp2_with fail
        go_quiet (fail)
        go_wp2_with fail
        go_ret
        exact ⟨by rw [E.out]; rfl, below_drewN hB _⟩
      · have d2 : decide (q < x) = false := decide_eq_false c2
        have hxn := q0.1 (by omega)
        have P1 := Lib.hid (PY1.out (by omega) hxn)
        obtain ⟨v, rfl⟩ : ∃ v : Nat, x = v := ⟨x.toNat, by omega⟩
        rw [Int.toNat_natCast] at P1
        rw [mul_cast, Nat.mul_comm] at hxn
        have hn0 : 1 ≤ N * v := Nat.mul_pos (by omega) (by omega)
        obtain ⟨Y, hY⟩ : ∃ Y, N * v = Y := ⟨_, rfl⟩
        have hw2 : IntKind.i64.wrap ((N : Int) * (v : Int)) = (Y : Int) := by rw [mul_cast, hY]; exact IntWalk.i64_in _ (by omega)
        rw [hY] at P1 hxn hn0
        clear hY PY1 PN1 q0
        go_wp2_with fail
        go_quiet (fail)
        go_wp2_with fail
        go_roundw
        case rel => exact ⟨k + 1, Y, by omega, rfl, by go_num, P1, by omega, by omega, below_drewN hB _⟩
        case measure => (first | (simp [intOf]; done) | (simp [intOf]; omega) | (simp only [intOf]; omega))
    · obtain rfl : k = m := by omega
      have dd : decide ((k : Int) < (k : Int)) = false := decide_eq_false (by omega)
      have E := Lib.hid (PE.out N HP.out)
      go_wp2_with fail
      go_ret
      exact ⟨by rw [E.out]; rfl, hB⟩
end Go.Proofs.Ytkfjmmhcbbfhdaa
