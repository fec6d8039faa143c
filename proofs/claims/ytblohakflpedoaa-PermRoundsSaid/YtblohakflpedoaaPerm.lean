/- Package perm: Right, Inverse, Stride; reference 8's. -/
import Derived.Test.YtblohakflpedoaaPermc
import Derived.Test.YtblohakflpedoaaRowb
import Derived.Test.YtblohakflpedoaaSamei
import Derived.Test.YtblohakflpedoaaOwni
namespace Go.Proofs.Ytblohakflpedoaa
open Go.ChangeShapes Go.WideShapes Go.ChangeAt Go.RowKit
set_option linter.unusedVariables false
theorem seen_put (ps : List Int) (n k x : Nat) (h : ps.getD k 0 = x) : (tabb n fun v => sb ps v k).set x true = tabb n fun v => sb ps v (k + 1) := by
  apply tabb_set
  intro j hj
  show sb ps j (k + 1) = _
  rw [sb, h]
  by_cases e : j = x
  · rw [if_pos e, e]; simp
  · rw [if_neg e]
    have : (((x : Nat) : Int) == ((j : Nat) : Int)) = false := by simp; omega
    rw [this, Bool.or_false]
set_option maxRecDepth 100000 in
theorem perm_right (p : Option Addr) (n c : Nat) (ps : List Int) (W : World) (hr : RowI W p n ps) :
    Calls Try.prog 13 #[.slice p n c] W fun e w' => e = .returned (.bool (rgt ps n n)) ∧ Below W.heap.size W w' := by
  have hs := hr.small
  have hmk := make_bool n (by omega)
  have HX := Lib.hid hr
  have NF := Lib.hid (fun k (hk : k < n) (h : rgt ps n (k + 1) = false) => rgt_false (m := n) h (by omega))
  have NS := Lib.hid (fun k => (show rgt ps n (k + 1) = (rgt ps n k && (decide (0 ≤ ps.getD k 0) && decide (ps.getD k 0 < n) && !sb ps (ps.getD k 0) k)) from rfl))
  have SP := Lib.hid (fun k x h => seen_put ps n k x h)
  clear hr
  go_enter Try.func13, Try.ntmps13
  go_wp2_with fail
  go_loopw [11] (fun i wr => ∃ k : Nat, k ≤ n ∧ i = .int .i64 k ∧ Hid (RowAtB wr W.heap.size 4 (tabb n fun v => sb ps v k)) ∧ Hid (rgt ps n k = true) ∧ Below W.heap.size W wr) (fun i _ => n - (intOf i).toNat)
  case atStart => exact ⟨0, Nat.zero_le _, rfl, Lib.hid (by have := RowAtB.made W 4 n; rw [tabb_rep] at this; exact this), Lib.hid rfl, (Below.refl _ _).alloc (Nat.le_refl _) _⟩
  case round =>
    obtain ⟨k, hk, rfl, RB, HG, hB⟩ := hrel
    have hsz := RB.out.lt
    by_cases hlt : k < n
    · obtain ⟨b, off, rfl, hb, hc0, x0, x1⟩ := HX.out.cell hlt
      have hc : wr.cell? ⟨b, off + k, none⟩ = some (.int .i64 (ps.getD k 0)) := (hB.cell (p := ⟨b, off + k, none⟩) hb).trans hc0
      have NS1 := NS.out k
      have NF1 := Lib.hid (NF.out k hlt)
      have SP1 := Lib.hid (fun x h => SP.out k x h)
      rw [HG.out] at NS1
      clear hc0
      obtain ⟨x, hx⟩ : ∃ x, ps.getD k 0 = x := ⟨_, rfl⟩
      rw [hx] at hc x0 x1 NS1
      by_cases c1 : x < 0
      · have d1 : decide (x < 0) = true := decide_eq_true c1
        have E := Lib.hid (NF1.out (by rw [NS1, decide_eq_false (by omega : ¬ 0 ≤ x)]; rfl))
        clear NS1 hx
        go_wp2_with fail
        go_ret
        exact ⟨by rw [E.out]; rfl, hB⟩
      have d1 : decide (x < 0) = false := decide_eq_false c1
      by_cases c2 : (n : Int) ≤ x
      · have d2 : decide ((n : Int) ≤ x) = true := decide_eq_true c2
        have E := Lib.hid (NF1.out (by rw [NS1, decide_eq_false (by omega : ¬ x < n), Bool.and_false]; rfl))
        clear NS1 hx
        go_wp2_with fail
        go_ret
        exact ⟨by rw [E.out]; rfl, hB⟩
      have d2 : decide ((n : Int) ≤ x) = false := decide_eq_false c2
      obtain ⟨v, rfl⟩ : ∃ v : Nat, x = v := ⟨x.toNat, by omega⟩
      have hv : v < n := by omega
      have hv0 : (0 : Int) ≤ (v : Int) := by omega
      have hv1 : (v : Int) < (n : Int) := by omega
      have d3 : decide (n ≤ v) = false := decide_eq_false (by omega)
      have cb := RB.out.cell (k := v) (by rw [tabb_len]; exact hv)
      rw [tabb_at _ _ _ hv] at cb
      have fb := RB.out.free v
      rw [decide_eq_true (by omega : (0 : Int) ≤ (v : Int)), decide_eq_true hv1] at NS1
      cases hse : sb ps (v : Int) k with
      | true =>
        have E := Lib.hid (NF1.out (by rw [NS1, hse]; rfl))
        have cb2 : wr.cell? ⟨W.heap.size, v, none⟩ = some (.bool true) := by rw [cb, hse]
        clear NS1 hx cb SP1
        go_wp2_with fail
        go_ret
        exact ⟨by rw [E.out]; rfl, hB⟩
      | false =>
        have E := Lib.hid (show rgt ps n (k + 1) = true by rw [NS1, hse]; rfl)
        have cb2 : wr.cell? ⟨W.heap.size, v, none⟩ = some (.bool false) := by rw [cb, hse]
        have rb2 := RB.out.set v true
        rw [SP1.out v hx] at rb2
        have RB2 := Lib.hid rb2
        clear NS1 hx cb SP1 rb2
        go_wp2_with fail
        go_roundw
        case rel => exact ⟨k + 1, by omega, by go_num, RB2, E, hB.setCell (Nat.le_refl _) _⟩
        case measure => (first | (simp [intOf]; done) | (simp [intOf]; omega) | (simp only [intOf]; omega))
    · obtain rfl : k = n := by omega
      go_wp2_with fail
      go_ret
      exact ⟨by rw [HG.out]; rfl, hB⟩
theorem inv_put (ps : List Int) (n k x : Nat) (h : ps.getD k 0 = x) : (tab n fun v => ((invl ps v k : Nat) : Int)).set x k = tab n fun v => ((invl ps v (k + 1) : Nat) : Int) := by
  apply tab_set
  intro j hj
  show ((invl ps j (k + 1) : Nat) : Int) = _
  rw [invl, h]
  by_cases e : j = x
  · rw [if_pos (by rw [e]), if_pos e]
  · rw [if_neg (by omega), if_neg e]
theorem inverl_wf (ps : List Int) (n : Nat) (hn : n ≤ 17592186044415) : ∀ z ∈ inverl ps n, (Lit.int .i64 z).wf = true := by
  have le : ∀ (v : Int) k, invl ps v k ≤ k := by
    intro v k
    induction k with
    | zero => exact Nat.le_refl _
    | succ k ih => rw [invl]; split <;> omega
  intro z hz
  unfold inverl tab at hz
  obtain ⟨k, _, rfl⟩ := List.mem_map.1 hz
  have := le k n
  exact WalkArith.wf_i64 ⟨by omega, by omega⟩
def sidesb (a b : Int) : Bool := decide (1 ≤ a ∧ a ≤ 16777216 ∧ 1 ≤ b ∧ b ≤ 16777216 ∧ a * b ≤ 16777216)
theorem sides_yes {a b : Int} (h : sidesb a b = true) : ∃ m n : Nat, a = m ∧ b = n ∧ 1 ≤ m ∧ m ≤ 16777216 ∧ 1 ≤ n ∧ n ≤ 16777216 ∧ m * n ≤ 16777216 := by
  have := of_decide_eq_true h
  refine ⟨a.toNat, b.toNat, by omega, by omega, by omega, by omega, by omega, by omega, ?_⟩
  have e : ((a.toNat * b.toNat : Nat) : Int) = a * b := by rw [Int.natCast_mul, Int.toNat_of_nonneg (by omega), Int.toNat_of_nonneg (by omega)]
  omega
theorem sides_of {m n : Nat} (h1 : 1 ≤ m) (h2 : 1 ≤ n) (h : m * n ≤ 16777216) : sidesb m n = true := by
  apply decide_eq_true
  have e1 : m ≤ m * n := Nat.le_mul_of_pos_right m (by omega)
  have e2 : n ≤ m * n := Nat.le_mul_of_pos_left n (by omega)
  have e : ((m * n : Nat) : Int) = (m : Int) * n := Int.natCast_mul _ _
  omega
theorem mul_bd {a b : Int} (a1 : 1 ≤ a) (a2 : a ≤ 16777216) (b1 : 1 ≤ b) (b2 : b ≤ 16777216) : 1 ≤ a * b ∧ a * b ≤ 281474976710656 := by
  constructor
  · have := Int.mul_le_mul a1 b1 (by omega) (by omega); omega
  · have := Int.mul_le_mul a2 b2 (by omega) (by omega); omega
theorem perm_within (a b : Int) (W : World) :
    Calls Try.prog 16 #[.int .i64 a, .int .i64 b] W fun e w' => e = .returned (.bool (sidesb a b)) ∧ W = w' := by
  by_cases c1 : 1 ≤ a
  case neg =>
    have d1 : decide (1 ≤ a) = false := decide_eq_false c1
    rw [show sidesb a b = false from decide_eq_false (fun h => c1 h.1)]
    go_enter Try.func16, Try.ntmps16
    go_wp2_with fail
    go_ret
    exact ⟨rfl, rfl⟩
  have d1 : decide (1 ≤ a) = true := decide_eq_true c1
  by_cases c2 : 1 ≤ b
  case neg =>
    have d2 : decide (1 ≤ b) = false := decide_eq_false c2
    rw [show sidesb a b = false from decide_eq_false (fun h => c2 h.2.2.1)]
    go_enter Try.func16, Try.ntmps16
    go_wp2_with fail
    go_ret
    exact ⟨rfl, rfl⟩
  have d2 : decide (1 ≤ b) = true := decide_eq_true c2
  by_cases c3 : a ≤ 16777216
  case neg =>
    have d3 : decide (a ≤ 16777216) = false := decide_eq_false c3
    rw [show sidesb a b = false from decide_eq_false (fun h => c3 h.2.1)]
    go_enter Try.func16, Try.ntmps16
    go_wp2_with fail
    go_ret
    exact ⟨rfl, rfl⟩
  have d3 : decide (a ≤ 16777216) = true := decide_eq_true c3
  by_cases c4 : b ≤ 16777216
  case neg =>
    have d4 : decide (b ≤ 16777216) = false := decide_eq_false c4
    rw [show sidesb a b = false from decide_eq_false (fun h => c4 h.2.2.2.1)]
    go_enter Try.func16, Try.ntmps16
    go_wp2_with fail
    go_ret
    exact ⟨rfl, rfl⟩
  have d4 : decide (b ≤ 16777216) = true := decide_eq_true c4
  obtain ⟨m0, m1⟩ := mul_bd c1 c3 c2 c4
  have hw : IntKind.i64.wrap (a * b) = a * b := IntWalk.i64_in _ (by omega)
  have hs : sidesb a b = decide (a * b ≤ 16777216) := by
    unfold sidesb
    congr 1
    apply propext
    constructor
    · exact fun h => h.2.2.2.2
    · exact fun h => ⟨c1, c3, c2, c4, h⟩
  rw [hs]
  clear hs
  by_cases c5 : a * b ≤ 16777216
  · have d5 : decide (a * b ≤ 16777216) = true := decide_eq_true c5
    rw [d5]
    go_enter Try.func16, Try.ntmps16
    go_wp2_with fail
    go_ret
    exact ⟨rfl, rfl⟩
  · have d5 : decide (a * b ≤ 16777216) = false := decide_eq_false c5
    rw [d5]
    go_enter Try.func16, Try.ntmps16
    go_wp2_with fail
    go_ret
    exact ⟨rfl, rfl⟩
theorem tdiv_le {a b : Int} (b1 : 1 ≤ b) : a ≤ (16777216 : Int).tdiv b ↔ a * b ≤ 16777216 := by
  rw [Int.tdiv_eq_ediv_of_nonneg (by omega)]
  exact Int.le_ediv_iff_mul_le (by omega)
end Go.Proofs.Ytblohakflpedoaa
