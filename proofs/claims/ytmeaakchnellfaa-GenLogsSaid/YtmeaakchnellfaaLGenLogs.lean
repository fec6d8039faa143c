/- GenLogs: the log of a product is the sum of both logs, modulo one less than the prime. -/
import Derived.Test.YtmeaakchnellfaaGenl
namespace Go.Proofs.Ytmeaakchnellfaa
open Go.ChangeShapes Go.WideShapes Go.ChangeAt Go.RowKit
set_option linter.unusedVariables false
namespace genLogs
theorem out0 (W : World) (n a b : Int) (hn : n ≤ 9223372036854775807) (h0 : qrb n = false) :
    Calls Try.prog 8 #[.int .i64 n, .int .i64 a, .int .i64 b] W fun e W' => e = .returned (.bool true) ∧ Below W.heap.size W W' := by
  have RI := fun w => r9_is n w hn
  rw [h0] at RI
  have RI := Lib.hid RI
  have hB : Below W.heap.size W W := Below.refl _ _
  go_enter Try.func8, Try.ntmps8
  go_wp2_with fail
  refine (RI.out _).mono ?_
  rintro e w1 ⟨rfl, rfl⟩
  go_wp2_with fail
  refine (live9 _).mono ?_
  rintro e w1 ⟨rfl, b1⟩
  have hB := hB.trans (b1.mono hB.size); clear b1
  go_wp2_with fail
  go_ret
  exact ⟨rfl, hB⟩
theorem out1 (W : World) (n a b : Int) (hn : n ≤ 9223372036854775807) (h0 : qrb n = true) (h1 : 3000 < n) :
    Calls Try.prog 8 #[.int .i64 n, .int .i64 a, .int .i64 b] W fun e W' => e = .returned (.bool true) ∧ Below W.heap.size W W' := by
  have RI := fun w => r9_is n w hn
  rw [h0] at RI
  have RI := Lib.hid RI
  have hB : Below W.heap.size W W := Below.refl _ _
  have d1 : decide (3000 < n) = true := decide_eq_true h1
  go_enter Try.func8, Try.ntmps8
  go_wp2_with fail
  refine (RI.out _).mono ?_
  rintro e w1 ⟨rfl, rfl⟩
  go_wp2_with fail
  refine (live9 _).mono ?_
  rintro e w1 ⟨rfl, b1⟩
  have hB := hB.trans (b1.mono hB.size); clear b1
  go_wp2_with fail
  go_ret
  exact ⟨rfl, hB⟩
theorem out2 (W : World) (n a b : Int) (hn : n ≤ 9223372036854775807) (h0 : qrb n = true) (h1 : ¬ (3000 < n)) (h2 : a < 1) :
    Calls Try.prog 8 #[.int .i64 n, .int .i64 a, .int .i64 b] W fun e W' => e = .returned (.bool true) ∧ Below W.heap.size W W' := by
  have RI := fun w => r9_is n w hn
  rw [h0] at RI
  have RI := Lib.hid RI
  have hB : Below W.heap.size W W := Below.refl _ _
  have d1 : decide (3000 < n) = false := decide_eq_false h1
  have d2 : decide (a < 1) = true := decide_eq_true h2
  go_enter Try.func8, Try.ntmps8
  go_wp2_with fail
  refine (RI.out _).mono ?_
  rintro e w1 ⟨rfl, rfl⟩
  go_wp2_with fail
  refine (live9 _).mono ?_
  rintro e w1 ⟨rfl, b1⟩
  have hB := hB.trans (b1.mono hB.size); clear b1
  go_wp2_with fail
  go_ret
  exact ⟨rfl, hB⟩
theorem out3 (W : World) (n a b : Int) (hn : n ≤ 9223372036854775807) (h0 : qrb n = true) (h1 : ¬ (3000 < n)) (h2 : ¬ (a < 1)) (h3 : n ≤ a) :
    Calls Try.prog 8 #[.int .i64 n, .int .i64 a, .int .i64 b] W fun e W' => e = .returned (.bool true) ∧ Below W.heap.size W W' := by
  have RI := fun w => r9_is n w hn
  rw [h0] at RI
  have RI := Lib.hid RI
  have hB : Below W.heap.size W W := Below.refl _ _
  have d1 : decide (3000 < n) = false := decide_eq_false h1
  have d2 : decide (a < 1) = false := decide_eq_false h2
  have d3 : decide (n ≤ a) = true := decide_eq_true h3
  go_enter Try.func8, Try.ntmps8
  go_wp2_with fail
  refine (RI.out _).mono ?_
  rintro e w1 ⟨rfl, rfl⟩
  go_wp2_with fail
  refine (live9 _).mono ?_
  rintro e w1 ⟨rfl, b1⟩
  have hB := hB.trans (b1.mono hB.size); clear b1
  go_wp2_with fail
  go_ret
  exact ⟨rfl, hB⟩
theorem out4 (W : World) (n a b : Int) (hn : n ≤ 9223372036854775807) (h0 : qrb n = true) (h1 : ¬ (3000 < n)) (h2 : ¬ (a < 1)) (h3 : ¬ (n ≤ a)) (h4 : b < 1) :
    Calls Try.prog 8 #[.int .i64 n, .int .i64 a, .int .i64 b] W fun e W' => e = .returned (.bool true) ∧ Below W.heap.size W W' := by
  have RI := fun w => r9_is n w hn
  rw [h0] at RI
  have RI := Lib.hid RI
  have hB : Below W.heap.size W W := Below.refl _ _
  have d1 : decide (3000 < n) = false := decide_eq_false h1
  have d2 : decide (a < 1) = false := decide_eq_false h2
  have d3 : decide (n ≤ a) = false := decide_eq_false h3
  have d4 : decide (b < 1) = true := decide_eq_true h4
  go_enter Try.func8, Try.ntmps8
  go_wp2_with fail
  refine (RI.out _).mono ?_
  rintro e w1 ⟨rfl, rfl⟩
  go_wp2_with fail
  refine (live9 _).mono ?_
  rintro e w1 ⟨rfl, b1⟩
  have hB := hB.trans (b1.mono hB.size); clear b1
  go_wp2_with fail
  go_ret
  exact ⟨rfl, hB⟩
theorem out5 (W : World) (n a b : Int) (hn : n ≤ 9223372036854775807) (h0 : qrb n = true) (h1 : ¬ (3000 < n)) (h2 : ¬ (a < 1)) (h3 : ¬ (n ≤ a)) (h4 : ¬ (b < 1)) (h5 : n ≤ b) :
    Calls Try.prog 8 #[.int .i64 n, .int .i64 a, .int .i64 b] W fun e W' => e = .returned (.bool true) ∧ Below W.heap.size W W' := by
  have RI := fun w => r9_is n w hn
  rw [h0] at RI
  have RI := Lib.hid RI
  have hB : Below W.heap.size W W := Below.refl _ _
  have d1 : decide (3000 < n) = false := decide_eq_false h1
  have d2 : decide (a < 1) = false := decide_eq_false h2
  have d3 : decide (n ≤ a) = false := decide_eq_false h3
  have d4 : decide (b < 1) = false := decide_eq_false h4
  have d5 : decide (n ≤ b) = true := decide_eq_true h5
  go_enter Try.func8, Try.ntmps8
  go_wp2_with fail
  refine (RI.out _).mono ?_
  rintro e w1 ⟨rfl, rfl⟩
  go_wp2_with fail
  refine (live9 _).mono ?_
  rintro e w1 ⟨rfl, b1⟩
  have hB := hB.trans (b1.mono hB.size); clear b1
  go_wp2_with fail
  go_ret
  exact ⟨rfl, hB⟩
theorem keepL {W1 w w' : World} {p q r : Addr} {x y z : Value} (h0 : W1.cell? p = some x) (h1 : W1.cell? q = some y) (h2 : W1.cell? r = some z) (hS : w.cell? p = some x ∧ w.cell? q = some y ∧ w.cell? r = some z ∧ Below W1.heap.size W1 w) (hb : Below w.heap.size w w') :
    w'.cell? p = some x ∧ w'.cell? q = some y ∧ w'.cell? r = some z ∧ Below W1.heap.size W1 w' := by
  have hB := hS.2.2.2.trans (hb.mono hS.2.2.2.size)
  exact ⟨(hB.cell (World.block_lt_of_cell? W1 p h0)).trans h0, (hB.cell (World.block_lt_of_cell? W1 q h1)).trans h1, (hB.cell (World.block_lt_of_cell? W1 r h2)).trans h2, hB⟩
theorem logs_sum {q g a b : Nat} (hq : isP q) (h : IsMk q g) (a1 : 1 ≤ a) (a2 : a < q) (b1 : 1 ≤ b) (b2 : b < q) :
    ∃ la lb lc c : Nat, a * b % q = c ∧ 1 ≤ c ∧ c < q ∧ la < q - 1 ∧ lb < q - 1 ∧ lc < q - 1 ∧ (inverl (pm1 q g) (q - 1)).getD (a - 1) 0 = (la : Int) ∧ (inverl (pm1 q g) (q - 1)).getD (b - 1) 0 = (lb : Int) ∧ (inverl (pm1 q g) (q - 1)).getD (c - 1) 0 = (lc : Int) ∧ ((la : Int) + (lb : Int) - (lc : Int)).tmod ((q - 1 : Nat) : Int) = 0 := by
  obtain ⟨la, e1, e2, e3⟩ := log_ex hq h a1 a2
  obtain ⟨lb, f1, f2, f3⟩ := log_ex hq h b1 b2
  have hab : g ^ (la + lb) % q = a * b % q := by rw [Nat.pow_add, Nat.mul_mod, e2, f2]
  have hc := pow_pos hq h.one h.lt (la + lb)
  have c2 : a * b % q < q := Nat.mod_lt _ (by omega)
  rw [hab] at hc
  obtain ⟨lc, k1, k2, k3⟩ := log_ex hq h hc.1 c2
  refine ⟨la, lb, lc, _, rfl, hc.1, c2, e1, f1, k1, e3, f3, k3, ?_⟩
  apply Int.tmod_eq_zero_of_dvd
  rcases Nat.le_total lc (la + lb) with hle | hle
  · have := pow_same hq h hle (by rw [k2, hab])
    have e : (la : Int) + (lb : Int) - (lc : Int) = ((la + lb - lc : Nat) : Int) := by omega
    rw [e]; exact Int.natCast_dvd_natCast.2 this
  · have := pow_same hq h hle (by rw [k2, hab])
    have e : (la : Int) + (lb : Int) - (lc : Int) = -((lc - (la + lb) : Nat) : Int) := by omega
    rw [e]; exact Int.dvd_neg.2 (Int.natCast_dvd_natCast.2 this)
set_option maxRecDepth 100000 in
set_option maxHeartbeats 4000000 in
theorem main (W : World) (q a b : Nat) (hq : isP q) (hq2 : q ≤ 3000) (a1 : 1 ≤ a) (a2 : a < q) (b1 : 1 ≤ b) (b2 : b < q) :
    Calls Try.prog 8 #[.int .i64 (q : Int), .int .i64 (a : Int), .int .i64 (b : Int)] W fun e W' => e = .returned (.bool true) ∧ Below W.heap.size W W' := by
  have q0 := hq.1
  have GL := Lib.hid (fun w => gen_logs q w hq (by omega))
  have LS := Lib.hid (fun g (h : IsMk q g) => logs_sum hq h a1 a2 b1 b2)
  have RI := fun w => r9_is (q : Int) w (by omega)
  rw [qrb_of hq (by omega)] at RI
  have RI := Lib.hid RI
  have hB : Below W.heap.size W W := Below.refl _ _
  have d1 : decide (3000 < (q : Int)) = false := decide_eq_false (by omega)
  have d2 : decide ((a : Int) < 1) = false := decide_eq_false (by omega)
  have d3 : decide ((q : Int) ≤ (a : Int)) = false := decide_eq_false (by omega)
  have d4 : decide ((b : Int) < 1) = false := decide_eq_false (by omega)
  have d5 : decide ((q : Int) ≤ (b : Int)) = false := decide_eq_false (by omega)
  have q1 : ((q : Int) == 0) = false := by simp; omega
  have q2 : ¬ ((q : Int) = 0) := by omega
  have q3 : ¬ (q = 0) := by omega
  obtain ⟨n, hn⟩ : ∃ n, q - 1 = n := ⟨_, rfl⟩
  have hni : (q : Int) - 1 = (n : Int) := by omega
  have w0' : IntKind.i64.wrap ((q : Int) - 1) = (n : Int) := by rw [hni]; exact IntWalk.i64_in _ (by omega)
  have wn : IntKind.i64.wrap (n : Int) = (n : Int) := IntWalk.i64_in _ (by omega)
  have en : ((n : Int) == (n : Int)) = true := by simp
  have n1 : ((n : Int) == 0) = false := by simp; omega
  have n2 : ¬ ((n : Int) = 0) := by omega
  have n3 : ¬ (n = 0) := by omega
  go_enter Try.func8, Try.ntmps8
  go_wp2_with fail
  refine (RI.out _).mono ?_
  rintro e w1 ⟨rfl, rfl⟩
  go_wp2_with fail
  refine (GL.out _).mono ?_
  rintro e w1 ⟨g, hg, p1, k1, rfl, hr, b1'⟩
  obtain ⟨la, lb, lc, c, e1, e2, e3, e4, e5, e6, e7, e8, e9, e10⟩ := LS.out g hg
  rw [hn] at hr e4 e5 e6 e7 e8 e9 e10 ⊢
  have R1 := Lib.hid hr
  clear hr hg
  have hB := hB.trans (b1'.mono hB.size)
  clear b1'
  obtain ⟨x, hx⟩ : ∃ x, a - 1 = x := ⟨_, rfl⟩
  obtain ⟨y, hy⟩ : ∃ y, b - 1 = y := ⟨_, rfl⟩
  obtain ⟨z, hz⟩ : ∃ z, c - 1 = z := ⟨_, rfl⟩
  rw [hx] at e7
  rw [hy] at e8
  rw [hz] at e9
  have wx : IntKind.i64.wrap ((a : Int) - 1) = (x : Int) := by rw [show (a : Int) - 1 = (x : Int) by omega]; exact IntWalk.i64_in _ (by omega)
  have wy : IntKind.i64.wrap ((b : Int) - 1) = (y : Int) := by rw [show (b : Int) - 1 = (y : Int) by omega]; exact IntWalk.i64_in _ (by omega)
  have wz : IntKind.i64.wrap ((c : Int) - 1) = (z : Int) := by rw [show (c : Int) - 1 = (z : Int) by omega]; exact IntWalk.i64_in _ (by omega)
  have hxi : (a : Int) - 1 = (x : Int) := by omega
  have hyi : (b : Int) - 1 = (y : Int) := by omega
  have hzi : (c : Int) - 1 = (z : Int) := by omega
  have hxn : x < n := by omega
  have hyn : y < n := by omega
  have hzn : z < n := by omega
  obtain ⟨B, off, rfl, hb1, hc1, _⟩ := R1.out.cell hxn
  obtain ⟨B', off', he, hb2, hc2, _⟩ := R1.out.cell hyn
  cases he
  obtain ⟨B', off', he, hb3, hc3, _⟩ := R1.out.cell hzn
  cases he
  rw [e7] at hc1
  rw [e8] at hc2
  rw [e9] at hc3
  have hab : a * b ≤ 3000 * 3000 := Nat.mul_le_mul (by omega) (by omega)
  obtain ⟨X, hX⟩ : ∃ X, a * b = X := ⟨_, rfl⟩
  rw [hX] at e1
  have w1' : IntKind.i64.wrap ((a : Int) * (b : Int)) = (X : Int) := by
    rw [(Int.natCast_mul a b).symm, hX]; exact IntWalk.i64_in _ (by omega)
  have m1 := natmod X q
  have m1' := natmod' X q
  rw [e1] at m1 m1'
  obtain ⟨S, hS⟩ : ∃ S, la + lb = S := ⟨_, rfl⟩
  have w2 : IntKind.i64.wrap ((la : Int) + (lb : Int)) = (S : Int) := by
    rw [show (la : Int) + (lb : Int) = (S : Int) by omega]; exact IntWalk.i64_in _ (by omega)
  obtain ⟨D, hD⟩ : ∃ D : Int, (S : Int) - (lc : Int) = D := ⟨_, rfl⟩
  have w3 : IntKind.i64.wrap ((S : Int) - (lc : Int)) = D := by rw [hD]; exact IntWalk.i64_in _ (by omega)
  have m2 : D.tmod (n : Int) = 0 := by
    rw [show (la : Int) + (lb : Int) - (lc : Int) = D by omega] at e10; exact e10
  have wx' : IntKind.i64.wrap (x : Int) = (x : Int) := IntWalk.i64_in _ (by omega)
  have wy' : IntKind.i64.wrap (y : Int) = (y : Int) := IntWalk.i64_in _ (by omega)
  have wz' : IntKind.i64.wrap (z : Int) = (z : Int) := IntWalk.i64_in _ (by omega)
  have wc' : IntKind.i64.wrap (c : Int) = (c : Int) := IntWalk.i64_in _ (by omega)
  have w00 : IntKind.i64.wrap 0 = 0 := IntWalk.i64_in _ (by omega)
  have hx0 : (0 : Int) ≤ (x : Int) := by omega
  have hx1 : (x : Int) < (n : Int) := by omega
  have hy0 : (0 : Int) ≤ (y : Int) := by omega
  have hy1 : (y : Int) < (n : Int) := by omega
  have hz0 : (0 : Int) ≤ (z : Int) := by omega
  have hz1 : (z : Int) < (n : Int) := by omega
  clear e1 e7 e8 e9 e10 hx hy hz hX hS hD R1 LS GL RI
  go_wp2_with fail
  go_region_held3 (fun w' => w'.cell? ⟨B, off + x, none⟩ = some (.int .i64 (la : Int)) ∧ w'.cell? ⟨B, off + y, none⟩ = some (.int .i64 (lb : Int)) ∧ w'.cell? ⟨B, off + z, none⟩ = some (.int .i64 (lc : Int)) ∧ Below w1.heap.size w1 w') (first | exact ⟨hc1, hc2, hc3, (Below.refl _ _).drew⟩ | (refine ⟨?_, ?_, ?_, ?_⟩ <;> assumption) | (refine keepL hc1 hc2 hc3 ?_ hb; first | assumption | exact ⟨hc1, hc2, hc3, (Below.refl _ _).drew⟩)) (first | (go_at_call 30; refine (live9 _).mono ?_; rintro e w' ⟨rfl, hb⟩))
  go_wp2_with fail
  go_ret
  exact ⟨rfl, hB.trans ((by assumption : _ ∧ _ ∧ _ ∧ Below w1.heap.size w1 _).2.2.2.mono hB.size)⟩
theorem walk (W : World) (a0 : Int) (w0 : -9223372036854775808 ≤ a0 ∧ a0 ≤ 9223372036854775807) (a1 : Int) (w1 : -9223372036854775808 ≤ a1 ∧ a1 ≤ 9223372036854775807) (a2 : Int) (w2 : -9223372036854775808 ≤ a2 ∧ a2 ≤ 9223372036854775807) :
    Calls Try.prog 8 #[.int .i64 a0, .int .i64 a1, .int .i64 a2] W fun e W' => e = .returned (.bool true) ∧ Below W.heap.size W W' := by
  cases h : qrb a0 with
  | false => exact out0 W a0 a1 a2 w0.2 h
  | true =>
    by_cases h1 : 3000 < a0
    · exact out1 W a0 a1 a2 w0.2 h h1
    by_cases h2 : a1 < 1
    · exact out2 W a0 a1 a2 w0.2 h h1 h2
    by_cases h3 : a0 ≤ a1
    · exact out3 W a0 a1 a2 w0.2 h h1 h2 h3
    by_cases h4 : a2 < 1
    · exact out4 W a0 a1 a2 w0.2 h h1 h2 h3 h4
    by_cases h5 : a0 ≤ a2
    · exact out5 W a0 a1 a2 w0.2 h h1 h2 h3 h4 h5
    obtain ⟨q, rfl, hq, _⟩ := qrb_yes h
    obtain ⟨a, rfl⟩ : ∃ a : Nat, a1 = a := ⟨a1.toNat, by omega⟩
    obtain ⟨b, rfl⟩ : ∃ b : Nat, a2 = b := ⟨a2.toNat, by omega⟩
    exact main W q a b hq (by omega) (by omega) (by omega) (by omega) (by omega)
end genLogs
end Go.Proofs.Ytmeaakchnellfaa
