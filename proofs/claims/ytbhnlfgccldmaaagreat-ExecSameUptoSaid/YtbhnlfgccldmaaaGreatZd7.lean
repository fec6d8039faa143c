/- Put together by program (merge.py): Node. -/
import Derived.Test.YtbhnlfgccldmaaaGreatZd4
import Derived.Test.YtbhnlfgccldmaaaGreatZd5
import Derived.Test.YtbhnlfgccldmaaaGreatZd6
/- Is a node right by itself? package valid's Node. -/
namespace Go.Proofs.YtbhnlfgccldmaaaGreat
open Go.ChangeShapes Go.WideShapes Go.ChangeAt Go.RowKit
set_option linter.unusedVariables false
/-- n is the product of two numbers, both 2 at least. -/
def prodb (n a b : Int) : Bool := decide (2 ≤ a) && decide (2 ≤ b) && decide (n % a = 0) && decide (n / a = b)
theorem tdiv_dvd (n a : Int) (h : n % a = 0) : n.tdiv a = n / a := Int.tdiv_eq_ediv_of_dvd (Int.dvd_of_emod_eq_zero h)
set_option maxRecDepth 100000 in
theorem valid_product (n a b : Int) (w : World) (wn : -9223372036854775808 ≤ n ∧ n ≤ 9223372036854775807) :
    Calls Tryz.prog 187 #[.int .i64 n, .int .i64 a, .int .i64 b] w fun e w' => e = .returned (.bool (prodb n a b)) ∧ w = w' := by
  by_cases ha : 2 ≤ a
  case neg =>
    have E := Lib.hid (show prodb n a b = false by unfold prodb; rw [decide_eq_false ha]; rfl)
    have d1 : decide (2 ≤ a) = false := decide_eq_false ha
    rw [E.out]
    go_enter Tryz.func187, Tryz.ntmps187
    go_wp2
    go_ret
    exact ⟨rfl, rfl⟩
  have d1 : decide (2 ≤ a) = true := decide_eq_true ha
  by_cases hb : 2 ≤ b
  case neg =>
    have E := Lib.hid (show prodb n a b = false by unfold prodb; rw [decide_eq_false hb, Bool.and_false]; rfl)
    have d2 : decide (2 ≤ b) = false := decide_eq_false hb
    rw [E.out]
    go_enter Tryz.func187, Tryz.ntmps187
    go_wp2
    go_ret
    exact ⟨rfl, rfl⟩
  have d2 : decide (2 ≤ b) = true := decide_eq_true hb
  have hab : a ≠ 0 := by omega
  have E1 := Lib.hid (show ∀ h : n.tmod a = 0, prodb n a b = (n.tdiv a == b) from fun h => by
    have hm := Int.emod_eq_zero_of_dvd (Int.dvd_of_tmod_eq_zero h)
    unfold prodb
    rw [d1, d2, decide_eq_true hm, tdiv_dvd n a hm]; rfl)
  have E2 := Lib.hid (show ∀ h : ¬ n.tmod a = 0, prodb n a b = false from fun h => by
    unfold prodb
    rw [decide_eq_false (fun e => h (Int.tmod_eq_zero_of_dvd (Int.dvd_of_emod_eq_zero e))), Bool.and_false]; rfl)
  generalize prodb n a b = z at *
  go_enter Tryz.func187, Tryz.ntmps187
  go_wp2
  all_goals go_ret
  · exact ⟨ret_bool (E1.out (by assumption)).symm, rfl⟩
  · have h : ¬ n.tmod a = 0 := by assumption
    exact ⟨ret_bool (E2.out h).symm, rfl⟩
/-- Is a node right, of kind k and size n, with m kids, the first two of them of sizes a and b? -/
def nodeB (k n : Int) (m : Nat) (a b : Int) : Bool :=
  if k = 1 then decide (m = 0) && decide (n ≤ 64) && hasb n
  else if k = 2 then decide (m = 0) && decide (2 ≤ n) && few n
  else if k = 3 then decide (m = 0) && decide (2 ≤ n) && hasp n
  else if k = 4 then decide (m = 2) && hasb n && prodb n a b
  else if k = 5 then decide (m = 2) && hasb n && prodb n a b && decide (gcdz a b = 1)
  else if k = 6 then decide (m = 1) && decide (3 ≤ n) && hasb n && prb n && decide (a = n - 1)
  else if k = 7 then decide (m = 1) && decide (2 ≤ n) && hasb n && hasp a && decide (2 * n - 1 ≤ a)
  else false
/-- The first kid's size. -/
theorem Kids.size {w : World} {lim m c : Nat} {a : Option Addr} {f : Fo} (h : Kids w lim (.slice a m c) f) {i : Nat} (hi : i < m) : ∃ b o, a = some ⟨b, o, none⟩ ∧ b < lim ∧ w.cell? ⟨b, o + i * 3 + 1, none⟩ = some (.int .i64 (f.n i)) := by
  obtain ⟨b, o, v, h1, h2, _, h3, _⟩ := h.get hi
  exact ⟨b, o, h1, h2, h3⟩
theorem quiet_l {P : Program} {f : FuncId} {args : Array Value} {w : World} {n : Nat} {v : Value}
    (h : Calls P f args (w.drewN n) fun e w' => e = .returned v ∧ w.drewN n = w') : Calls P f args (w.drewN n) fun e w' => e = .returned v ∧ ∃ m, w' = w.drewN m :=
  h.mono fun _ _ ⟨he, hm⟩ => ⟨he, n, hm.symm⟩
theorem quiet_al {P : Program} {f : FuncId} {args : Array Value} {w : World} {a n : Nat} {v : Value}
    (h : Calls P f args (w.drewN (a + n)) fun e w' => e = .returned v ∧ w.drewN (a + n) = w') : Calls P f args (w.drewN (a + n)) fun e w' => e = .returned v ∧ ∃ m, w' = w.drewN (a + m) :=
  h.mono fun _ _ ⟨he, hm⟩ => ⟨he, n, hm.symm⟩
theorem quiet_aq {P : Program} {f : FuncId} {args : Array Value} {w : World} {a n : Nat} {v : Value}
    (h : Calls P f args (w.drewN (a + n)) fun e w' => e = .returned v ∧ ∃ q, w' = (w.drewN (a + n)).drewN q) : Calls P f args (w.drewN (a + n)) fun e w' => e = .returned v ∧ ∃ m, w' = w.drewN (a + m) :=
  h.mono fun _ _ ⟨he, q, hm⟩ => ⟨he, n + q, by rw [hm, World.drewN_drewN, Nat.add_assoc]⟩
set_option maxRecDepth 100000 in
set_option maxHeartbeats 2000000 in
theorem node_1 (k n : Int) (m c : Nat) (p : Option Addr) (ks : Fo) (lim : Nat) (W : World) (wn : -9223372036854775808 ≤ n ∧ n ≤ 9223372036854775807) (hK : Kids W lim (.slice p m c) ks) (hl : lim ≤ W.heap.size) (wk : ks.wf) (hk : k = 1) :
    Calls Tryz.prog 165 #[.agg #[.int .i64 k, .int .i64 n, .slice p m c]] W fun e w' => e = .returned (.bool (nodeB k n m (ks.n 0) (ks.n 1))) ∧ Below W.heap.size W w' := by
  have H := Lib.hid (fun w => root_has n w wn.1 wn.2)
  have SM := Lib.hid (fun w => small_has n w)
  have ST := Lib.hid (fun n w => stock_has n w)
  have PR := Lib.hid (fun w => fact_prime n w)
  have PD := Lib.hid (fun a b w => valid_product n a b w wn)
  obtain ⟨_, _, _, he, hc1, hc2, HM⟩ := hK.shape
  cases he
  have KS := Lib.hid (fun i (hi : i < m) => hK.size hi)
  subst hk
  obtain ⟨w0, hw0, c0, c1, c2, hB, hsz⟩ := box3 W 1 n (.slice p m c) 24
  have Z := Lib.hid (show nodeB 1 n m (ks.n 0) (ks.n 1) = (decide (m = 0) && decide (n ≤ 64) && hasb n) from rfl)
  generalize nodeB 1 n m (ks.n 0) (ks.n 1) = z at *
  by_cases h0 : m = 0
  case neg =>
    rw [decide_eq_false h0, Bool.false_and, Bool.false_and] at Z
    have d0 : ((m : Int) == 0) = false := by simp; omega
    go_enter Tryz.func165, Tryz.ntmps165
    go_wp2_with fail
    rw [← hw0]
    clear hw0
    go_quiet (fail)
    go_wp2_with fail
    go_ret
    exact ⟨ret_bool Z.out.symm, by repeat (first | exact hB | refine below_drewN ?_ _)⟩
  subst h0
  by_cases h1 : n ≤ 64
  case neg =>
    rw [decide_eq_false h1, Bool.and_false, Bool.false_and] at Z
    have d1 : decide (n ≤ 64) = false := decide_eq_false h1
    go_enter Tryz.func165, Tryz.ntmps165
    go_wp2_with fail
    rw [← hw0]
    clear hw0
    go_quiet (fail)
    go_wp2_with fail
    go_ret
    exact ⟨ret_bool Z.out.symm, by repeat (first | exact hB | refine below_drewN ?_ _)⟩
  rw [decide_eq_true h1] at Z
  have d1 : decide (n ≤ 64) = true := decide_eq_true h1
  go_enter Tryz.func165, Tryz.ntmps165
  go_wp2_with fail
  rw [← hw0]
  clear hw0
  go_quiet (fail)
  go_wp2_with fail
  refine (H.out _).mono ?_
  rintro e w1 ⟨rfl, rfl⟩
  go_wp2_with fail
  go_ret
  exact ⟨ret_bool Z.out.symm, by repeat (first | exact hB | refine below_drewN ?_ _)⟩
set_option maxRecDepth 100000 in
set_option maxHeartbeats 2000000 in
theorem node_2 (k n : Int) (m c : Nat) (p : Option Addr) (ks : Fo) (lim : Nat) (W : World) (wn : -9223372036854775808 ≤ n ∧ n ≤ 9223372036854775807) (hK : Kids W lim (.slice p m c) ks) (hl : lim ≤ W.heap.size) (wk : ks.wf) (hk : k = 2) :
    Calls Tryz.prog 165 #[.agg #[.int .i64 k, .int .i64 n, .slice p m c]] W fun e w' => e = .returned (.bool (nodeB k n m (ks.n 0) (ks.n 1))) ∧ Below W.heap.size W w' := by
  have H := Lib.hid (fun w => root_has n w wn.1 wn.2)
  have SM := Lib.hid (fun w => small_has n w)
  have ST := Lib.hid (fun n w => stock_has n w)
  have PR := Lib.hid (fun w => fact_prime n w)
  have PD := Lib.hid (fun a b w => valid_product n a b w wn)
  obtain ⟨_, _, _, he, hc1, hc2, HM⟩ := hK.shape
  cases he
  have KS := Lib.hid (fun i (hi : i < m) => hK.size hi)
  subst hk
  obtain ⟨w0, hw0, c0, c1, c2, hB, hsz⟩ := box3 W 2 n (.slice p m c) 24
  have Z := Lib.hid (show nodeB 2 n m (ks.n 0) (ks.n 1) = (decide (m = 0) && decide (2 ≤ n) && few n) from rfl)
  generalize nodeB 2 n m (ks.n 0) (ks.n 1) = z at *
  by_cases h0 : m = 0
  case neg =>
    rw [decide_eq_false h0, Bool.false_and, Bool.false_and] at Z
    have d0 : ((m : Int) == 0) = false := by simp; omega
    go_enter Tryz.func165, Tryz.ntmps165
    go_wp2_with fail
    rw [← hw0]
    clear hw0
    go_quiet (fail)
    go_wp2_with fail
    go_ret
    exact ⟨ret_bool Z.out.symm, by repeat (first | exact hB | refine below_drewN ?_ _)⟩
  subst h0
  by_cases h1 : 2 ≤ n
  case neg =>
    rw [decide_eq_false h1, Bool.and_false, Bool.false_and] at Z
    have d1 : decide (2 ≤ n) = false := decide_eq_false h1
    go_enter Tryz.func165, Tryz.ntmps165
    go_wp2_with fail
    rw [← hw0]
    clear hw0
    go_quiet (fail)
    go_wp2_with fail
    go_ret
    exact ⟨ret_bool Z.out.symm, by repeat (first | exact hB | refine below_drewN ?_ _)⟩
  rw [decide_eq_true h1] at Z
  have d1 : decide (2 ≤ n) = true := decide_eq_true h1
  go_enter Tryz.func165, Tryz.ntmps165
  go_wp2_with fail
  rw [← hw0]
  clear hw0
  go_quiet (fail)
  go_wp2_with fail
  refine (SM.out _).mono ?_
  rintro e w1 ⟨rfl, rfl⟩
  go_wp2_with fail
  go_ret
  exact ⟨ret_bool Z.out.symm, by repeat (first | exact hB | refine below_drewN ?_ _)⟩
set_option maxRecDepth 100000 in
set_option maxHeartbeats 2000000 in
theorem node_3 (k n : Int) (m c : Nat) (p : Option Addr) (ks : Fo) (lim : Nat) (W : World) (wn : -9223372036854775808 ≤ n ∧ n ≤ 9223372036854775807) (hK : Kids W lim (.slice p m c) ks) (hl : lim ≤ W.heap.size) (wk : ks.wf) (hk : k = 3) :
    Calls Tryz.prog 165 #[.agg #[.int .i64 k, .int .i64 n, .slice p m c]] W fun e w' => e = .returned (.bool (nodeB k n m (ks.n 0) (ks.n 1))) ∧ Below W.heap.size W w' := by
  have H := Lib.hid (fun w => root_has n w wn.1 wn.2)
  have SM := Lib.hid (fun w => small_has n w)
  have ST := Lib.hid (fun n w => stock_has n w)
  have PR := Lib.hid (fun w => fact_prime n w)
  have PD := Lib.hid (fun a b w => valid_product n a b w wn)
  obtain ⟨_, _, _, he, hc1, hc2, HM⟩ := hK.shape
  cases he
  have KS := Lib.hid (fun i (hi : i < m) => hK.size hi)
  subst hk
  obtain ⟨w0, hw0, c0, c1, c2, hB, hsz⟩ := box3 W 3 n (.slice p m c) 24
  have Z := Lib.hid (show nodeB 3 n m (ks.n 0) (ks.n 1) = (decide (m = 0) && decide (2 ≤ n) && hasp n) from rfl)
  generalize nodeB 3 n m (ks.n 0) (ks.n 1) = z at *
  by_cases h0 : m = 0
  case neg =>
    rw [decide_eq_false h0, Bool.false_and, Bool.false_and] at Z
    have d0 : ((m : Int) == 0) = false := by simp; omega
    go_enter Tryz.func165, Tryz.ntmps165
    go_wp2_with fail
    rw [← hw0]
    clear hw0
    go_quiet (fail)
    go_wp2_with fail
    go_ret
    exact ⟨ret_bool Z.out.symm, by repeat (first | exact hB | refine below_drewN ?_ _)⟩
  subst h0
  by_cases h1 : 2 ≤ n
  case neg =>
    rw [decide_eq_false h1, Bool.and_false, Bool.false_and] at Z
    have d1 : decide (2 ≤ n) = false := decide_eq_false h1
    go_enter Tryz.func165, Tryz.ntmps165
    go_wp2_with fail
    rw [← hw0]
    clear hw0
    go_quiet (fail)
    go_wp2_with fail
    go_ret
    exact ⟨ret_bool Z.out.symm, by repeat (first | exact hB | refine below_drewN ?_ _)⟩
  rw [decide_eq_true h1] at Z
  have d1 : decide (2 ≤ n) = true := decide_eq_true h1
  go_enter Tryz.func165, Tryz.ntmps165
  go_wp2_with fail
  rw [← hw0]
  clear hw0
  go_quiet (fail)
  go_wp2_with fail
  refine (ST.out _ _).mono ?_
  rintro e w1 ⟨rfl, rfl⟩
  go_wp2_with fail
  go_ret
  exact ⟨ret_bool Z.out.symm, by repeat (first | exact hB | refine below_drewN ?_ _)⟩
set_option maxRecDepth 100000 in
set_option maxHeartbeats 2000000 in
theorem node_4 (k n : Int) (m c : Nat) (p : Option Addr) (ks : Fo) (lim : Nat) (W : World) (wn : -9223372036854775808 ≤ n ∧ n ≤ 9223372036854775807) (hK : Kids W lim (.slice p m c) ks) (hl : lim ≤ W.heap.size) (wk : ks.wf) (hk : k = 4) :
    Calls Tryz.prog 165 #[.agg #[.int .i64 k, .int .i64 n, .slice p m c]] W fun e w' => e = .returned (.bool (nodeB k n m (ks.n 0) (ks.n 1))) ∧ Below W.heap.size W w' := by
  have H := Lib.hid (fun w => root_has n w wn.1 wn.2)
  have ST := Lib.hid (fun n w => stock_has n w)
  have PR := Lib.hid (fun w => fact_prime n w)
  have PD := Lib.hid (fun a b w => valid_product n a b w wn)
  obtain ⟨_, _, _, he, hc1, hc2, HM⟩ := hK.shape
  cases he
  have KS := Lib.hid (fun i (hi : i < m) => hK.size hi)
  subst hk
  obtain ⟨w0, hw0, c0, c1, c2, hB, hsz⟩ := box3 W 4 n (.slice p m c) 24
  have Z := Lib.hid (show nodeB 4 n m (ks.n 0) (ks.n 1) = (decide (m = 2) && hasb n && prodb n (ks.n 0) (ks.n 1)) from rfl)
  generalize nodeB 4 n m (ks.n 0) (ks.n 1) = z at *
  by_cases h2 : m = 2
  case neg =>
    rw [decide_eq_false h2, Bool.false_and, Bool.false_and] at Z
    have d0 : ((m : Int) == 2) = false := by simp; omega
    go_enter Tryz.func165, Tryz.ntmps165
    go_wp2_with fail
    rw [← hw0]
    clear hw0
    go_quiet (fail)
    go_wp2_with fail
    go_quiet (fail)
    go_wp2_with fail
    go_ret
    exact ⟨ret_bool Z.out.symm, by repeat (first | exact hB | refine below_drewN ?_ _)⟩
  subst h2
  obtain ⟨b, o, rfl, hb, k0⟩ := KS.out 0 (by omega)
  obtain ⟨b', o', e2, _, k1⟩ := KS.out 1 (by omega)
  cases e2
  have f0 : w0.cell? ⟨b, o + 1, none⟩ = some (.int .i64 (ks.n 0)) := by simpa using (hB.cell (p := ⟨b, _, none⟩) (by show b < W.heap.size; omega)).trans k0
  have f1 : w0.cell? ⟨b, o + 3 + 1, none⟩ = some (.int .i64 (ks.n 1)) := by simpa using (hB.cell (p := ⟨b, _, none⟩) (by show b < W.heap.size; omega)).trans k1
  clear k0 k1
  cases hh : hasb n with
  | false =>
    rw [hh] at Z H
    rw [Bool.and_false, Bool.false_and] at Z
    go_enter Tryz.func165, Tryz.ntmps165
    go_wp2_with fail
    rw [← hw0]
    clear hw0
    go_quiet (fail)
    go_wp2_with fail
    go_quiet ((go_at_call 68; exact quiet_al (H.out _)))
    go_wp2_with fail
    go_ret
    exact ⟨ret_bool Z.out.symm, by repeat (first | exact hB | refine below_drewN ?_ _)⟩
  | true =>
    rw [hh] at Z H
    go_enter Tryz.func165, Tryz.ntmps165
    go_wp2_with fail
    rw [← hw0]
    clear hw0
    go_quiet (fail)
    go_wp2_with fail
    go_quiet ((first | (go_at_call 68; exact quiet_al (H.out _)) | (go_at_call 187; exact quiet_al (PD.out _ _ _))))
    go_wp2_with fail
    go_ret
    exact ⟨ret_bool Z.out.symm, by repeat (first | exact hB | refine below_drewN ?_ _)⟩
set_option maxRecDepth 100000 in
set_option maxHeartbeats 2000000 in
theorem node_5 (k n : Int) (m c : Nat) (p : Option Addr) (ks : Fo) (lim : Nat) (W : World) (wn : -9223372036854775808 ≤ n ∧ n ≤ 9223372036854775807) (hK : Kids W lim (.slice p m c) ks) (hl : lim ≤ W.heap.size) (wk : ks.wf) (hk : k = 5) :
    Calls Tryz.prog 165 #[.agg #[.int .i64 k, .int .i64 n, .slice p m c]] W fun e w' => e = .returned (.bool (nodeB k n m (ks.n 0) (ks.n 1))) ∧ Below W.heap.size W w' := by
  have H := Lib.hid (fun w => root_has n w wn.1 wn.2)
  have ST := Lib.hid (fun n w => stock_has n w)
  have PR := Lib.hid (fun w => fact_prime n w)
  have PD := Lib.hid (fun a b w => valid_product n a b w wn)
  obtain ⟨_, _, _, he, hc1, hc2, HM⟩ := hK.shape
  cases he
  have KS := Lib.hid (fun i (hi : i < m) => hK.size hi)
  subst hk
  obtain ⟨w0, hw0, c0, c1, c2, hB, hsz⟩ := box3 W 5 n (.slice p m c) 24
  have Z := Lib.hid (show nodeB 5 n m (ks.n 0) (ks.n 1) = (decide (m = 2) && hasb n && prodb n (ks.n 0) (ks.n 1) && decide (gcdz (ks.n 0) (ks.n 1) = 1)) from rfl)
  generalize nodeB 5 n m (ks.n 0) (ks.n 1) = z at *
  by_cases h2 : m = 2
  case neg =>
    rw [decide_eq_false h2, Bool.false_and, Bool.false_and, Bool.false_and] at Z
    have d0 : ((m : Int) == 2) = false := by simp; omega
    go_enter Tryz.func165, Tryz.ntmps165
    go_wp2_with fail
    rw [← hw0]
    clear hw0
    go_quiet (fail)
    go_wp2_with fail
    go_quiet (fail)
    go_wp2_with fail
    go_quiet (fail)
    go_wp2_with fail
    go_ret
    exact ⟨ret_bool Z.out.symm, by repeat (first | exact hB | refine below_drewN ?_ _)⟩
  subst h2
  obtain ⟨b, o, rfl, hb, k0⟩ := KS.out 0 (by omega)
  obtain ⟨b', o', e2, _, k1⟩ := KS.out 1 (by omega)
  cases e2
  have f0 : w0.cell? ⟨b, o + 1, none⟩ = some (.int .i64 (ks.n 0)) := by simpa using (hB.cell (p := ⟨b, _, none⟩) (by show b < W.heap.size; omega)).trans k0
  have f1 : w0.cell? ⟨b, o + 3 + 1, none⟩ = some (.int .i64 (ks.n 1)) := by simpa using (hB.cell (p := ⟨b, _, none⟩) (by show b < W.heap.size; omega)).trans k1
  clear k0 k1
  have w0' := (Fo.wf_at ks 0 wk (by have := HM.out; omega)).2.1
  have w1' := (Fo.wf_at ks 1 wk (by have := HM.out; omega)).2.1
  have GC := Lib.hid (fun w => fact_gcdq (ks.n 0) (ks.n 1) w w0'.2 w1'.2)
  generalize ks.n 0 = A at *
  generalize ks.n 1 = B at *
  by_cases hg : gcdz A B = 1
  case neg =>
    rw [decide_eq_false hg, Bool.and_false] at Z
    have g0 : (gcdz A B != 1) = true := by simp [hg]
    generalize gcdz A B = g at *
    go_enter Tryz.func165, Tryz.ntmps165
    go_wp2_with fail
    rw [← hw0]
    clear hw0
    go_quiet (fail)
    go_wp2_with fail
    go_quiet ((go_at_call 186; exact quiet_aq (GC.out _)))
    go_wp2_with fail
    go_ret
    exact ⟨ret_bool Z.out.symm, by repeat (first | exact hB | refine below_drewN ?_ _)⟩
  rw [decide_eq_true hg, Bool.and_true] at Z
  rw [hg] at GC
  cases hh : hasb n with
  | false =>
    rw [hh] at Z H
    rw [Bool.and_false, Bool.false_and] at Z
    go_enter Tryz.func165, Tryz.ntmps165
    go_wp2_with fail
    rw [← hw0]
    clear hw0
    go_quiet (fail)
    go_wp2_with fail
    go_quiet ((go_at_call 186; exact quiet_aq (GC.out _)))
    go_wp2_with fail
    go_quiet ((go_at_call 68; exact quiet_al (H.out _)))
    go_wp2_with fail
    go_ret
    exact ⟨ret_bool Z.out.symm, by repeat (first | exact hB | refine below_drewN ?_ _)⟩
  | true =>
    rw [hh] at Z H
    go_enter Tryz.func165, Tryz.ntmps165
    go_wp2_with fail
    rw [← hw0]
    clear hw0
    go_quiet (fail)
    go_wp2_with fail
    go_quiet ((go_at_call 186; exact quiet_aq (GC.out _)))
    go_wp2_with fail
    go_quiet ((first | (go_at_call 68; exact quiet_al (H.out _)) | (go_at_call 187; exact quiet_al (PD.out _ _ _))))
    go_wp2_with fail
    go_ret
    exact ⟨ret_bool Z.out.symm, by repeat (first | exact hB | refine below_drewN ?_ _)⟩
set_option maxRecDepth 100000 in
set_option maxHeartbeats 2000000 in
theorem node_6 (k n : Int) (m c : Nat) (p : Option Addr) (ks : Fo) (lim : Nat) (W : World) (wn : -9223372036854775808 ≤ n ∧ n ≤ 9223372036854775807) (hK : Kids W lim (.slice p m c) ks) (hl : lim ≤ W.heap.size) (wk : ks.wf) (hk : k = 6) :
    Calls Tryz.prog 165 #[.agg #[.int .i64 k, .int .i64 n, .slice p m c]] W fun e w' => e = .returned (.bool (nodeB k n m (ks.n 0) (ks.n 1))) ∧ Below W.heap.size W w' := by
  have H := Lib.hid (fun w => root_has n w wn.1 wn.2)
  have ST := Lib.hid (fun n w => stock_has n w)
  have PR := Lib.hid (fun w => fact_prime n w)
  obtain ⟨_, _, _, he, hc1, hc2, HM⟩ := hK.shape
  cases he
  have KS := Lib.hid (fun i (hi : i < m) => hK.size hi)
  subst hk
  obtain ⟨w0, hw0, c0, c1, c2, hB, hsz⟩ := box3 W 6 n (.slice p m c) 24
  have Z := Lib.hid (show nodeB 6 n m (ks.n 0) (ks.n 1) = (decide (m = 1) && decide (3 ≤ n) && hasb n && prb n && decide (ks.n 0 = n - 1)) from rfl)
  generalize nodeB 6 n m (ks.n 0) (ks.n 1) = z at *
  by_cases h2 : m = 1
  case neg =>
    rw [decide_eq_false h2] at Z
    simp only [Bool.false_and] at Z
    have d0 : ((m : Int) == 1) = false := by simp; omega
    go_enter Tryz.func165, Tryz.ntmps165
    go_wp2_with fail
    rw [← hw0]
    clear hw0
    go_quiet (fail)
    go_wp2_with fail
    go_ret
    exact ⟨ret_bool Z.out.symm, by repeat (first | exact hB | refine below_drewN ?_ _)⟩
  subst h2
  obtain ⟨b, o, rfl, hb, k0⟩ := KS.out 0 (by omega)
  have f0 : w0.cell? ⟨b, o + 1, none⟩ = some (.int .i64 (ks.n 0)) := by simpa using (hB.cell (p := ⟨b, _, none⟩) (by show b < W.heap.size; omega)).trans k0
  have hbl : b < w0.heap.size := by omega
  clear k0 KS
  generalize ks.n 0 = A at *
  by_cases h3 : 3 ≤ n
  case neg =>
    rw [decide_eq_false h3] at Z
    simp only [Bool.false_and, Bool.and_false] at Z
    have d1 : decide (3 ≤ n) = false := decide_eq_false h3
    go_enter Tryz.func165, Tryz.ntmps165
    go_wp2_with fail
    rw [← hw0]
    clear hw0
    go_quiet (fail)
    go_wp2_with fail
    go_ret
    exact ⟨ret_bool Z.out.symm, by repeat (first | exact hB | refine below_drewN ?_ _)⟩
  rw [decide_eq_true h3] at Z
  have d1 : decide (3 ≤ n) = true := decide_eq_true h3
  cases hh : hasb n with
  | false =>
    rw [hh] at Z H
    simp only [Bool.false_and, Bool.and_false] at Z
    go_enter Tryz.func165, Tryz.ntmps165
    go_wp2_with fail
    rw [← hw0]
    clear hw0
    go_quiet (fail)
    go_wp2_with fail
    refine (H.out _).mono ?_
    rintro e w1 ⟨rfl, rfl⟩
    go_wp2_with fail
    go_ret
    exact ⟨ret_bool Z.out.symm, by repeat (first | exact hB | refine below_drewN ?_ _)⟩
  | true =>
    rw [hh] at Z H
    have hn := hasb_dvd hh
    have wn1 : IntKind.i64.wrap (n - 1) = n - 1 := IntWalk.i64_in _ (by omega)
    cases hp : prb n with
    | false =>
      rw [hp] at Z PR
      simp only [Bool.false_and, Bool.and_false] at Z
      go_enter Tryz.func165, Tryz.ntmps165
      go_wp2_with fail
      rw [← hw0]
      clear hw0
      go_quiet (fail)
      go_wp2_with fail
      refine (H.out _).mono ?_
      rintro e w1 ⟨rfl, rfl⟩
      go_wp2_with fail
      refine (PR.out _).mono ?_
      rintro e w1 ⟨rfl, b1⟩
      go_wp2_with fail
      go_ret
      exact ⟨ret_bool Z.out.symm, (below_drewN hB _).trans (b1.mono hB.size)⟩
    | true =>
      rw [hp] at Z PR
      go_enter Tryz.func165, Tryz.ntmps165
      go_wp2_with fail
      rw [← hw0]
      clear hw0
      go_quiet (fail)
      go_wp2_with fail
      refine (H.out _).mono ?_
      rintro e w1 ⟨rfl, rfl⟩
      go_wp2_with fail
      refine (PR.out _).mono ?_
      rintro e w1 ⟨rfl, b1⟩
      have f2 := (b1.cell (p := ⟨b, o + 1, none⟩) hbl).trans f0
      go_wp2_with fail
      go_ret
      exact ⟨ret_bool Z.out.symm, (below_drewN hB _).trans (b1.mono hB.size)⟩
set_option maxRecDepth 100000 in
set_option maxHeartbeats 2000000 in
theorem node_7 (k n : Int) (m c : Nat) (p : Option Addr) (ks : Fo) (lim : Nat) (W : World) (wn : -9223372036854775808 ≤ n ∧ n ≤ 9223372036854775807) (hK : Kids W lim (.slice p m c) ks) (hl : lim ≤ W.heap.size) (wk : ks.wf) (hk : k = 7) :
    Calls Tryz.prog 165 #[.agg #[.int .i64 k, .int .i64 n, .slice p m c]] W fun e w' => e = .returned (.bool (nodeB k n m (ks.n 0) (ks.n 1))) ∧ Below W.heap.size W w' := by
  have H := Lib.hid (fun w => root_has n w wn.1 wn.2)
  have ST := Lib.hid (fun n w => stock_has n w)
  have PR := Lib.hid (fun w => fact_prime n w)
  obtain ⟨_, _, _, he, hc1, hc2, HM⟩ := hK.shape
  cases he
  have KS := Lib.hid (fun i (hi : i < m) => hK.size hi)
  subst hk
  obtain ⟨w0, hw0, c0, c1, c2, hB, hsz⟩ := box3 W 7 n (.slice p m c) 24
  have Z := Lib.hid (show nodeB 7 n m (ks.n 0) (ks.n 1) = (decide (m = 1) && decide (2 ≤ n) && hasb n && hasp (ks.n 0) && decide (2 * n - 1 ≤ ks.n 0)) from rfl)
  generalize nodeB 7 n m (ks.n 0) (ks.n 1) = z at *
  by_cases h2 : m = 1
  case neg =>
    rw [decide_eq_false h2] at Z
    simp only [Bool.false_and] at Z
    have d0 : ((m : Int) == 1) = false := by simp; omega
    go_enter Tryz.func165, Tryz.ntmps165
    go_wp2_with fail
    rw [← hw0]
    clear hw0
    go_quiet (fail)
    go_wp2_with fail
    go_ret
    exact ⟨ret_bool Z.out.symm, by repeat (first | exact hB | refine below_drewN ?_ _)⟩
  subst h2
  obtain ⟨b, o, rfl, hb, k0⟩ := KS.out 0 (by omega)
  have f0 : w0.cell? ⟨b, o + 1, none⟩ = some (.int .i64 (ks.n 0)) := by simpa using (hB.cell (p := ⟨b, _, none⟩) (by show b < W.heap.size; omega)).trans k0
  have hbl : b < w0.heap.size := by omega
  clear k0 KS
  generalize ks.n 0 = A at *
  by_cases h3 : 2 ≤ n
  case neg =>
    rw [decide_eq_false h3] at Z
    simp only [Bool.false_and, Bool.and_false] at Z
    have d1 : decide (2 ≤ n) = false := decide_eq_false h3
    go_enter Tryz.func165, Tryz.ntmps165
    go_wp2_with fail
    rw [← hw0]
    clear hw0
    go_quiet (fail)
    go_wp2_with fail
    go_ret
    exact ⟨ret_bool Z.out.symm, by repeat (first | exact hB | refine below_drewN ?_ _)⟩
  rw [decide_eq_true h3] at Z
  have d1 : decide (2 ≤ n) = true := decide_eq_true h3
  cases hh : hasb n with
  | false =>
    rw [hh] at Z H
    simp only [Bool.false_and, Bool.and_false] at Z
    go_enter Tryz.func165, Tryz.ntmps165
    go_wp2_with fail
    rw [← hw0]
    clear hw0
    go_quiet (fail)
    go_wp2_with fail
    refine (H.out _).mono ?_
    rintro e w1 ⟨rfl, rfl⟩
    go_wp2_with fail
    go_ret
    exact ⟨ret_bool Z.out.symm, by repeat (first | exact hB | refine below_drewN ?_ _)⟩
  | true =>
    rw [hh] at Z H
    have hn := hasb_dvd hh
    have wn1 : IntKind.i64.wrap (2 * n) = 2 * n := IntWalk.i64_in _ (by omega)
    have wn2 : IntKind.i64.wrap (2 * n - 1) = 2 * n - 1 := IntWalk.i64_in _ (by omega)
    have ST2 := Lib.hid (fun w => ST.out A w)
    clear ST
    cases hp : hasp A with
    | false =>
      rw [hp] at Z ST2
      simp only [Bool.false_and, Bool.and_false] at Z
      go_enter Tryz.func165, Tryz.ntmps165
      go_wp2_with fail
      rw [← hw0]
      clear hw0
      go_quiet (fail)
      go_wp2_with fail
      refine (H.out _).mono ?_
      rintro e w1 ⟨rfl, rfl⟩
      go_wp2_with fail
      refine (ST2.out _).mono ?_
      rintro e w1 ⟨rfl, rfl⟩
      go_wp2_with fail
      go_ret
      exact ⟨ret_bool Z.out.symm, below_drewN hB _⟩
    | true =>
      rw [hp] at Z ST2
      go_enter Tryz.func165, Tryz.ntmps165
      go_wp2_with fail
      rw [← hw0]
      clear hw0
      go_quiet (fail)
      go_wp2_with fail
      refine (H.out _).mono ?_
      rintro e w1 ⟨rfl, rfl⟩
      go_wp2_with fail
      refine (ST2.out _).mono ?_
      rintro e w1 ⟨rfl, rfl⟩
      go_wp2_with fail
      go_ret
      exact ⟨ret_bool Z.out.symm, below_drewN hB _⟩
set_option maxRecDepth 100000 in
set_option maxHeartbeats 2000000 in
theorem node_no (k n : Int) (m c : Nat) (p : Option Addr) (ks : Fo) (lim : Nat) (W : World) (wn : -9223372036854775808 ≤ n ∧ n ≤ 9223372036854775807) (hK : Kids W lim (.slice p m c) ks) (hl : lim ≤ W.heap.size) (wk : ks.wf) (hk : ¬ (k = 1 ∨ k = 2 ∨ k = 3 ∨ k = 4 ∨ k = 5 ∨ k = 6 ∨ k = 7)) :
    Calls Tryz.prog 165 #[.agg #[.int .i64 k, .int .i64 n, .slice p m c]] W fun e w' => e = .returned (.bool (nodeB k n m (ks.n 0) (ks.n 1))) ∧ Below W.heap.size W w' := by
  obtain ⟨w0, hw0, c0, c1, c2, hB, hsz⟩ := box3 W k n (.slice p m c) 24
  have Z := Lib.hid (show nodeB k n m (ks.n 0) (ks.n 1) = false by unfold nodeB; rw [if_neg (by omega), if_neg (by omega), if_neg (by omega), if_neg (by omega), if_neg (by omega), if_neg (by omega), if_neg (by omega)])
  have e1 : (k == 1) = false := by simp; omega
  have e2 : (k == 2) = false := by simp; omega
  have e3 : (k == 3) = false := by simp; omega
  have e4 : (k == 4) = false := by simp; omega
  have e5 : (k == 5) = false := by simp; omega
  have e6 : (k == 6) = false := by simp; omega
  have e7 : (k == 7) = false := by simp; omega
  generalize nodeB k n m (ks.n 0) (ks.n 1) = z at *
  go_enter Tryz.func165, Tryz.ntmps165
  go_wp2_with fail
  rw [← hw0]
  clear hw0
  go_quiet (fail)
  go_wp2_with fail
  go_ret
  exact ⟨ret_bool Z.out.symm, by repeat (first | exact hB | refine below_drewN ?_ _)⟩
theorem valid_node (k n : Int) (v : Value) (ks : Fo) (lim : Nat) (W : World) (wn : -9223372036854775808 ≤ n ∧ n ≤ 9223372036854775807) (hK : Kids W lim v ks) (hl : lim ≤ W.heap.size) (wk : ks.wf) :
    Calls Tryz.prog 165 #[.agg #[.int .i64 k, .int .i64 n, v]] W fun e w' => e = .returned (.bool (nodeB k n ks.len (ks.n 0) (ks.n 1))) ∧ Below W.heap.size W w' := by
  obtain ⟨p, m, c, rfl, _, _, HM⟩ := hK.shape
  rw [← HM.out]
  by_cases h : k = 1 ∨ k = 2 ∨ k = 3 ∨ k = 4 ∨ k = 5 ∨ k = 6 ∨ k = 7
  · rcases h with h | h | h | h | h | h | h
    · exact node_1 k n m c p ks lim W wn hK hl wk h
    · exact node_2 k n m c p ks lim W wn hK hl wk h
    · exact node_3 k n m c p ks lim W wn hK hl wk h
    · exact node_4 k n m c p ks lim W wn hK hl wk h
    · exact node_5 k n m c p ks lim W wn hK hl wk h
    · exact node_6 k n m c p ks lim W wn hK hl wk h
    · exact node_7 k n m c p ks lim W wn hK hl wk h
  · exact node_no k n m c p ks lim W wn hK hl wk h
end Go.Proofs.YtbhnlfgccldmaaaGreat
