/- Put together by program (merge.py): Genp. -/
import Derived.Test.YtcfmiflhhjoofaaM21
import Derived.Test.YtcfmiflhhjoofaaM41
/- Package gen: right, power, order; reference 9's Is, Order. -/
namespace Go.Proofs.Ytcfmiflhhjoofaa
open Go.ChangeShapes Go.WideShapes Go.ChangeAt Go.RowKit
set_option linter.unusedVariables false
/-- Is it a prime from 2 to 2^17? -/
def qrb (n : Int) : Bool := decide (n ≤ 131072) && prb n
theorem qrb_yes {n : Int} (h : qrb n = true) : ∃ q : Nat, n = q ∧ isP q ∧ q ≤ 131072 := by
  unfold qrb at h
  rw [Bool.and_eq_true, decide_eq_true_iff] at h
  obtain ⟨N, rfl, h1, _⟩ := prb_yes h.2
  exact ⟨N, rfl, h1, by omega⟩
theorem qrb_of {q : Nat} (h : isP q) (h2 : q ≤ 131072) : qrb (q : Int) = true := by
  unfold qrb
  rw [decide_eq_true (by omega), prb_nat (by omega), (isPb_iff q).2 h]; rfl
theorem gen_right (n : Int) (W : World) : Calls Try.prog 75 #[.int .i64 n] W fun e w' => e = .returned (.bool (qrb n)) ∧ Below W.heap.size W w' := by
  have FP := Lib.hid (fun w => fact_prime n w)
  by_cases h : n ≤ 131072
  · have dd : decide (n ≤ 131072) = true := decide_eq_true h
    rw [show qrb n = prb n by unfold qrb; rw [dd, Bool.true_and]]
    generalize prb n = z at *
    go_enter Try.func75, Try.ntmps75
    go_wp2_with fail
    refine (FP.out _).mono ?_
    rintro e w1 ⟨rfl, b1⟩
    go_wp2_with fail
    go_ret
    exact ⟨rfl, b1⟩
  · have dd : decide (n ≤ 131072) = false := decide_eq_false h
    rw [show qrb n = false by unfold qrb; rw [dd, Bool.false_and]]
    go_enter Try.func75, Try.ntmps75
    go_wp2_with fail
    go_ret
    exact ⟨rfl, Below.refl _ _⟩
theorem gpow_odd {q p A n m : Nat} (h : n = 2 * m + 1) : (p * A % q) * (A * A % q) ^ m % q = p * A ^ n % q := by
  have e : A ^ n = A * (A * A) ^ m := by rw [h, Nat.pow_succ, Nat.pow_mul, Nat.pow_two, Nat.mul_comm]
  rw [e, ← Nat.mul_assoc, Nat.mul_mod, Nat.mod_mod, ← Nat.pow_mod, ← Nat.mul_mod]
theorem gpow_even {q p A n m : Nat} (h : n = 2 * m) : p * (A * A % q) ^ m % q = p * A ^ n % q := by
  have e : A ^ n = (A * A) ^ m := by rw [h, Nat.pow_mul, Nat.pow_two]
  rw [e, Nat.mul_mod, ← Nat.pow_mod, ← Nat.mul_mod]
theorem natmod (a b : Nat) : ((a : Int)).tmod (b : Int) = ((a % b : Nat) : Int) := by
  rw [Int.tmod_eq_emod_of_nonneg (by omega)]; omega
theorem natmod' (a b : Nat) : ((a : Int)) % (b : Int) = ((a % b : Nat) : Int) := by omega
set_option maxRecDepth 100000 in
theorem gen_power (q a n : Nat) (W : World) (hq : 2 ≤ q) (hq2 : q ≤ 131072) (ha : a < q) (hn : n ≤ 131072) :
    Calls Try.prog 84 #[.int .i64 (q : Int), .int .i64 (a : Int), .int .i64 (n : Int)] W fun e w' => e = .returned (.int .i64 (a ^ n % q : Nat)) ∧ W = w' := by
  obtain ⟨z, hz⟩ : ∃ z, a ^ n % q = z := ⟨_, rfl⟩
  rw [hz]
  have HZ := Lib.hid hz
  clear hz
  have q1 : ((q : Int) == 0) = false := by simp; omega
  have q2 : ¬ ((q : Int) = 0) := by omega
  have q3 : ¬ (q = 0) := by omega
  go_enter Try.func84, Try.ntmps84
  go_wp2_with fail
  go_loopw [1, 2, 7] (fun x y p wr => ∃ A m P : Nat, x = .int .i64 A ∧ y = .int .i64 m ∧ p = .int .i64 P ∧ A < q ∧ P < q ∧ m ≤ 131072 ∧ Hid (P * A ^ m % q = z) ∧ wr = W) (fun _ y _ _ => (intOf y).toNat)
  case atStart => exact ⟨a, n, 1, rfl, rfl, rfl, ha, by omega, hn, Lib.hid (by rw [Nat.one_mul]; exact HZ.out), rfl⟩
  case round =>
    obtain ⟨A, m, P, rfl, rfl, rfl, hA, hP, hm, HM, rfl⟩ := hrel
    by_cases h0 : m = 0
    · subst h0
      have E : Hid (P = z) := Lib.hid (by have := HM.out; rw [Nat.pow_zero, Nat.mul_one, Nat.mod_eq_of_lt hP] at this; exact this)
      go_wp2_with fail
      go_ret
      exact ⟨by rw [← E.out]; rfl, rfl⟩
    · have d0 : decide ((0 : Int) < (m : Int)) = true := decide_eq_true (by omega)
      have hAA : A * A ≤ 131072 * 131072 := Nat.mul_le_mul (by omega) (by omega)
      have hPA : P * A ≤ 131072 * 131072 := Nat.mul_le_mul (by omega) (by omega)
      obtain ⟨X, hX⟩ : ∃ X, A * A = X := ⟨_, rfl⟩
      obtain ⟨Y, hY⟩ : ∃ Y, P * A = Y := ⟨_, rfl⟩
      have w1 : IntKind.i64.wrap ((A : Int) * (A : Int)) = (X : Int) := by
        rw [(Int.natCast_mul A A).symm, hX]; exact IntWalk.i64_in _ (by omega)
      have w2 : IntKind.i64.wrap ((P : Int) * (A : Int)) = (Y : Int) := by
        rw [(Int.natCast_mul P A).symm, hY]; exact IntWalk.i64_in _ (by omega)
      have m1 := natmod X q
      have m1' := natmod' X q
      have m2 := natmod Y q
      have m2' := natmod' Y q
      have hX1 : X % q < q := Nat.mod_lt _ (by omega)
      have hY1 : Y % q < q := Nat.mod_lt _ (by omega)
      have HO := Lib.hid (fun k (h : m = 2 * k + 1) => (show (Y % q) * (X % q) ^ k % q = z by rw [← hX, ← hY, gpow_odd h]; exact HM.out))
      have HE := Lib.hid (fun k (h : m = 2 * k) => (show P * (X % q) ^ k % q = z by rw [← hX, gpow_even h]; exact HM.out))
      generalize X % q = x at *
      generalize Y % q = y at *
      obtain ⟨k, hk⟩ : ∃ k, m / 2 = k := ⟨_, rfl⟩
      have d1 : ((m : Int)).tdiv 2 = ((k : Nat) : Int) := by rw [← hk]; rfl
      have d1' : ((m : Int)) / 2 = ((k : Nat) : Int) := d1
      have wd1 : IntKind.i64.wrap ((k : Nat) : Int) = ((k : Nat) : Int) := IntWalk.i64_in _ (by omega)
      have m3 := natmod m 2
      have m3' := natmod' m 2
      obtain ⟨r, hr⟩ : ∃ r, m % 2 = r := ⟨_, rfl⟩
      have hr2 : r < 2 := by omega
      rw [show ((2 : Nat) : Int) = 2 from rfl, hr] at m3 m3'
      by_cases h1 : r = 1
      · subst h1
        have HO1 := Lib.hid (HO.out k (by omega))
        clear hX hY hk HO HE HM hr
        go_wp2_with fail
        go_roundw
        case rel => exact ⟨x, k, y, by go_num, by go_num, by go_num, hX1, hY1, by omega, HO1, by first | trivial | rfl⟩
        case measure => (first | (simp [intOf]; done) | (simp [intOf]; omega) | (simp only [intOf]; omega))
      · obtain rfl : r = 0 := by omega
        have HE1 := Lib.hid (HE.out k (by omega))
        clear hX hY hk HO HE HM hr
        go_wp2_with fail
        go_roundw
        case rel => exact ⟨x, k, P, by go_num, by go_num, by go_num, hX1, hP, by omega, HE1, by first | trivial | rfl⟩
        case measure => (first | (simp [intOf]; done) | (simp [intOf]; omega) | (simp only [intOf]; omega))
theorem r9_order (q a : Nat) (W : World) (hq : isP q) (hq2 : q ≤ 131072) (h1 : 1 ≤ a) (ha : a < q) :
    Calls Try.prog 47 #[.int .i64 (q : Int), .int .i64 (a : Int)] W fun e w' => ∃ k : Nat, e = .returned (.int .i64 (k : Int)) ∧ IsOrd q a k ∧ k ≤ q - 1 ∧ k ∣ q - 1 ∧ W = w' := by
  have q0 := hq.1
  have q1 : ((q : Int) == 0) = false := by simp; omega
  have q2 : ¬ ((q : Int) = 0) := by omega
  have q3 : ¬ (q = 0) := by omega
  have HF := Lib.hid (pow_fer hq h1 ha)
  have HD := Lib.hid (fun k (h : IsOrd q a k) => h.dvd q0 (pow_fer hq h1 ha))
  have m0 := natmod a q
  have m0' := natmod' a q
  rw [Nat.mod_eq_of_lt ha] at m0 m0'
  go_enter Try.func47, Try.ntmps47
  go_wp2_with fail
  go_loopw [5, 6] (fun x y wr => ∃ p k : Nat, x = .int .i64 p ∧ y = .int .i64 k ∧ p < q ∧ 1 ≤ k ∧ k ≤ q - 1 ∧ Hid (a ^ k % q = p) ∧ Hid (∀ j, 1 ≤ j → j < k → a ^ j % q ≠ 1) ∧ wr = W) (fun _ y _ => q - (intOf y).toNat)
  case atStart => exact ⟨a, 1, rfl, rfl, ha, Nat.le_refl _, by omega, Lib.hid (by rw [Nat.pow_one, Nat.mod_eq_of_lt ha]), Lib.hid (fun j j1 j2 => by omega), rfl⟩
  case round =>
    obtain ⟨p, k, rfl, rfl, hp, hk1, hk2, HP, HL, rfl⟩ := hrel
    by_cases h : p = 1
    · subst h
      have HO := Lib.hid (show IsOrd q a k from ⟨hk1, HP.out, HL.out⟩)
      go_wp2_with fail
      go_ret
      exact ⟨k, rfl, HO.out, hk2, HD.out k HO.out, rfl⟩
    · have e1 : ((p : Int) != 1) = true := by simp; omega
      have hk3 : k + 1 ≤ q - 1 := by
        by_cases e : k = q - 1
        · exfalso; subst e; exact h (by rw [← HP.out, HF.out])
        · omega
      have hpa : p * a ≤ 131072 * 131072 := Nat.mul_le_mul (by omega) (by omega)
      obtain ⟨X, hX⟩ : ∃ X, p * a = X := ⟨_, rfl⟩
      have w1 : IntKind.i64.wrap ((p : Int) * (a : Int)) = (X : Int) := by
        rw [(Int.natCast_mul p a).symm, hX]; exact IntWalk.i64_in _ (by omega)
      have m1 := natmod X q
      have m1' := natmod' X q
      have hX1 : X % q < q := Nat.mod_lt _ (by omega)
      have HP2 := Lib.hid (show a ^ (k + 1) % q = X % q by rw [Nat.pow_succ, Nat.mul_mod, HP.out, Nat.mod_eq_of_lt ha, hX])
      have HL2 := Lib.hid (show ∀ j, 1 ≤ j → j < k + 1 → a ^ j % q ≠ 1 from fun j j1 j2 => by
        by_cases e : j = k
        · rw [e, HP.out]; exact h
        · exact HL.out j j1 (by omega))
      generalize X % q = x at *
      clear hX
      go_wp2_with fail
      go_roundw
      case rel => exact ⟨x, k + 1, by go_num, by go_num, hX1, by omega, hk3, HP2, HL2, by first | trivial | rfl⟩
      case measure => (first | (simp [intOf]; done) | (simp [intOf]; omega) | (simp only [intOf]; omega))
/-- What the program's order keeps: of the first i primes all were taken out that may be. -/
structure OkI (q a N i : Nat) (p j e n : Nat) : Prop where
  one : 1 ≤ n
  dvd : n ∣ N
  pow : a ^ n % q = 1
  past : ∀ x ∈ (fa N).take i, x.1 ∣ n → a ^ (n / x.1) % q ≠ 1
  next : ∀ x ∈ (fa N).drop (i + 1), x.1 ≠ p ∧ mu x.1 n = x.2
  here : mu p n + j = e
  prime : isP p
structure OkO (q a N i n : Nat) : Prop where
  one : 1 ≤ n
  dvd : n ∣ N
  pow : a ^ n % q = 1
  past : ∀ x ∈ (fa N).take i, x.1 ∣ n → a ^ (n / x.1) % q ≠ 1
  next : ∀ x ∈ (fa N).drop i, mu x.1 n = x.2
theorem OkO.start {q a N : Nat} (hN : 1 ≤ N) (h : a ^ N % q = 1) : OkO q a N 0 N := by
  refine ⟨hN, Nat.dvd_refl N, h, fun x hx => by simp at hx, fun x hx => ?_⟩
  rw [List.drop_zero] at hx
  obtain ⟨x1, x2⟩ := x
  exact ((fa_mem hN).1 hx).2.2.symm
theorem OkO.enter {q a N i n : Nat} (hN : 1 ≤ N) (h : OkO q a N i n) (hi : i < (fa N).length) : OkI q a N i ((fa N).getD i (0, 0)).1 0 ((fa N).getD i (0, 0)).2 n := by
  have hg : (fa N).getD i (0, 0) = (fa N)[i] := by simp [List.getD, hi]
  rw [hg]
  have hd : (fa N).drop i = (fa N)[i] :: (fa N).drop (i + 1) := List.drop_eq_getElem_cons hi
  have hmem : (fa N)[i] ∈ fa N := List.getElem_mem hi
  have hnd := fl_nodup N (N + 1)
  refine ⟨h.one, h.dvd, h.pow, h.past, ?_, ?_, ?_⟩
  · intro x hx
    refine ⟨?_, h.next x (by rw [hd]; exact List.mem_cons_of_mem _ hx)⟩
    intro e
    have hnd2 : (((fa N).drop i).map (·.1)).Nodup := by
      rw [List.map_drop]
      exact hnd.sublist (List.drop_sublist i _)
    rw [hd, List.map_cons, List.nodup_cons] at hnd2
    exact hnd2.1 (List.mem_map.2 ⟨x, hx, e⟩)
  · rw [Nat.add_zero]; exact h.next _ (by rw [hd]; exact List.mem_cons_self)
  · rcases hx : (fa N)[i] with ⟨x1, x2⟩
    rw [hx] at hmem
    exact ((fa_mem hN).1 hmem).1
theorem OkI.more {q a N i p j e n : Nat} (hN : 1 ≤ N) (hq : 2 ≤ q) (h : OkI q a N i p j e n) (hj : j < e) :
    ∃ m, n / p = m ∧ p ∣ n ∧ 1 ≤ m ∧ m ≤ n ∧ (a ^ m % q = 1 → OkI q a N i p (j + 1) e m) := by
  have hp := h.prime.1
  have hd : p ∣ n := (mu_pos hp h.one).1 (by have := h.here; omega)
  obtain ⟨m, hm⟩ := hd
  have hm1 : 1 ≤ m := by
    rcases Nat.eq_zero_or_pos m with z | z
    · have := h.one; rw [z] at hm; omega
    · exact z
  refine ⟨m, by rw [hm, Nat.mul_div_cancel_left _ (by omega)], ⟨m, hm⟩, hm1, ?_, fun h1 => ?_⟩
  · rw [hm]; exact Nat.le_mul_of_pos_left m (by omega)
  · refine ⟨hm1, Nat.dvd_trans ⟨p, by rw [hm, Nat.mul_comm]⟩ h.dvd, h1, ?_, ?_, ?_, h.prime⟩
    · intro x hx hd he
      refine h.past x hx (Nat.dvd_trans hd ⟨p, by rw [hm, Nat.mul_comm]⟩) ?_
      obtain ⟨c, hc⟩ := hd
      have hx0 : 0 < x.1 := by
        rcases Nat.eq_zero_or_pos x.1 with z | z
        · rw [z] at hc; omega
        · exact z
      rw [hm, hc, show p * (x.1 * c) = x.1 * (c * p) by rw [← Nat.mul_assoc, Nat.mul_comm p, Nat.mul_assoc, Nat.mul_comm p], Nat.mul_div_cancel_left _ hx0]
      rw [hc, Nat.mul_div_cancel_left _ hx0] at he
      exact pow_mul_one hq he p
    · intro x hx
      obtain ⟨a1, a2⟩ := h.next x hx
      refine ⟨a1, ?_⟩
      have hxp : isP x.1 := by
        have hmem := List.mem_of_mem_drop hx
        rcases x with ⟨x1, x2⟩
        exact ((fa_mem hN).1 hmem).1
      rw [hm, mu_other hxp h.prime a1 m hm1] at a2
      exact a2
    · have := h.here
      rw [hm, mu_mul hp hm1] at this
      omega
theorem OkI.leave {q a N i p j e n : Nat} (h : OkI q a N i p j e n) (hi : i < (fa N).length) (hp : ((fa N).getD i (0, 0)).1 = p) (hx : p ∣ n → a ^ (n / p) % q ≠ 1) : OkO q a N (i + 1) n := by
  have hg : (fa N).getD i (0, 0) = (fa N)[i] := by simp [List.getD, hi]
  rw [hg] at hp
  refine ⟨h.one, h.dvd, h.pow, ?_, fun x hx => (h.next x hx).2⟩
  intro x hx' hd
  rw [List.take_succ_eq_append_getElem hi] at hx'
  rcases List.mem_append.1 hx' with g | g
  · exact h.past x g hd
  · have : x = (fa N)[i] := by simpa using g
    rw [this, hp] at hd ⊢
    exact hx hd
theorem OkI.end {q a N i p e n : Nat} (h : OkI q a N i p e e n) : ¬ p ∣ n := fun hd => by
  have := (mu_pos h.prime.1 h.one).2 hd
  have := h.here
  omega
theorem OkO.done {q a N n : Nat} (hq : 2 ≤ q) (hN : 1 ≤ N) (h : OkO q a N (fa N).length n) : IsOrd q a n := by
  refine ord_prime hq h.one h.pow (fun p hp hd => ?_)
  refine h.past (p, mu p N) ?_ hd
  rw [List.take_length]
  exact (fa_mem hN).2 ⟨hp, Nat.dvd_trans hd h.dvd, rfl⟩
end Go.Proofs.Ytcfmiflhhjoofaa
