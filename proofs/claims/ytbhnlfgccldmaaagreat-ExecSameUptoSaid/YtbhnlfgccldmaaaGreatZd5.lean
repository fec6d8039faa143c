/- Put together by program (merge.py): Root Fac Owni Facp. -/
import Derived.Deep.AppendSrc
import Derived.Deep.Upon
import Derived.Test.YtbhnlfgccldmaaaGreatZd1
import Derived.Test.YtbhnlfgccldmaaaGreatZd2
import Derived.Test.YtbhnlfgccldmaaaGreatZd4
/- Package root, and the document's own answers of layer 4. -/
namespace Go.Proofs.YtbhnlfgccldmaaaGreat
open Go.ChangeShapes Go.WideShapes Go.ChangeAt Go.RowKit
set_option linter.unusedVariables false

/-- Is it a size? -/
def hasb (n : Int) : Bool := decide (1 ≤ n ∧ n ≤ 16777216 ∧ 18446744069414584320 % n = 0)
theorem hasb_yes {n : Int} (h : 1 ≤ n) (h1 : n ≤ 16777216) (h2 : 18446744069414584320 % n = 0) : hasb n = true := decide_eq_true ⟨h, h1, h2⟩

theorem hasb_no {n : Int} (h : ¬ (1 ≤ n ∧ n ≤ 16777216 ∧ 18446744069414584320 % n = 0)) : hasb n = false := decide_eq_false h
theorem hasb_dvd {n : Int} (h : hasb n = true) : 1 ≤ n ∧ n ≤ 16777216 ∧ 18446744069414584320 % n = 0 := of_decide_eq_true h

theorem root_has (n : Int) (w : World) (h0 : -9223372036854775808 ≤ n) (h1 : n ≤ 9223372036854775807) :
    Calls Tryz.prog 68 #[.int .i64 n] w fun e w' => e = .returned (.bool (hasb n)) ∧ w = w' := by
  by_cases a : 1 ≤ n ∧ n ≤ 16777216
  · obtain ⟨a, b⟩ := a
    have hz : (n == 0) = false := by simp; omega
    by_cases c : 18446744069414584320 % n = 0
    · have HH := Lib.hid (hasb_yes a b c)
      have hc : ((18446744069414584320 : Int) % n == 0) = true := by simpa using c
      clear c
      go_enter Tryz.func68, Tryz.ntmps68
      go_wp2
      go_ret
      exact ⟨ret_bool HH.out.symm, rfl⟩
    · have HH := Lib.hid (hasb_no (n := n) (fun h => c h.2.2))
      have hc : ((18446744069414584320 : Int) % n == 0) = false := by simpa using c
      clear c
      go_enter Tryz.func68, Tryz.ntmps68
      go_wp2
      go_ret
      exact ⟨ret_bool HH.out.symm, rfl⟩
  · have HH := Lib.hid (hasb_no (n := n) (fun h => a ⟨h.1, h.2.1⟩))
    have c1 : n < 1 ∨ (1 ≤ n ∧ 16777216 < n) := by omega
    clear a
    rcases c1 with c | ⟨c, d⟩
    · go_enter Tryz.func68, Tryz.ntmps68
      go_wp2
      go_ret
      exact ⟨ret_bool HH.out.symm, rfl⟩
    · have hd : decide (n ≤ 16777216) = false := decide_eq_false (by omega)
      go_enter Tryz.func68, Tryz.ntmps68
      go_wp2
      go_ret
      exact ⟨ret_bool HH.out.symm, rfl⟩
theorem r4_has (n : Int) (w : World) (h0 : -9223372036854775808 ≤ n) (h1 : n ≤ 9223372036854775807) :
    Calls Tryz.prog 29 #[.int .i64 n] w fun e w' => e = .returned (.bool (hasb n)) ∧ w = w' := by
  by_cases a : 1 ≤ n ∧ n ≤ 16777216
  · obtain ⟨a, b⟩ := a
    have hz : (n == 0) = false := by simp; omega
    by_cases c : 18446744069414584320 % n = 0
    · have HH := Lib.hid (hasb_yes a b c)
      have hc : ((18446744069414584320 : Int) % n == 0) = true := by simpa using c
      clear c
      go_enter Tryz.func29, Tryz.ntmps29
      go_wp2
      go_ret
      exact ⟨ret_bool HH.out.symm, rfl⟩
    · have HH := Lib.hid (hasb_no (n := n) (fun h => c h.2.2))
      have hc : ((18446744069414584320 : Int) % n == 0) = false := by simpa using c
      clear c
      go_enter Tryz.func29, Tryz.ntmps29
      go_wp2
      go_ret
      exact ⟨ret_bool HH.out.symm, rfl⟩
  · have HH := Lib.hid (hasb_no (n := n) (fun h => a ⟨h.1, h.2.1⟩))
    have c1 : n < 1 ∨ (1 ≤ n ∧ 16777216 < n) := by omega
    clear a
    rcases c1 with c | ⟨c, d⟩
    · go_enter Tryz.func29, Tryz.ntmps29
      go_wp2
      go_ret
      exact ⟨ret_bool HH.out.symm, rfl⟩
    · have hd : decide (n ≤ 16777216) = false := decide_eq_false (by omega)
      go_enter Tryz.func29, Tryz.ntmps29
      go_wp2
      go_ret
      exact ⟨ret_bool HH.out.symm, rfl⟩

/-- The exponent of the root of n. -/
def rex (n : Int) : Nat := (18446744069414584320 / n).toNat
/-- The root of the order n. -/
def rt (n : Int) : Int := fm (7 ^ rex n)
theorem rt_lo (n : Int) : 0 ≤ rt n := fm_lo _
theorem rt_hi (n : Int) : rt n ≤ 18446744069414584320 := fm_hi _
theorem rex_cast {n : Int} (h : 1 ≤ n) : ((rex n : Nat) : Int) = 18446744069414584320 / n ∧ rex n ≤ 18446744073709551615 := by
  unfold rex
  have h0 : 0 ≤ 18446744069414584320 / n := Int.ediv_nonneg (by omega) (by omega)
  have h1 : 18446744069414584320 / n ≤ 18446744069414584320 := Int.ediv_le_self _ (by omega)
  omega
theorem root_root (n : Int) (w : World) (h0 : -9223372036854775808 ≤ n) (h1 : n ≤ 9223372036854775807) (hh : hasb n = true) :
    Calls Tryz.prog 184 #[.int .i64 n] w fun e w' => e = .returned (.tuple #[.int .u64 (rt n), .int .i64 0]) ∧ Below w.heap.size w w' := by
  obtain ⟨a, b, c⟩ := hasb_dvd hh
  obtain ⟨e1, e2⟩ := rex_cast a
  have P := Lib.hid (fun w => gold_pow 7 (rex n) w (by decide) (by decide) e2)
  have R := Lib.hid (root_has n w h0 h1)
  have HE := Lib.hid e1
  have hz : (n == 0) = false := by simp; omega
  have HH := Lib.hid hh
  clear hh c e1 e2
  go_enter Tryz.func184, Tryz.ntmps184
  go_wp2_with fail
  have R' := R.out
  rw [HH.out] at R'
  refine R'.mono ?_
  clear R'
  rintro e w1 ⟨rfl, rfl⟩
  go_wp2_with fail
  rw [← HE.out]
  refine (P.out _).mono ?_
  rintro e w1 ⟨rfl, hb⟩
  go_wp2_with fail
  go_ret2
  exact ⟨rfl, hb⟩
theorem root_none (n : Int) (w : World) (h0 : -9223372036854775808 ≤ n) (h1 : n ≤ 9223372036854775807) (hh : hasb n = false) :
    Calls Tryz.prog 184 #[.int .i64 n] w fun e w' => e = .returned (.tuple #[.int .u64 0, .int .i64 4]) ∧ w = w' := by
  have R := root_has n w h0 h1
  rw [hh] at R
  have R := Lib.hid R
  clear hh
  go_enter Tryz.func184, Tryz.ntmps184
  go_wp2_with fail
  refine R.out.mono ?_
  rintro e w1 ⟨rfl, rfl⟩
  go_wp2_with fail
  go_ret2
  exact ⟨rfl, rfl⟩

theorem rt_two : rt 2 = 18446744069414584320 := by
  have := Fld.fm_natpow 7 9223372034707292160 18446744069414584320 64 (by decide +kernel) (by decide +kernel)
  exact this
theorem rt_four : rt 4 = 281474976710656 := by
  have := Fld.fm_natpow 7 4611686017353646080 281474976710656 64 (by decide +kernel) (by decide +kernel)
  exact this
end Go.Proofs.YtbhnlfgccldmaaaGreat
/- Primes of a number: plain numbers, no Go text. -/
namespace Go.Proofs.YtbhnlfgccldmaaaGreat
open Go.ChangeShapes Go.WideShapes Go.ChangeAt Go.RowKit
set_option linter.unusedVariables false
def isPb (p : Nat) : Bool := decide (2 ≤ p) && (List.range p).all fun d => decide (d < 2) || decide (p % d ≠ 0)
def isP (p : Nat) : Prop := 2 ≤ p ∧ ∀ d, 2 ≤ d → d < p → ¬ d ∣ p
theorem isPb_iff (p : Nat) : isPb p = true ↔ isP p := by
  unfold isPb isP
  rw [Bool.and_eq_true, decide_eq_true_iff, List.all_eq_true]
  constructor
  · rintro ⟨h1, h2⟩
    refine ⟨h1, fun d hd hlt hdv => ?_⟩
    have := h2 d (List.mem_range.2 hlt)
    rw [Bool.or_eq_true, decide_eq_true_iff, decide_eq_true_iff] at this
    rcases this with h | h
    · omega
    · exact h (Nat.mod_eq_zero_of_dvd hdv)
  · rintro ⟨h1, h2⟩
    refine ⟨h1, fun d hd => ?_⟩
    rw [Bool.or_eq_true, decide_eq_true_iff, decide_eq_true_iff]
    by_cases h : d < 2
    · exact .inl h
    · exact .inr (fun e => h2 d (by omega) (List.mem_range.1 hd) (Nat.dvd_of_mod_eq_zero e))
theorem isP.dvd {p d : Nat} (h : isP p) (hd : d ∣ p) : d = 1 ∨ d = p := by
  have hle := Nat.le_of_dvd (by have := h.1; omega) hd
  by_cases h0 : d = 0
  · subst h0; have := Nat.eq_zero_of_zero_dvd hd; have := h.1; omega
  by_cases h1 : d = 1
  · exact .inl h1
  by_cases h2 : d = p
  · exact .inr h2
  exact absurd hd (h.2 d (by omega) (by omega))
theorem isP.dvd_mul {p a b : Nat} (h : isP p) (hd : p ∣ a * b) : p ∣ a ∨ p ∣ b := by
  rcases h.dvd (Nat.gcd_dvd_left p a) with e | e
  · exact .inr (Nat.Coprime.dvd_of_dvd_mul_left e hd)
  · exact .inl (by rw [← e]; exact Nat.gcd_dvd_right p a)
/-- How often p divides n. -/
def mu (p n : Nat) : Nat := if h : 2 ≤ p ∧ 1 ≤ n ∧ p ∣ n then mu p (n / p) + 1 else 0
termination_by n
decreasing_by exact Nat.div_lt_self (by omega) (by omega)
theorem mu_no {p n : Nat} (h : ¬ p ∣ n) : mu p n = 0 := by rw [mu, dif_neg (fun x => h x.2.2)]
theorem mu_mul {p n : Nat} (hp : 2 ≤ p) (hn : 1 ≤ n) : mu p (p * n) = mu p n + 1 := by
  rw [mu, dif_pos ⟨hp, Nat.mul_pos (by omega) hn, Nat.dvd_mul_right _ _⟩, Nat.mul_div_cancel_left _ (by omega)]
theorem mu_pow {p n : Nat} (hp : 2 ≤ p) (hn : 1 ≤ n) : ∀ e, mu p (p ^ e * n) = e + mu p n
  | 0 => by rw [Nat.pow_zero, Nat.one_mul, Nat.zero_add]
  | e + 1 => by
    rw [Nat.pow_succ, Nat.mul_comm (p ^ e), Nat.mul_assoc, mu_mul hp (Nat.mul_pos (Nat.pow_pos (by omega)) hn), mu_pow hp hn e]; omega
theorem mu_one (p : Nat) (hp : 2 ≤ p) : mu p 1 = 0 := mu_no (fun h => by have := Nat.le_of_dvd (by omega) h; omega)
theorem mu_pos {p n : Nat} (hp : 2 ≤ p) (hn : 1 ≤ n) : 1 ≤ mu p n ↔ p ∣ n := by
  constructor
  · intro h
    by_cases hd : p ∣ n
    · exact hd
    · rw [mu_no hd] at h; omega
  · rintro ⟨m, rfl⟩
    rw [mu_mul hp (by rcases Nat.eq_zero_or_pos m with h | h; subst h; omega; exact h)]; omega
theorem mu_other {q p : Nat} (hq : isP q) (hp : isP p) (hne : q ≠ p) : ∀ m, 1 ≤ m → mu q (p * m) = mu q m := by
  intro m
  induction m using Nat.strongRecOn with
  | _ m ih =>
    intro hm
    have hp0 := hp.1
    by_cases hd : q ∣ m
    · obtain ⟨c, rfl⟩ := hd
      have hc : 1 ≤ c := by rcases Nat.eq_zero_or_pos c with h | h; subst h; omega; exact h
      have hq0 := hq.1
      rw [show p * (q * c) = q * (p * c) by rw [← Nat.mul_assoc, Nat.mul_comm p q, Nat.mul_assoc], mu_mul hq0 (Nat.mul_pos (by omega) hc), mu_mul hq0 hc, ih c (by have := Nat.mul_le_mul_right c hq0; omega) hc]
    · rw [mu_no hd, mu_no]
      intro h
      rcases hq.dvd_mul h with h | h
      · rcases hp.dvd h with e | e
        · have := hq.1; omega
        · exact hne e
      · exact hd h
theorem mu_others {q p : Nat} (hq : isP q) (hp : isP p) (hne : q ≠ p) (m : Nat) (hm : 1 ≤ m) : ∀ e, mu q (p ^ e * m) = mu q m
  | 0 => by rw [Nat.pow_zero, Nat.one_mul]
  | e + 1 => by
    rw [Nat.pow_succ, Nat.mul_comm (p ^ e), Nat.mul_assoc, mu_other hq hp hne _ (Nat.mul_pos (Nat.pow_pos (by have := hp.1; omega)) hm), mu_others hq hp hne m hm e]
/-- The primes below k that divide N, each with how often it does. -/
def fl (N k : Nat) : List (Nat × Nat) := ((List.range k).filter fun p => isPb p && decide (p ∣ N)).map fun p => (p, mu p N)
theorem fl_yes {N k : Nat} (h : isP k) (hd : k ∣ N) : fl N (k + 1) = fl N k ++ [(k, mu k N)] := by
  unfold fl
  rw [List.range_succ, List.filter_append, List.map_append]
  congr 1
  rw [List.filter_cons, if_pos (by rw [(isPb_iff k).2 h, decide_eq_true hd]; rfl)]
  rfl
theorem fl_no {N k : Nat} (h : ¬ (isP k ∧ k ∣ N)) : fl N (k + 1) = fl N k := by
  unfold fl
  rw [List.range_succ, List.filter_append, List.map_append]
  rw [List.filter_cons, if_neg]
  · simp
  · rw [Bool.and_eq_true, isPb_iff, decide_eq_true_iff]; exact h
theorem fl_same {N a : Nat} : ∀ (b : Nat), a ≤ b → (∀ q, a ≤ q → q < b → ¬ (isP q ∧ q ∣ N)) → fl N b = fl N a := by
  intro b
  induction b with
  | zero => intro h _; rw [show a = 0 by omega]
  | succ b ih =>
    intro h hq
    by_cases e : a = b + 1
    · rw [e]
    · rw [fl_no (hq b (by omega) (by omega)), ih (by omega) (fun q h1 h2 => hq q h1 (by omega))]
def pw : List (Nat × Nat) → Nat
  | [] => 1
  | x :: l => x.1 ^ x.2 * pw l
theorem pw_app : ∀ (a b : List (Nat × Nat)), pw (a ++ b) = pw a * pw b
  | [], b => by rw [List.nil_append, pw, Nat.one_mul]
  | x :: a, b => by rw [List.cons_append, pw, pw, pw_app a b, Nat.mul_assoc]
theorem pw_one (x : Nat × Nat) : pw [x] = x.1 ^ x.2 := by rw [pw, pw, Nat.mul_one]
/-- What is left of N when all primes below p were taken out. -/
structure Rst (N p n : Nat) : Prop where
  two : 2 ≤ p
  top : p ≤ N + 1
  one : 1 ≤ n
  rough : ∀ d, 2 ≤ d → d ∣ n → p ≤ d
  same : ∀ q, isP q → p ≤ q → mu q N = mu q n
  prod : pw (fl N p) * n = N
theorem Rst.le {N p n : Nat} (h : Rst N p n) : n ≤ N := by
  have h1 := h.prod
  rcases Nat.eq_zero_or_pos (pw (fl N p)) with e | e
  · have := h.one; have := h.top; have := h.two; rw [e] at h1; omega
  · have := Nat.le_mul_of_pos_left n e; omega
theorem fl_two (N : Nat) : fl N 2 = [] := by
  unfold fl
  rw [show List.range 2 = [0, 1] from rfl]
  have h0 : isPb 0 = false := rfl
  have h1 : isPb 1 = false := rfl
  simp [h0, h1]
theorem Rst.start {N : Nat} (hN : 1 ≤ N) : Rst N 2 N := ⟨by omega, by omega, hN, fun d h _ => h, fun q _ _ => rfl, by rw [fl_two, pw, Nat.one_mul]⟩
theorem Rst.dvd {N p n : Nat} (h : Rst N p n) : n ∣ N := ⟨pw (fl N p), by rw [Nat.mul_comm]; exact h.prod.symm⟩
theorem Rst.no {N p n : Nat} (h : Rst N p n) (hp : ¬ p ∣ n) : ¬ (isP p ∧ p ∣ N) := by
  rintro ⟨h1, h2⟩
  have hN : 1 ≤ N := by have := h.top; have := h.two; omega
  have := (mu_pos h1.1 hN).2 h2
  rw [h.same p h1 (Nat.le_refl _)] at this
  exact hp ((mu_pos h1.1 h.one).1 this)
theorem Rst.skip {N p n : Nat} (h : Rst N p n) (hp : ¬ p ∣ n) (hn : 1 < n) : Rst N (p + 1) n ∧ fl N (p + 1) = fl N p := by
  have e := fl_no (h.no hp)
  refine ⟨⟨by have := h.two; omega, ?_, h.one, ?_, fun q h1 h2 => h.same q h1 (by omega), by rw [e]; exact h.prod⟩, e⟩
  · have h1 := h.rough n (by omega) (Nat.dvd_refl n)
    have : p ≠ n := fun e => hp (by rw [e]; exact Nat.dvd_refl _)
    have := h.le
    omega
  · intro d h1 h2
    have := h.rough d h1 h2
    have : p ≠ d := fun e => hp (by rw [e]; exact h2)
    omega
theorem Rst.prime {N p n : Nat} (h : Rst N p n) (hp : p ∣ n) : isP p :=
  ⟨h.two, fun d h1 h2 h3 => by have := h.rough d h1 (Nat.dvd_trans h3 hp); omega⟩
theorem Rst.div {N p n e m : Nat} (h : Rst N p n) (hp : p ∣ n) (hn : n = p ^ e * m) (hm : ¬ p ∣ m) : Rst N (p + 1) m ∧ fl N (p + 1) = fl N p ++ [(p, e)] := by
  have hP := h.prime hp
  have h2 := h.two
  have hm1 : 1 ≤ m := by
    rcases Nat.eq_zero_or_pos m with z | z
    · exact absurd (by rw [z]; exact Nat.dvd_zero p) hm
    · exact z
  have he : mu p N = e := by rw [h.same p hP (Nat.le_refl _), hn, mu_pow h2 hm1, mu_no hm, Nat.add_zero]
  have e1 : fl N (p + 1) = fl N p ++ [(p, e)] := by rw [fl_yes hP (Nat.dvd_trans hp h.dvd), he]
  refine ⟨⟨by omega, ?_, hm1, ?_, ?_, ?_⟩, e1⟩
  · have := Nat.le_of_dvd h.one hp
    have := h.le
    omega
  · intro d h1 h3
    have := h.rough d h1 (by rw [hn]; exact Nat.dvd_trans h3 (Nat.dvd_mul_left _ _))
    have : p ≠ d := fun e => hm (by rw [e]; exact h3)
    omega
  · intro q hq h1
    rw [h.same q hq (by omega), hn, mu_others hq hP (by omega) m hm1]
  · rw [e1, pw_app, pw_one, Nat.mul_assoc, ← hn]; exact h.prod
theorem Rst.done {N p : Nat} (h : Rst N p 1) : fl N (N + 1) = fl N p := by
  refine fl_same (N + 1) h.top (fun q h1 h2 => ?_)
  rintro ⟨hq, hd⟩
  have hN : 1 ≤ N := by have := h.top; have := h.two; omega
  have := (mu_pos hq.1 hN).2 hd
  rw [h.same q hq h1, mu_one q hq.1] at this
  omega
theorem Rst.walk {N n : Nat} (hn : 1 < n) : ∀ (d : Nat) {p : Nat}, Rst N p n → p + d = n → (∀ q, 2 ≤ q → q ∣ n → q = n) → Rst N n n ∧ fl N n = fl N p
  | 0, p, h, e, _ => by rw [show p = n by omega] at h ⊢; exact ⟨h, rfl⟩
  | d + 1, p, h, e, hq => by
    obtain ⟨h1, h2⟩ := h.skip (fun hd => by have := hq p h.two hd; omega) hn
    obtain ⟨h3, h4⟩ := Rst.walk hn d h1 (by omega) hq
    exact ⟨h3, h4.trans h2⟩
theorem Rst.last {N p n : Nat} (h : Rst N p n) (hn : 1 < n) (hlt : n < p * p) : isP n ∧ fl N (N + 1) = fl N p ++ [(n, 1)] ∧ Rst N (n + 1) 1 := by
  have hq : ∀ q, 2 ≤ q → q ∣ n → q = n := by
    intro q h1 h2
    obtain ⟨c, rfl⟩ := h2
    have hp := h.rough q h1 (Nat.dvd_mul_right _ _)
    by_cases hc : 2 ≤ c
    · have hc2 := h.rough c hc (Nat.dvd_mul_left _ _)
      have := Nat.mul_le_mul hp hc2
      omega
    · have : c = 0 ∨ c = 1 := by omega
      rcases this with rfl | rfl
      · omega
      · omega
  have hpn := h.rough n (by omega) (Nat.dvd_refl n)
  obtain ⟨h1, h2⟩ := Rst.walk hn (n - p) h (by omega) hq
  obtain ⟨h3, h4⟩ := h1.div (e := 1) (m := 1) (Nat.dvd_refl n) (by rw [Nat.pow_one, Nat.mul_one]) (fun hd => by have := Nat.le_of_dvd (by omega) hd; omega)
  exact ⟨h1.prime (Nat.dvd_refl n), by rw [h3.done, h4, h2], h3⟩
/-- All primes of N. -/
def fa (N : Nat) : List (Nat × Nat) := fl N (N + 1)
theorem fa_mem {N p e : Nat} (hN : 1 ≤ N) : (p, e) ∈ fa N ↔ isP p ∧ p ∣ N ∧ e = mu p N := by
  unfold fa fl
  rw [List.mem_map]
  constructor
  · rintro ⟨q, h, e⟩
    rw [List.mem_filter, Bool.and_eq_true, isPb_iff, decide_eq_true_iff] at h
    cases e
    exact ⟨h.2.1, h.2.2, rfl⟩
  · rintro ⟨h1, h2, rfl⟩
    refine ⟨p, ?_, rfl⟩
    rw [List.mem_filter, Bool.and_eq_true, isPb_iff, decide_eq_true_iff, List.mem_range]
    exact ⟨by have := Nat.le_of_dvd hN h2; omega, h1, h2⟩
theorem mu_split {p : Nat} (hp : 2 ≤ p) : ∀ n, 1 ≤ n → ∃ m, n = p ^ mu p n * m ∧ ¬ p ∣ m := by
  intro n
  induction n using Nat.strongRecOn with
  | _ n ih =>
    intro hn
    by_cases hd : p ∣ n
    · obtain ⟨c, rfl⟩ := hd
      have hc : 1 ≤ c := by rcases Nat.eq_zero_or_pos c with h | h; subst h; omega; exact h
      obtain ⟨m, h1, h2⟩ := ih c (by have := Nat.mul_le_mul_right c hp; omega) hc
      refine ⟨m, ?_, h2⟩
      rw [mu_mul hp hc, Nat.pow_succ, Nat.mul_comm (p ^ _), Nat.mul_assoc, ← h1]
    · exact ⟨n, by rw [mu_no hd, Nat.pow_zero, Nat.one_mul], hd⟩
theorem rst_all {N : Nat} (hN : 1 ≤ N) : ∀ (f p n : Nat), n + N + 2 - p ≤ f → Rst N p n → pw (fa N) = N := by
  intro f
  induction f with
  | zero => intro p n hf h; have := h.top; omega
  | succ f ih =>
    intro p n hf h
    by_cases h1 : n = 1
    · subst h1
      unfold fa
      rw [h.done]
      have := h.prod
      omega
    have ho := h.one
    have ht := h.top
    by_cases hd : p ∣ n
    · obtain ⟨m, e1, e2⟩ := mu_split h.two n ho
      have hle : m ≤ n := by
        have := Nat.le_mul_of_pos_left m (Nat.pow_pos (n := mu p n) (show 0 < p by have := h.two; omega))
        omega
      exact ih (p + 1) m (by omega) (h.div hd e1 e2).1
    · exact ih (p + 1) n (by omega) (h.skip hd (by omega)).1
theorem pw_fa {N : Nat} (hN : 1 ≤ N) : pw (fa N) = N := rst_all hN _ 2 N (Nat.le_refl _) (Rst.start hN)
theorem fa_prime {N : Nat} (h : isP N) : fa N = [(N, 1)] := by
  have h1 := h.1
  obtain ⟨h3, h4⟩ := Rst.walk (n := N) (by omega) (N - 2) (Rst.start (by omega)) (by omega) (fun q h2 h3 => by rcases h.dvd h3 with e | e <;> omega)
  obtain ⟨h5, h6⟩ := h3.div (e := 1) (m := 1) (Nat.dvd_refl N) (by rw [Nat.pow_one, Nat.mul_one]) (fun hd => by have := Nat.le_of_dvd (by omega) hd; omega)
  unfold fa
  rw [h5.done, h6, h4, fl_two]; rfl
theorem fa_one {N p : Nat} (hN : 1 ≤ N) (h : fa N = [(p, 1)]) : isP N := by
  have h1 := pw_fa hN
  rw [h, pw_one] at h1
  have h2 := (fa_mem (p := p) (e := 1) hN).1 (by rw [h]; simp)
  have : p = N := by simpa using h1
  rw [← this]; exact h2.1
end Go.Proofs.YtbhnlfgccldmaaaGreat
/- 'append(nil, l...)' of ints; small laws of rows of ints. -/
namespace Go.Proofs.YtbhnlfgccldmaaaGreat
open Go.ChangeShapes Go.WideShapes Go.ChangeAt Go.RowKit
set_option linter.unusedVariables false
end Go.Proofs.YtbhnlfgccldmaaaGreat
/- Package fact: Factors of any number. -/
namespace Go.Proofs.YtbhnlfgccldmaaaGreat
open Go.ChangeShapes Go.WideShapes Go.ChangeAt Go.RowKit
set_option linter.unusedVariables false
def pwl : List (Nat × Nat) → List Value
  | [] => []
  | x :: l => .int .i64 (x.1 : Int) :: .int .i64 (x.2 : Int) :: pwl l
theorem pwl_snoc : ∀ (l : List (Nat × Nat)) (x : Nat × Nat), pwl (l ++ [x]) = pwl l ++ [.int .i64 (x.1 : Int), .int .i64 (x.2 : Int)]
  | [], x => rfl
  | y :: l, x => by rw [List.cons_append, pwl, pwl_snoc l x, pwl]; rfl
theorem pwl_at : ∀ (l : List (Nat × Nat)) (i : Nat), i < l.length → (pwl l)[i * 2]? = some (.int .i64 ((l.getD i (0, 0)).1 : Int)) ∧ (pwl l)[i * 2 + 1]? = some (.int .i64 ((l.getD i (0, 0)).2 : Int))
  | x :: l, 0, _ => ⟨rfl, rfl⟩
  | x :: l, i + 1, h => by
    rw [List.length_cons] at h
    obtain ⟨h1, h2⟩ := pwl_at l i (by omega)
    rw [pwl, show (i + 1) * 2 = i * 2 + 1 + 1 by omega, show i * 2 + 1 + 1 + 1 = (i * 2 + 1) + 1 + 1 from rfl]
    rw [List.getElem?_cons_succ, List.getElem?_cons_succ, List.getElem?_cons_succ, List.getElem?_cons_succ]
    exact ⟨h1, h2⟩
def OwnsP (w : World) (B : Nat) (v : Value) (L : List (Nat × Nat)) : Prop := w.ownsRow B 161 2 v L.length (pwl L)
theorem OwnsP.nil (w : World) (B : Nat) : OwnsP w B (.slice none 0 0) [] := World.ownsRow_nil w B 161 2
theorem append_pws {ops : Array Oper} {rest : List Oper} {o : Oper} {a : Act} {Q : Exit → Act → World → Prop} {W : World} {B : Nat} {v : Value} {L : List (Nat × Nat)} {p q : Nat} (hgd : o.guard = none) (s x : Operand)
    (ho : o.op = .call { callee := .builtin .append, args := #[s, x], argTypes := #[157, 157] }) (hs : a.eval s = v) (hown : OwnsP W B v L) (hx : a.eval x = .slice (some ⟨W.heap.size, 0, none⟩) 1 1) (hB : B ≤ W.heap.size) (hn : L.length < 1000)
    (h : ∀ v' w', OwnsP w' B v' (L ++ [(p, q)]) → Below B W w' → wpList Tryz.prog ops Q rest (a.put o.dst v') w') : wpList Tryz.prog ops Q (o :: rest) a (W.alloc (.cells #[.int .i64 (p : Int), .int .i64 (q : Int)] 161)) := by
  refine append_pw hgd s x ho hs hown hx hB hn ?_
  intro v' w' h1 h2
  refine h v' w' ?_ h2
  unfold OwnsP
  rw [List.length_append, List.length_singleton, pwl_snoc]
  exact h1
/-- What a slice of powers reads as. -/
structure RowP (w : World) (a : Option Addr) (n : Nat) (L : List (Nat × Nat)) : Prop where
  len : L.length = n
  cell : ∀ i, i < n → ∃ b off, a = some ⟨b, off, none⟩ ∧ b < w.heap.size ∧ w.cell? ⟨b, off + i * 2, none⟩ = some (.int .i64 ((L.getD i (0, 0)).1 : Int)) ∧ w.cell? ⟨b, off + i * 2 + 1, none⟩ = some (.int .i64 ((L.getD i (0, 0)).2 : Int))
theorem RowP.below {w w' : World} {a : Option Addr} {n : Nat} {L : List (Nat × Nat)} (h : RowP w a n L) (hb : Below w.heap.size w w') : RowP w' a n L := by
  refine ⟨h.len, fun i hi => ?_⟩
  obtain ⟨b, off, e, hlt, h1, h2⟩ := h.cell i hi
  exact ⟨b, off, e, by have := hb.size; omega, (hb.cell (p := ⟨b, off + i * 2, none⟩) hlt).trans h1, (hb.cell (p := ⟨b, off + i * 2 + 1, none⟩) hlt).trans h2⟩
theorem OwnsP.row {w : World} {B : Nat} {v : Value} {L : List (Nat × Nat)} (h : OwnsP w B v L) : ∃ a c, v = .slice a L.length c ∧ RowP w a L.length L := by
  by_cases h0 : 0 < L.length
  · obtain ⟨g, cap, rfl, _, _⟩ := World.ownsRow.form h h0
    refine ⟨_, cap, rfl, rfl, fun i hi => ?_⟩
    have hlt := (World.ownsRow.lt h g rfl).2
    obtain ⟨e1, e2⟩ := pwl_at L i hi
    have c1 := World.ownsRow.cellAt h (i * 2) (by omega)
    have c2 := World.ownsRow.cellAt h (i * 2 + 1) (by omega)
    rw [e1] at c1
    rw [e2] at c2
    exact ⟨g, 0, rfl, hlt, by rw [Nat.zero_add]; exact c1, by rw [Nat.zero_add]; exact c2⟩
  · have : L = [] := List.length_eq_zero_iff.1 (by omega)
    subst this
    rcases h.2 with ⟨hv, _⟩ | ⟨g, cap, _, hv, _⟩
    · exact ⟨none, 0, hv, rfl, fun i hi => by cases hi⟩
    · exact ⟨_, cap, hv, rfl, fun i hi => by cases hi⟩
def GivesP (w : World) (L : List (Nat × Nat)) (e : Ending) (w' : World) : Prop := ∃ a c, e = .returned (.tuple #[.slice a L.length c, .int .i64 0]) ∧ RowP w' a L.length L ∧ Below w.heap.size w w'
theorem pw_len : ∀ (L : List (Nat × Nat)), (∀ x ∈ L, 2 ≤ x.1 ∧ 1 ≤ x.2) → 2 ^ L.length ≤ pw L
  | [], _ => by simp [pw]
  | x :: L, h => by
    have h1 := pw_len L (fun y hy => h y (by simp [hy]))
    obtain ⟨h2, h3⟩ := h x (by simp)
    rw [List.length_cons, Nat.pow_succ, pw, Nat.mul_comm]
    refine Nat.mul_le_mul ?_ h1
    calc 2 ≤ x.1 := h2
      _ = x.1 ^ 1 := (Nat.pow_one _).symm
      _ ≤ x.1 ^ x.2 := Nat.pow_le_pow_right (by omega) h3
theorem fl_all {N k : Nat} (hN : 1 ≤ N) : ∀ x ∈ fl N k, 2 ≤ x.1 ∧ 1 ≤ x.2 := by
  intro x hx
  unfold fl at hx
  obtain ⟨p, hp, rfl⟩ := List.mem_map.1 hx
  rw [List.mem_filter, Bool.and_eq_true, isPb_iff, decide_eq_true_iff] at hp
  exact ⟨hp.2.1.1, (mu_pos hp.2.1.1 hN).2 hp.2.2⟩
theorem Rst.len {N p n : Nat} (h : Rst N p n) (hN : N ≤ 16777216) : (fl N p).length < 25 := by
  have h1 := pw_len (fl N p) (fl_all (by have := h.top; have := h.two; omega))
  have h2 := h.prod
  have h3 : pw (fl N p) ≤ N := by
    have := Nat.le_mul_of_pos_right (pw (fl N p)) h.one
    omega
  by_cases hlt : (fl N p).length < 25
  · exact hlt
  · have := Nat.pow_le_pow_right (n := 2) (by omega) (show 25 ≤ (fl N p).length by omega)
    omega
theorem fact_withinb (n : Int) (w : World) : Calls Tryz.prog 168 #[.int .i64 n] w fun e w' => e = .returned (.bool (decide (1 ≤ n ∧ n ≤ 16777216))) ∧ w = w' := by
  by_cases h1 : 1 ≤ n
  · have g1 : decide (1 ≤ n) = true := decide_eq_true h1
    by_cases h2 : n ≤ 16777216
    · have g2 : decide (n ≤ 16777216) = true := decide_eq_true h2
      rw [decide_eq_true ⟨h1, h2⟩]
      go_enter Tryz.func168, Tryz.ntmps168
      go_wp2_with fail
      go_ret
      exact ⟨rfl, rfl⟩
    · have g2 : decide (n ≤ 16777216) = false := decide_eq_false h2
      rw [decide_eq_false (fun h => h2 h.2)]
      go_enter Tryz.func168, Tryz.ntmps168
      go_wp2_with fail
      go_ret
      exact ⟨rfl, rfl⟩
  · have g1 : decide (1 ≤ n) = false := decide_eq_false h1
    rw [decide_eq_false (fun h => h1 h.1)]
    go_enter Tryz.func168, Tryz.ntmps168
    go_wp2_with fail
    go_ret
    exact ⟨rfl, rfl⟩
theorem fact_factorsno (n : Int) (W : World) (h : ¬ (1 ≤ n ∧ n ≤ 16777216)) :
    Calls Tryz.prog 142 #[.int .i64 n] W fun e w' => e = .returned (.tuple #[.slice none 0 0, .int .i64 3]) ∧ W = w' := by
  have H := fun w => fact_withinb n w
  rw [decide_eq_false h] at H
  have H := Lib.hid H
  go_enter Tryz.func142, Tryz.ntmps142
  go_wp2_with fail
  go_step3
  go_wp2_with fail
  refine (H.out _).mono ?_
  rintro e w1 ⟨rfl, rfl⟩
  go_wp2_with fail
  rw [Exit.noGoto_ret]
  go_ret2
  exact ⟨rfl, rfl⟩
set_option maxRecDepth 100000 in
set_option maxHeartbeats 4000000 in
theorem fact_factors (N : Nat) (W : World) (h1 : 1 ≤ N) (h2 : N ≤ 16777216) :
    Calls Tryz.prog 142 #[.int .i64 (N : Int)] W (GivesP W (fa N)) := by
  have H := fun w => fact_withinb (N : Int) w
  rw [decide_eq_true (by omega)] at H
  have H := Lib.hid H
  have S0 := Lib.hid (Rst.start h1)
  have L0 := Lib.hid (fl_two N)
  go_enter Tryz.func142, Tryz.ntmps142
  go_wp2_with fail
  go_step3
  go_wp2_with fail
  refine (H.out _).mono ?_
  rintro e w1 ⟨rfl, rfl⟩
  go_wp2_with fail
  go_step3
  go_wp2_with fail
  obtain ⟨wo, rfl⟩ : ∃ wo : World, wo = W := ⟨_, rfl⟩
  go_loopw [0, 4, 5] (fun x v y wr => ∃ (n p p' : Nat) (s : Value), s = v ∧ x = .int .i64 n ∧ y = .int .i64 p ∧ 2 ≤ p ∧ (p' = p ∨ p' = p + 1) ∧ Hid (Rst N p' n) ∧ 1 ≤ n ∧ n ≤ N ∧ Hid (OwnsP wr wo.heap.size v (fl N p')) ∧ Below wo.heap.size wo wr) (fun x _ _ _ => (intOf x).toNat)
  case atStart => exact ⟨N, 2, 2, _, rfl, rfl, rfl, by omega, .inl rfl, S0, h1, Nat.le_refl _, Lib.hid (by rw [L0.out]; exact OwnsP.nil _ _), Below.refl _ _⟩
  case round =>
    clear S0 L0
    obtain ⟨n, p, p', s, rfl, rfl, rfl, hp2, hp', HR, hn1, hnN, HO, hB⟩ := hrel
    by_cases hlt : 1 < n
    · have dd : decide ((1 : Int) < (n : Int)) = true := decide_eq_true (by omega)
      have dd' : decide (1 < n) = true := decide_eq_true hlt
      go_wp2_with fail
      go_loopw [4, 5] (fun v y wr => ∃ q q' : Nat, s = v ∧ y = .int .i64 q ∧ 2 ≤ q ∧ q ≤ n ∧ (q' = q ∨ q' = q + 1) ∧ Hid (Rst N q' n) ∧ Hid (fl N q' = fl N p') ∧ Hid (OwnsP wr wo.heap.size s (fl N p')) ∧ Below wo.heap.size wo wr) (fun _ y _ => n - (intOf y).toNat)
      case atStart =>
        have h0 := HR.out.rough n (by omega) (Nat.dvd_refl n)
        exact ⟨p, p', rfl, rfl, hp2, by omega, hp', HR, Lib.hid rfl, HO, hB⟩
      case round =>
        clear HR HO hB hp2 hp'
        obtain ⟨q, q', rfl, rfl, hq2, hqn, hq', HR, HE, HO, hB⟩ := hrel
        have hz1 : ((q : Int) == 0) = false := by simp; omega
        have hz2 : ¬ ((q : Int) = 0) := by omega
        have hz3 : ¬ (q = 0) := by omega
        have hmod : ((n : Int)).tmod (q : Int) = ((n % q : Nat) : Int) := by
          rw [Int.tmod_eq_emod_of_nonneg (by omega)]; omega
        have hmod' : ((n : Int)) % (q : Int) = ((n % q : Nat) : Int) := by omega
        obtain ⟨r, hr⟩ : ∃ r, n % q = r := ⟨_, rfl⟩
        rw [hr] at hmod hmod'
        by_cases hr0 : r = 0
        · subst hr0
          have hd : q ∣ n := Nat.dvd_of_mod_eq_zero hr
          have hqq : q' = q := by
            rcases hq' with h | h
            · exact h
            · have := HR.out.rough q hq2 hd; omega
          subst hqq
          have HD := Lib.hid (fun e m a b => HR.out.div (e := e) (m := m) hd a b)
          have HLN := HR.out.len h2
          rw [HE.out] at HLN
          have HDV := Lib.hid hd
          clear HR hq' hr hd
          go_wp2_with fail
          go_loopw [0, 6] (fun x y wr => ∃ m j : Nat, x = .int .i64 m ∧ y = .int .i64 j ∧ 1 ≤ m ∧ m ≤ n ∧ j + m ≤ n ∧ Hid (n = q' ^ j * m) ∧ Hid (OwnsP wr wo.heap.size s (fl N p')) ∧ Below wo.heap.size wo wr) (fun x _ _ => (intOf x).toNat)
          case atStart => exact ⟨n, 0, rfl, rfl, hn1, Nat.le_refl _, by omega, Lib.hid (by rw [Nat.pow_zero, Nat.one_mul]), HO, hB⟩
          case round =>
            clear HO hB hmod hmod'
            obtain ⟨m, j, rfl, rfl, hm1, hmn, hjm, HM, HO, hB⟩ := hrel
            have hmod : ((m : Int)).tmod (q' : Int) = ((m % q' : Nat) : Int) := by
              rw [Int.tmod_eq_emod_of_nonneg (by omega)]; omega
            have hmod' : ((m : Int)) % (q' : Int) = ((m % q' : Nat) : Int) := by omega
            obtain ⟨r, hr⟩ : ∃ r, m % q' = r := ⟨_, rfl⟩
            rw [hr] at hmod hmod'
            by_cases hr0 : r = 0
            · subst hr0
              obtain ⟨c, hc⟩ : ∃ c, m / q' = c := ⟨_, rfl⟩
              have hmc : m = q' * c := by rw [← hc]; exact (Nat.mul_div_cancel' (Nat.dvd_of_mod_eq_zero hr)).symm
              have d1 : ((m : Int)).tdiv (q' : Int) = ((c : Nat) : Int) := by rw [← hc]; rfl
              have d1' : ((m : Int)) / (q' : Int) = ((c : Nat) : Int) := d1
              have hc1 : 1 ≤ c := by
                rcases Nat.eq_zero_or_pos c with e | e
                · rw [e] at hmc; omega
                · exact e
              have hcm : 2 * c ≤ m := by rw [hmc]; exact Nat.mul_le_mul_right c hq2
              have wd1 : IntKind.i64.wrap ((c : Nat) : Int) = ((c : Nat) : Int) := IntWalk.i64_in _ (by omega)
              have HM2 := Lib.hid (show n = q' ^ (j + 1) * c by rw [HM.out, hmc, Nat.pow_succ, Nat.mul_assoc])
              clear hr hc hmc
              go_wp2_with fail
              go_roundw
              case rel => exact ⟨c, j + 1, by go_num, by go_num, hc1, by omega, by omega, HM2, HO, hB⟩
              case measure => (first | (simp [intOf]; done) | (simp [intOf]; omega) | (simp only [intOf]; omega))
            · have hz4 : ((r : Int) == 0) = false := by simp; omega
              obtain ⟨g1, g2⟩ := HD.out j m HM.out (fun hd => hr0 (by rw [← hr]; exact Nat.mod_eq_zero_of_dvd hd))
              rw [HE.out] at g2
              have hmlt : m < n := by
                have : m ≠ n := fun e => hr0 (by rw [← hr, e]; exact Nat.mod_eq_zero_of_dvd HDV.out)
                omega
              have G1 := Lib.hid g1
              have G2 := Lib.hid g2
              clear g1 g2 HD hr
              go_wp2_with (at_builtin; refine append_pws (p := q') (q := j) (L := fl N p') rfl _ _ rfl rfl HO.out rfl hB.size (Nat.lt_of_lt_of_le HLN (by decide)) ?_; intro v' w' hO hb')
              have HO2 := Lib.hid (by have := hO; rw [← G2.out] at this; exact this)
              clear hO
              go_wp2_with fail
              go_roundw
              case rel => exact ⟨m, q', q' + 1, _, rfl, by go_num, rfl, hq2, .inr rfl, G1, hm1, Nat.le_trans hmn hnN, HO2, hB.trans hb'⟩
              case measure => (first | (simp [intOf]; done) | (simp [intOf]; omega) | (simp only [intOf]; omega))
        · have hnd : ¬ q ∣ n := fun hd => hr0 (by rw [← hr]; exact Nat.mod_eq_zero_of_dvd hd)
          have hz4 : ((r : Int) == 0) = false := by simp; omega
          have hz5 : ((r : Int) != 0) = true := by simp; omega
          have HS : Hid (Rst N (q + 1) n ∧ fl N (q + 1) = fl N p') := by
            rcases hq' with rfl | rfl
            · obtain ⟨s1, s2⟩ := HR.out.skip hnd hlt
              exact Lib.hid ⟨s1, s2.trans HE.out⟩
            · exact Lib.hid ⟨HR.out, HE.out⟩
          have hqn1 : q + 1 ≤ n := by
            have : q ≠ n := fun e => hnd (by rw [e]; exact Nat.dvd_refl _)
            omega
          obtain ⟨Z, hZ⟩ : ∃ Z, (q + 1) * (q + 1) = Z := ⟨_, rfl⟩
          have hZb : Z ≤ 16777217 * 16777217 := by rw [← hZ]; exact Nat.mul_le_mul (by omega) (by omega)
          have hw : IntKind.i64.wrap (((q : Int) + 1) * ((q : Int) + 1)) = (Z : Int) := by
            rw [show ((q : Int) + 1) * ((q : Int) + 1) = (((q + 1) * (q + 1) : Nat) : Int) by push_cast; rfl, hZ]
            exact IntWalk.i64_in _ (by omega)
          by_cases hgt : n < Z
          · have HL := Lib.hid (HS.out.1.last hlt (by rw [hZ]; exact hgt))
            have HF : Hid (fl N p' ++ [(n, 1)] = fa N) := Lib.hid (by unfold fa; rw [HL.out.2.1, HS.out.2])
            have HLN := HR.out.len h2
            rw [HE.out] at HLN
            have d3 : decide ((n : Int) < (Z : Int)) = true := decide_eq_true (by omega)
            have d3' : decide (n < Z) = true := decide_eq_true hgt
            clear hZ hr HL HS HR HE
            go_wp2_with (at_builtin; refine append_pws (p := n) (q := 1) (L := fl N p') rfl _ _ rfl rfl HO.out rfl hB.size (Nat.lt_of_lt_of_le HLN (by decide)) ?_; intro v' w' hO hb')
            have HO2 := Lib.hid (by have := hO; rw [HF.out] at this; exact this)
            clear hO
            go_wp2_with fail
            obtain ⟨a', c', rfl, hrow⟩ := HO2.out.row
            try rw [Exit.noGoto_ret]
            go_ret2
            exact ⟨_, _, rfl, hrow, hB.trans hb'⟩
          · have d3 : decide ((n : Int) < (Z : Int)) = false := decide_eq_false (by omega)
            have d3' : decide (n < Z) = false := decide_eq_false hgt
            have HS1 := Lib.hid HS.out.1
            have HS2 := Lib.hid HS.out.2
            clear hZ hr HS HR HE
            go_wp2_with fail
            go_roundw
            case rel => exact ⟨q + 1, q + 1, rfl, by go_num, by omega, hqn1, .inl rfl, HS1, HS2, HO, hB⟩
            case measure => (first | (simp [intOf]; done) | (simp [intOf]; omega) | (simp only [intOf]; omega))
    · obtain rfl : n = 1 := by omega
      have HF : Hid (fl N p' = fa N) := Lib.hid (by unfold fa; rw [HR.out.done])
      have HO2 := Lib.hid (by have := HO.out; rw [HF.out] at this; exact this)
      obtain ⟨a', c', rfl, hrow⟩ := HO2.out.row
      have hrow := Lib.hid hrow
      go_wp2_with fail
      rw [Exit.noGoto_ret]
      go_ret2
      exact ⟨_, _, rfl, hrow.out, hB⟩
end Go.Proofs.YtbhnlfgccldmaaaGreat
