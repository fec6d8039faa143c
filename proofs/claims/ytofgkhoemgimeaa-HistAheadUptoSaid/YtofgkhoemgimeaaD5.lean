/- Put together by program (merge.py): Root Fac Owni Facp. -/
import Derived.Deep.AppendSrc
import Derived.Deep.Upon
import Derived.Test.YtofgkhoemgimeaaD1
import Derived.Test.YtofgkhoemgimeaaD2
import Derived.Test.YtofgkhoemgimeaaD4
/- Package root, and the document's own answers of layer 4. -/
namespace Go.Proofs.Ytofgkhoemgimeaa
open Go.ChangeShapes Go.WideShapes Go.ChangeAt Go.RowKit
set_option linter.unusedVariables false

/-- Is it a size? -/
def hasb (n : Int) : Bool := decide (1 ≤ n ∧ n ≤ 16777216 ∧ 18446744069414584320 % n = 0)
theorem hasb_yes {n : Int} (h : 1 ≤ n) (h1 : n ≤ 16777216) (h2 : 18446744069414584320 % n = 0) : hasb n = true := decide_eq_true ⟨h, h1, h2⟩

theorem hasb_no {n : Int} (h : ¬ (1 ≤ n ∧ n ≤ 16777216 ∧ 18446744069414584320 % n = 0)) : hasb n = false := decide_eq_false h
theorem hasb_dvd {n : Int} (h : hasb n = true) : 1 ≤ n ∧ n ≤ 16777216 ∧ 18446744069414584320 % n = 0 := of_decide_eq_true h

/-- The exponent of the root of n. -/
def rex (n : Int) : Nat := (18446744069414584320 / n).toNat
/-- The root of the order n. -/
def rt (n : Int) : Int := fm (7 ^ rex n)
theorem rt_lo (n : Int) : 0 ≤ rt n := fm_lo _
theorem rt_hi (n : Int) : rt n ≤ 18446744069414584320 := fm_hi _
theorem rex_cast {n : Int} (h : 1 ≤ n) : ((rex n : Nat) : Int) = 18446744069414584320 / n ∧ rex n ≤ 18446744073709551615 := by
  unfold rex
  have h0 : 0 ≤ 18446744069414584320 / n := Int.ediv_nonneg (by omega) (by omega)
  have h1 : 18446744069414584320 / n ≤ 18446744069414584320 := Int.ediv_le_self _ (by omega)
  omega
theorem rt_two : rt 2 = 18446744069414584320 := by
  have := Fld.fm_natpow 7 9223372034707292160 18446744069414584320 64 (by decide +kernel) (by decide +kernel)
  exact this
theorem rt_four : rt 4 = 281474976710656 := by
  have := Fld.fm_natpow 7 4611686017353646080 281474976710656 64 (by decide +kernel) (by decide +kernel)
  exact this
end Go.Proofs.Ytofgkhoemgimeaa
/- Primes of a number: plain numbers, no Go text. -/
namespace Go.Proofs.Ytofgkhoemgimeaa
open Go.ChangeShapes Go.WideShapes Go.ChangeAt Go.RowKit
set_option linter.unusedVariables false
def isPb (p : Nat) : Bool := decide (2 ≤ p) && (List.range p).all fun d => decide (d < 2) || decide (p % d ≠ 0)
def isP (p : Nat) : Prop := 2 ≤ p ∧ ∀ d, 2 ≤ d → d < p → ¬ d ∣ p
theorem isPb_iff (p : Nat) : isPb p = true ↔ isP p := by
  unfold isPb isP
  rw [Bool.and_eq_true, decide_eq_true_iff, List.all_eq_true]
  constructor
  · rintro ⟨h1, h2⟩
    refine ⟨h1, fun d hd hlt hdv => ?_⟩
    have := h2 d (List.mem_range.2 hlt)
    rw [Bool.or_eq_true, decide_eq_true_iff, decide_eq_true_iff] at this
    rcases this with h | h
    · omega
    · exact h (Nat.mod_eq_zero_of_dvd hdv)
  · rintro ⟨h1, h2⟩
    refine ⟨h1, fun d hd => ?_⟩
    rw [Bool.or_eq_true, decide_eq_true_iff, decide_eq_true_iff]
    by_cases h : d < 2
    · exact .inl h
    · exact .inr (fun e => h2 d (by omega) (List.mem_range.1 hd) (Nat.dvd_of_mod_eq_zero e))
theorem isP.dvd {p d : Nat} (h : isP p) (hd : d ∣ p) : d = 1 ∨ d = p := by
  have hle := Nat.le_of_dvd (by have := h.1; omega) hd
  by_cases h0 : d = 0
  · subst h0; have := Nat.eq_zero_of_zero_dvd hd; have := h.1; omega
  by_cases h1 : d = 1
  · exact .inl h1
  by_cases h2 : d = p
  · exact .inr h2
  exact absurd hd (h.2 d (by omega) (by omega))
theorem isP.dvd_mul {p a b : Nat} (h : isP p) (hd : p ∣ a * b) : p ∣ a ∨ p ∣ b := by
  rcases h.dvd (Nat.gcd_dvd_left p a) with e | e
  · exact .inr (Nat.Coprime.dvd_of_dvd_mul_left e hd)
  · exact .inl (by rw [← e]; exact Nat.gcd_dvd_right p a)
/-- How often p divides n. -/
def mu (p n : Nat) : Nat := if h : 2 ≤ p ∧ 1 ≤ n ∧ p ∣ n then mu p (n / p) + 1 else 0
termination_by n
decreasing_by exact Nat.div_lt_self (by omega) (by omega)
theorem mu_no {p n : Nat} (h : ¬ p ∣ n) : mu p n = 0 := by rw [mu, dif_neg (fun x => h x.2.2)]
theorem mu_mul {p n : Nat} (hp : 2 ≤ p) (hn : 1 ≤ n) : mu p (p * n) = mu p n + 1 := by
  rw [mu, dif_pos ⟨hp, Nat.mul_pos (by omega) hn, Nat.dvd_mul_right _ _⟩, Nat.mul_div_cancel_left _ (by omega)]
theorem mu_pow {p n : Nat} (hp : 2 ≤ p) (hn : 1 ≤ n) : ∀ e, mu p (p ^ e * n) = e + mu p n
  | 0 => by rw [Nat.pow_zero, Nat.one_mul, Nat.zero_add]
  | e + 1 => by
    rw [Nat.pow_succ, Nat.mul_comm (p ^ e), Nat.mul_assoc, mu_mul hp (Nat.mul_pos (Nat.pow_pos (by omega)) hn), mu_pow hp hn e]; omega
theorem mu_one (p : Nat) (hp : 2 ≤ p) : mu p 1 = 0 := mu_no (fun h => by have := Nat.le_of_dvd (by omega) h; omega)
theorem mu_pos {p n : Nat} (hp : 2 ≤ p) (hn : 1 ≤ n) : 1 ≤ mu p n ↔ p ∣ n := by
  constructor
  · intro h
    by_cases hd : p ∣ n
    · exact hd
    · rw [mu_no hd] at h; omega
  · rintro ⟨m, rfl⟩
    rw [mu_mul hp (by rcases Nat.eq_zero_or_pos m with h | h; subst h; omega; exact h)]; omega
theorem mu_other {q p : Nat} (hq : isP q) (hp : isP p) (hne : q ≠ p) : ∀ m, 1 ≤ m → mu q (p * m) = mu q m := by
  intro m
  induction m using Nat.strongRecOn with
  | _ m ih =>
    intro hm
    have hp0 := hp.1
    by_cases hd : q ∣ m
    · obtain ⟨c, rfl⟩ := hd
      have hc : 1 ≤ c := by rcases Nat.eq_zero_or_pos c with h | h; subst h; omega; exact h
      have hq0 := hq.1
      rw [show p * (q * c) = q * (p * c) by rw [← Nat.mul_assoc, Nat.mul_comm p q, Nat.mul_assoc], mu_mul hq0 (Nat.mul_pos (by omega) hc), mu_mul hq0 hc, ih c (by have := Nat.mul_le_mul_right c hq0; omega) hc]
    · rw [mu_no hd, mu_no]
      intro h
      rcases hq.dvd_mul h with h | h
      · rcases hp.dvd h with e | e
        · have := hq.1; omega
        · exact hne e
      · exact hd h
theorem mu_others {q p : Nat} (hq : isP q) (hp : isP p) (hne : q ≠ p) (m : Nat) (hm : 1 ≤ m) : ∀ e, mu q (p ^ e * m) = mu q m
  | 0 => by rw [Nat.pow_zero, Nat.one_mul]
  | e + 1 => by
    rw [Nat.pow_succ, Nat.mul_comm (p ^ e), Nat.mul_assoc, mu_other hq hp hne _ (Nat.mul_pos (Nat.pow_pos (by have := hp.1; omega)) hm), mu_others hq hp hne m hm e]
/-- The primes below k that divide N, each with how often it does. -/
def fl (N k : Nat) : List (Nat × Nat) := ((List.range k).filter fun p => isPb p && decide (p ∣ N)).map fun p => (p, mu p N)
theorem fl_yes {N k : Nat} (h : isP k) (hd : k ∣ N) : fl N (k + 1) = fl N k ++ [(k, mu k N)] := by
  unfold fl
  rw [List.range_succ, List.filter_append, List.map_append]
  congr 1
  rw [List.filter_cons, if_pos (by rw [(isPb_iff k).2 h, decide_eq_true hd]; rfl)]
  rfl
theorem fl_no {N k : Nat} (h : ¬ (isP k ∧ k ∣ N)) : fl N (k + 1) = fl N k := by
  unfold fl
  rw [List.range_succ, List.filter_append, List.map_append]
  rw [List.filter_cons, if_neg]
  · simp
  · rw [Bool.and_eq_true, isPb_iff, decide_eq_true_iff]; exact h
theorem fl_same {N a : Nat} : ∀ (b : Nat), a ≤ b → (∀ q, a ≤ q → q < b → ¬ (isP q ∧ q ∣ N)) → fl N b = fl N a := by
  intro b
  induction b with
  | zero => intro h _; rw [show a = 0 by omega]
  | succ b ih =>
    intro h hq
    by_cases e : a = b + 1
    · rw [e]
    · rw [fl_no (hq b (by omega) (by omega)), ih (by omega) (fun q h1 h2 => hq q h1 (by omega))]
def pw : List (Nat × Nat) → Nat
  | [] => 1
  | x :: l => x.1 ^ x.2 * pw l
theorem pw_app : ∀ (a b : List (Nat × Nat)), pw (a ++ b) = pw a * pw b
  | [], b => by rw [List.nil_append, pw, Nat.one_mul]
  | x :: a, b => by rw [List.cons_append, pw, pw, pw_app a b, Nat.mul_assoc]
theorem pw_one (x : Nat × Nat) : pw [x] = x.1 ^ x.2 := by rw [pw, pw, Nat.mul_one]
/-- What is left of N when all primes below p were taken out. -/
structure Rst (N p n : Nat) : Prop where
  two : 2 ≤ p
  top : p ≤ N + 1
  one : 1 ≤ n
  rough : ∀ d, 2 ≤ d → d ∣ n → p ≤ d
  same : ∀ q, isP q → p ≤ q → mu q N = mu q n
  prod : pw (fl N p) * n = N
theorem Rst.le {N p n : Nat} (h : Rst N p n) : n ≤ N := by
  have h1 := h.prod
  rcases Nat.eq_zero_or_pos (pw (fl N p)) with e | e
  · have := h.one; have := h.top; have := h.two; rw [e] at h1; omega
  · have := Nat.le_mul_of_pos_left n e; omega
theorem fl_two (N : Nat) : fl N 2 = [] := by
  unfold fl
  rw [show List.range 2 = [0, 1] from rfl]
  have h0 : isPb 0 = false := rfl
  have h1 : isPb 1 = false := rfl
  simp [h0, h1]
theorem Rst.start {N : Nat} (hN : 1 ≤ N) : Rst N 2 N := ⟨by omega, by omega, hN, fun d h _ => h, fun q _ _ => rfl, by rw [fl_two, pw, Nat.one_mul]⟩
theorem Rst.dvd {N p n : Nat} (h : Rst N p n) : n ∣ N := ⟨pw (fl N p), by rw [Nat.mul_comm]; exact h.prod.symm⟩
theorem Rst.no {N p n : Nat} (h : Rst N p n) (hp : ¬ p ∣ n) : ¬ (isP p ∧ p ∣ N) := by
  rintro ⟨h1, h2⟩
  have hN : 1 ≤ N := by have := h.top; have := h.two; omega
  have := (mu_pos h1.1 hN).2 h2
  rw [h.same p h1 (Nat.le_refl _)] at this
  exact hp ((mu_pos h1.1 h.one).1 this)
theorem Rst.skip {N p n : Nat} (h : Rst N p n) (hp : ¬ p ∣ n) (hn : 1 < n) : Rst N (p + 1) n ∧ fl N (p + 1) = fl N p := by
  have e := fl_no (h.no hp)
  refine ⟨⟨by have := h.two; omega, ?_, h.one, ?_, fun q h1 h2 => h.same q h1 (by omega), by rw [e]; exact h.prod⟩, e⟩
  · have h1 := h.rough n (by omega) (Nat.dvd_refl n)
    have : p ≠ n := fun e => hp (by rw [e]; exact Nat.dvd_refl _)
    have := h.le
    omega
  · intro d h1 h2
    have := h.rough d h1 h2
    have : p ≠ d := fun e => hp (by rw [e]; exact h2)
    omega
theorem Rst.prime {N p n : Nat} (h : Rst N p n) (hp : p ∣ n) : isP p :=
  ⟨h.two, fun d h1 h2 h3 => by have := h.rough d h1 (Nat.dvd_trans h3 hp); omega⟩
theorem Rst.div {N p n e m : Nat} (h : Rst N p n) (hp : p ∣ n) (hn : n = p ^ e * m) (hm : ¬ p ∣ m) : Rst N (p + 1) m ∧ fl N (p + 1) = fl N p ++ [(p, e)] := by
  have hP := h.prime hp
  have h2 := h.two
  have hm1 : 1 ≤ m := by
    rcases Nat.eq_zero_or_pos m with z | z
    · exact absurd (by rw [z]; exact Nat.dvd_zero p) hm
    · exact z
  have he : mu p N = e := by rw [h.same p hP (Nat.le_refl _), hn, mu_pow h2 hm1, mu_no hm, Nat.add_zero]
  have e1 : fl N (p + 1) = fl N p ++ [(p, e)] := by rw [fl_yes hP (Nat.dvd_trans hp h.dvd), he]
  refine ⟨⟨by omega, ?_, hm1, ?_, ?_, ?_⟩, e1⟩
  · have := Nat.le_of_dvd h.one hp
    have := h.le
    omega
  · intro d h1 h3
    have := h.rough d h1 (by rw [hn]; exact Nat.dvd_trans h3 (Nat.dvd_mul_left _ _))
    have : p ≠ d := fun e => hm (by rw [e]; exact h3)
    omega
  · intro q hq h1
    rw [h.same q hq (by omega), hn, mu_others hq hP (by omega) m hm1]
  · rw [e1, pw_app, pw_one, Nat.mul_assoc, ← hn]; exact h.prod
theorem Rst.done {N p : Nat} (h : Rst N p 1) : fl N (N + 1) = fl N p := by
  refine fl_same (N + 1) h.top (fun q h1 h2 => ?_)
  rintro ⟨hq, hd⟩
  have hN : 1 ≤ N := by have := h.top; have := h.two; omega
  have := (mu_pos hq.1 hN).2 hd
  rw [h.same q hq h1, mu_one q hq.1] at this
  omega
theorem Rst.walk {N n : Nat} (hn : 1 < n) : ∀ (d : Nat) {p : Nat}, Rst N p n → p + d = n → (∀ q, 2 ≤ q → q ∣ n → q = n) → Rst N n n ∧ fl N n = fl N p
  | 0, p, h, e, _ => by rw [show p = n by omega] at h ⊢; exact ⟨h, rfl⟩
  | d + 1, p, h, e, hq => by
    obtain ⟨h1, h2⟩ := h.skip (fun hd => by have := hq p h.two hd; omega) hn
    obtain ⟨h3, h4⟩ := Rst.walk hn d h1 (by omega) hq
    exact ⟨h3, h4.trans h2⟩
theorem Rst.last {N p n : Nat} (h : Rst N p n) (hn : 1 < n) (hlt : n < p * p) : isP n ∧ fl N (N + 1) = fl N p ++ [(n, 1)] ∧ Rst N (n + 1) 1 := by
  have hq : ∀ q, 2 ≤ q → q ∣ n → q = n := by
    intro q h1 h2
    obtain ⟨c, rfl⟩ := h2
    have hp := h.rough q h1 (Nat.dvd_mul_right _ _)
    by_cases hc : 2 ≤ c
    · have hc2 := h.rough c hc (Nat.dvd_mul_left _ _)
      have := Nat.mul_le_mul hp hc2
      omega
    · have : c = 0 ∨ c = 1 := by omega
      rcases this with rfl | rfl
      · omega
      · omega
  have hpn := h.rough n (by omega) (Nat.dvd_refl n)
  obtain ⟨h1, h2⟩ := Rst.walk hn (n - p) h (by omega) hq
  obtain ⟨h3, h4⟩ := h1.div (e := 1) (m := 1) (Nat.dvd_refl n) (by rw [Nat.pow_one, Nat.mul_one]) (fun hd => by have := Nat.le_of_dvd (by omega) hd; omega)
  exact ⟨h1.prime (Nat.dvd_refl n), by rw [h3.done, h4, h2], h3⟩
/-- All primes of N. -/
def fa (N : Nat) : List (Nat × Nat) := fl N (N + 1)
theorem fa_mem {N p e : Nat} (hN : 1 ≤ N) : (p, e) ∈ fa N ↔ isP p ∧ p ∣ N ∧ e = mu p N := by
  unfold fa fl
  rw [List.mem_map]
  constructor
  · rintro ⟨q, h, e⟩
    rw [List.mem_filter, Bool.and_eq_true, isPb_iff, decide_eq_true_iff] at h
    cases e
    exact ⟨h.2.1, h.2.2, rfl⟩
  · rintro ⟨h1, h2, rfl⟩
    refine ⟨p, ?_, rfl⟩
    rw [List.mem_filter, Bool.and_eq_true, isPb_iff, decide_eq_true_iff, List.mem_range]
    exact ⟨by have := Nat.le_of_dvd hN h2; omega, h1, h2⟩
theorem mu_split {p : Nat} (hp : 2 ≤ p) : ∀ n, 1 ≤ n → ∃ m, n = p ^ mu p n * m ∧ ¬ p ∣ m := by
  intro n
  induction n using Nat.strongRecOn with
  | _ n ih =>
    intro hn
    by_cases hd : p ∣ n
    · obtain ⟨c, rfl⟩ := hd
      have hc : 1 ≤ c := by rcases Nat.eq_zero_or_pos c with h | h; subst h; omega; exact h
      obtain ⟨m, h1, h2⟩ := ih c (by have := Nat.mul_le_mul_right c hp; omega) hc
      refine ⟨m, ?_, h2⟩
      rw [mu_mul hp hc, Nat.pow_succ, Nat.mul_comm (p ^ _), Nat.mul_assoc, ← h1]
    · exact ⟨n, by rw [mu_no hd, Nat.pow_zero, Nat.one_mul], hd⟩
theorem rst_all {N : Nat} (hN : 1 ≤ N) : ∀ (f p n : Nat), n + N + 2 - p ≤ f → Rst N p n → pw (fa N) = N := by
  intro f
  induction f with
  | zero => intro p n hf h; have := h.top; omega
  | succ f ih =>
    intro p n hf h
    by_cases h1 : n = 1
    · subst h1
      unfold fa
      rw [h.done]
      have := h.prod
      omega
    have ho := h.one
    have ht := h.top
    by_cases hd : p ∣ n
    · obtain ⟨m, e1, e2⟩ := mu_split h.two n ho
      have hle : m ≤ n := by
        have := Nat.le_mul_of_pos_left m (Nat.pow_pos (n := mu p n) (show 0 < p by have := h.two; omega))
        omega
      exact ih (p + 1) m (by omega) (h.div hd e1 e2).1
    · exact ih (p + 1) n (by omega) (h.skip hd (by omega)).1
theorem pw_fa {N : Nat} (hN : 1 ≤ N) : pw (fa N) = N := rst_all hN _ 2 N (Nat.le_refl _) (Rst.start hN)
theorem fa_prime {N : Nat} (h : isP N) : fa N = [(N, 1)] := by
  have h1 := h.1
  obtain ⟨h3, h4⟩ := Rst.walk (n := N) (by omega) (N - 2) (Rst.start (by omega)) (by omega) (fun q h2 h3 => by rcases h.dvd h3 with e | e <;> omega)
  obtain ⟨h5, h6⟩ := h3.div (e := 1) (m := 1) (Nat.dvd_refl N) (by rw [Nat.pow_one, Nat.mul_one]) (fun hd => by have := Nat.le_of_dvd (by omega) hd; omega)
  unfold fa
  rw [h5.done, h6, h4, fl_two]; rfl
theorem fa_one {N p : Nat} (hN : 1 ≤ N) (h : fa N = [(p, 1)]) : isP N := by
  have h1 := pw_fa hN
  rw [h, pw_one] at h1
  have h2 := (fa_mem (p := p) (e := 1) hN).1 (by rw [h]; simp)
  have : p = N := by simpa using h1
  rw [← this]; exact h2.1
end Go.Proofs.Ytofgkhoemgimeaa
/- 'append(nil, l...)' of ints; small laws of rows of ints. -/
namespace Go.Proofs.Ytofgkhoemgimeaa
open Go.ChangeShapes Go.WideShapes Go.ChangeAt Go.RowKit
set_option linter.unusedVariables false
theorem append_all {ops : Array Oper} {rest : List Oper} {o : Oper} {a : Act} {Q : Exit → Act → World → Prop} {W : World} {T E : TypeId} {k : IntKind} {B : Nat} {v : Value} {ys zs : List Int} {p : Option Addr} {m c : Nat}
    (hT : Try.prog.underlying T = some (.slice E)) (hI : (Try.prog.info? E).map (fun i => (i.zero, i.size, i.bytes)) = some (some (.int k 0), 1, 8)) (hgd : o.guard = none) (s x : Operand)
    (ho : o.op = .call { callee := .builtin .append, args := #[s, x], argTypes := #[T, T] }) (hs : a.eval s = v) (hown : Owns W B E k v ys) (hx : a.eval x = .slice p m c) (hm : zs.length = m) (hr : Reads k W p zs) (hB : B ≤ W.heap.size) (hlen : ys.length + m ≤ 17592186044415)
    (h : ∀ v' w', Owns w' B E k v' (ys ++ zs) → Below B W w' → wpList Try.prog ops Q rest (a.put o.dst v') w') : wpList Try.prog ops Q (o :: rest) a W := by
  obtain ⟨i0, hi, hz0, hz1, hz2⟩ := info_parts hI
  by_cases hne : 0 < m
  · rcases hr with hnil | ⟨b, off, rfl, hb, hcell⟩
    · rw [hnil] at hm; simp at hm; omega
    refine wpList_append_lies _ hgd s x T ho B E i0 (.int k 0) 1 8 hT hi hz0 hz1 hz2 rfl (by decide) v ys.length (ys.map (Value.int k)) hs hown ⟨b, off, none⟩ m c (zs.map (Value.int k)) hx (by simpa using hm) ?_ ?_ hne ?_ ?_ hB _ rfl ?_
    · intro j u hj
      have hj' : j < zs.length := by
        by_cases hlt : j < zs.length
        · exact hlt
        · have : (zs.map (Value.int k))[j]? = none := by simp; omega
          rw [this] at hj; cases hj
      have e : (zs.map (Value.int k))[j]? = some (.int k (zs.getD j 0)) := by simp [List.getD, hj']
      rw [e] at hj
      cases hj
      have hadd : (⟨b, off, none⟩ : Addr).add j = ⟨b, off + j, none⟩ := by unfold Addr.add; split <;> simp_all
      rw [hadd]
      exact hcell j hj'
    · intro u hu
      obtain ⟨z, _, rfl⟩ := List.mem_map.1 hu
      rfl
    · unfold maxLen; omega
    · omega
    · intro g cap w' h1 h2 _ _
      refine h _ w' ?_ ((Below.refl _ _).grown h2 hB (fun i hi => (World.ownsRow.lt hown i hi).1))
      unfold Owns
      rw [List.length_append, hm, List.map_append]
      exact h1
  · obtain rfl : m = 0 := by omega
    have hz : zs = [] := List.length_eq_zero_iff.1 hm
    subst hz
    rw [List.append_nil] at h
    obtain ⟨q, cap, hv, hr', hcap, _⟩ := hown.shape
    have hsrc : Src Try.prog i0.size T (.slice p 0 c) 0 [] W := by
      cases p with
      | none => exact Src.ofNil W hT c
      | some ad => exact Src.ofSlice W hT ad 0 c [] (by simp) (fun j u hj => by simp at hj) (fun u hu => by cases hu)
    have hrun := run_append_nothing W T T o.type E i0 hT hi q ys.length cap hcap _ hsrc
    refine wpList_plain hgd fun _ hK => ?_
    unfold Oper.wp execOp
    have h' := h v W hown (Below.refl _ _)
    rw [← hs] at h'
    simp only [ho, resolve, invoke, builtin, Sem.run_bind, Sem.run_pure, Result.andThen_ok, List.map_toArray, List.map_cons, List.map_nil, hx]
    rw [hs, hv, hrun]
    rw [hs, hv] at h'
    exact hK _ _ h'
end Go.Proofs.Ytofgkhoemgimeaa
/- Package fact: Factors of any number. -/
namespace Go.Proofs.Ytofgkhoemgimeaa
open Go.ChangeShapes Go.WideShapes Go.ChangeAt Go.RowKit
set_option linter.unusedVariables false
def pwl : List (Nat × Nat) → List Value
  | [] => []
  | x :: l => .int .i64 (x.1 : Int) :: .int .i64 (x.2 : Int) :: pwl l
theorem pwl_snoc : ∀ (l : List (Nat × Nat)) (x : Nat × Nat), pwl (l ++ [x]) = pwl l ++ [.int .i64 (x.1 : Int), .int .i64 (x.2 : Int)]
  | [], x => rfl
  | y :: l, x => by rw [List.cons_append, pwl, pwl_snoc l x, pwl]; rfl
theorem pwl_len : ∀ (l : List (Nat × Nat)), (pwl l).length = l.length * 2
  | [] => rfl
  | x :: l => by rw [pwl, List.length_cons, List.length_cons, pwl_len l, List.length_cons]; omega
theorem pwl_at : ∀ (l : List (Nat × Nat)) (i : Nat), i < l.length → (pwl l)[i * 2]? = some (.int .i64 ((l.getD i (0, 0)).1 : Int)) ∧ (pwl l)[i * 2 + 1]? = some (.int .i64 ((l.getD i (0, 0)).2 : Int))
  | x :: l, 0, _ => ⟨rfl, rfl⟩
  | x :: l, i + 1, h => by
    rw [List.length_cons] at h
    obtain ⟨h1, h2⟩ := pwl_at l i (by omega)
    rw [pwl, show (i + 1) * 2 = i * 2 + 1 + 1 by omega, show i * 2 + 1 + 1 + 1 = (i * 2 + 1) + 1 + 1 from rfl]
    rw [List.getElem?_cons_succ, List.getElem?_cons_succ, List.getElem?_cons_succ, List.getElem?_cons_succ]
    exact ⟨h1, h2⟩
/-- What a slice of powers reads as. -/
structure RowP (w : World) (a : Option Addr) (n : Nat) (L : List (Nat × Nat)) : Prop where
  len : L.length = n
  cell : ∀ i, i < n → ∃ b off, a = some ⟨b, off, none⟩ ∧ b < w.heap.size ∧ w.cell? ⟨b, off + i * 2, none⟩ = some (.int .i64 ((L.getD i (0, 0)).1 : Int)) ∧ w.cell? ⟨b, off + i * 2 + 1, none⟩ = some (.int .i64 ((L.getD i (0, 0)).2 : Int))
theorem RowP.below {w w' : World} {a : Option Addr} {n : Nat} {L : List (Nat × Nat)} (h : RowP w a n L) (hb : Below w.heap.size w w') : RowP w' a n L := by
  refine ⟨h.len, fun i hi => ?_⟩
  obtain ⟨b, off, e, hlt, h1, h2⟩ := h.cell i hi
  exact ⟨b, off, e, by have := hb.size; omega, (hb.cell (p := ⟨b, off + i * 2, none⟩) hlt).trans h1, (hb.cell (p := ⟨b, off + i * 2 + 1, none⟩) hlt).trans h2⟩
def GivesP (w : World) (L : List (Nat × Nat)) (e : Ending) (w' : World) : Prop := ∃ a c, e = .returned (.tuple #[.slice a L.length c, .int .i64 0]) ∧ RowP w' a L.length L ∧ Below w.heap.size w w'
theorem pw_len : ∀ (L : List (Nat × Nat)), (∀ x ∈ L, 2 ≤ x.1 ∧ 1 ≤ x.2) → 2 ^ L.length ≤ pw L
  | [], _ => by simp [pw]
  | x :: L, h => by
    have h1 := pw_len L (fun y hy => h y (by simp [hy]))
    obtain ⟨h2, h3⟩ := h x (by simp)
    rw [List.length_cons, Nat.pow_succ, pw, Nat.mul_comm]
    refine Nat.mul_le_mul ?_ h1
    calc 2 ≤ x.1 := h2
      _ = x.1 ^ 1 := (Nat.pow_one _).symm
      _ ≤ x.1 ^ x.2 := Nat.pow_le_pow_right (by omega) h3
theorem fl_all {N k : Nat} (hN : 1 ≤ N) : ∀ x ∈ fl N k, 2 ≤ x.1 ∧ 1 ≤ x.2 := by
  intro x hx
  unfold fl at hx
  obtain ⟨p, hp, rfl⟩ := List.mem_map.1 hx
  rw [List.mem_filter, Bool.and_eq_true, isPb_iff, decide_eq_true_iff] at hp
  exact ⟨hp.2.1.1, (mu_pos hp.2.1.1 hN).2 hp.2.2⟩
theorem Rst.len {N p n : Nat} (h : Rst N p n) (hN : N ≤ 16777216) : (fl N p).length < 25 := by
  have h1 := pw_len (fl N p) (fl_all (by have := h.top; have := h.two; omega))
  have h2 := h.prod
  have h3 : pw (fl N p) ≤ N := by
    have := Nat.le_mul_of_pos_right (pw (fl N p)) h.one
    omega
  by_cases hlt : (fl N p).length < 25
  · exact hlt
  · have := Nat.pow_le_pow_right (n := 2) (by omega) (show 25 ≤ (fl N p).length by omega)
    omega
end Go.Proofs.Ytofgkhoemgimeaa
