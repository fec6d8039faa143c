/- Put together by program (merge2.py): Geo Dft Geo2 Least LRootParts LRootTells Ord Geo3 Chk Dft2 Geo4 Powers Geo5 Dft3 Exn Convm. -/
import Derived.Test.YtbhnlfgccldmaaaGreatZd11
/- Sums of the powers of a root of unity. Plain numbers: no Go text. -/
namespace Go.Proofs.YtbhnlfgccldmaaaGreat
open Go.ChangeShapes Go.WideShapes Go.ChangeAt Go.RowKit
set_option linter.unusedVariables false
theorem fm_zero_of_mul {a b : Int} (h : fm (a * b) = 0) (ha : fm a ≠ 0) : fm b = 0 := by
  have k := Fld.inv_mul a ha
  generalize fm (a ^ Fld.p2') = i at k
  have e : fm (i * (a * b)) = fm b := by
    rw [← Int.mul_assoc, ← fm_mul_l, k, Int.one_mul]
  rw [← e, ← fm_mul_r, h, Int.mul_zero]
  rfl
/-- The sum of the first n powers. -/
def gsum (r : Int) : Nat → Int
  | 0 => 0
  | k + 1 => gsum r k + r ^ k
theorem gsum_mul (r : Int) : ∀ n, (r - 1) * gsum r n = r ^ n - 1
  | 0 => by simp [gsum]
  | k + 1 => by
    have e : gsum r (k + 1) = gsum r k + r ^ k := rfl
    rw [e, Int.mul_add, gsum_mul r k, Int.pow_succ]
    grind
theorem gsum_zero (r : Int) (n : Nat) (h : fm (r ^ n) = 1) (h1 : fm r ≠ 1) : fm (gsum r n) = 0 := by
  refine fm_zero_of_mul (a := r - 1) ?_ ?_
  · rw [gsum_mul, ← fm_sub_l, h]; rfl
  · intro e
    apply h1
    have : fm r = fm (fm (r - 1) + 1) := by rw [fm_add_l]; congr 1; omega
    rw [this, e]
    rfl
theorem gsum_one (r : Int) (h : fm r = 1) : ∀ n : Nat, fm (gsum r n) = fm n
  | 0 => rfl
  | k + 1 => by
    have e : gsum r (k + 1) = gsum r k + r ^ k := rfl
    have h2 : fm (r ^ k) = 1 := by rw [← Fld.fm_pow1, h, Int.one_pow]; rfl
    rw [e, ← fm_add_l, gsum_one r h k, ← fm_add_r, h2, fm_add_l]
    congr 1
end Go.Proofs.YtbhnlfgccldmaaaGreat
/- Package dft. -/
namespace Go.Proofs.YtbhnlfgccldmaaaGreat
open Go.ChangeShapes Go.WideShapes Go.ChangeAt Go.RowKit
set_option linter.unusedVariables false
/-- A polynomial at a place, by Horner's rule. -/
def hor (st : Int) : List Int → Int
  | [] => 0
  | x :: r => fm (fm (hor st r * st) + x)
theorem hor_lo (st : Int) : ∀ xs, 0 ≤ hor st xs
  | [] => Int.le_refl _
  | _ :: _ => fm_lo _
theorem hor_hi (st : Int) : ∀ xs, hor st xs ≤ 18446744069414584320
  | [] => (by omega : (0 : Int) ≤ 18446744069414584320)
  | _ :: _ => fm_hi _
theorem hor_step (st : Int) (xs : List Int) (j : Nat) (h : j < xs.length) : fm (fm (hor st (xs.drop (j + 1)) * st) + xs.getD j 0) = hor st (xs.drop j) := by
  rw [List.drop_eq_getElem_cons h]
  simp [hor, List.getD, h]
theorem keepC {w0 w w' : World} {p q : Addr} {u v : Value} (hp : p.block < w0.heap.size) (hq : q.block < w0.heap.size) (hS : w.cell? p = some u ∧ w.cell? q = some v ∧ Below w0.heap.size w0 w) (hb : Below w.heap.size w w') :
    w'.cell? p = some u ∧ w'.cell? q = some v ∧ Below w0.heap.size w0 w' := keepB hp hq hS (hb.mono hS.2.2.size)
/-- The transform by the powers of r. -/
def horl (r : Int) (xs : List Int) (n : Nat) : List Int := (List.range n).map fun k => hor (fm (r ^ k)) xs
theorem horl_len (r : Int) (xs : List Int) (n : Nat) : (horl r xs n).length = n := by unfold horl; simp
theorem horl_at (r : Int) (xs : List Int) (n k : Nat) (h : k < n) : (horl r xs n).getD k 0 = hor (fm (r ^ k)) xs := by unfold horl; simp [List.getD, h]
theorem horl_wf (r : Int) (xs : List Int) (n : Nat) : ∀ z ∈ horl r xs n, (Lit.int .u64 z).wf = true := by
  intro z hz
  unfold horl at hz
  obtain ⟨k, _, rfl⟩ := List.mem_map.1 hz
  exact WalkArith.wf_u64 ⟨hor_lo _ _, by have := hor_hi (fm (r ^ k)) xs; omega⟩
end Go.Proofs.YtbhnlfgccldmaaaGreat
/- Transforms as double sums. Plain numbers: no Go text. -/
namespace Go.Proofs.YtbhnlfgccldmaaaGreat
open Go.ChangeShapes Go.WideShapes Go.ChangeAt Go.RowKit
set_option linter.unusedVariables false
/-- A polynomial at a place. -/
def ps (st : Int) : List Int → Int
  | [] => 0
  | x :: r => x + st * ps st r
theorem hor_ps (st : Int) : ∀ xs, hor st xs = fm (ps st xs)
  | [] => rfl
  | x :: r => by
    have e1 : hor st (x :: r) = fm (fm (hor st r * st) + x) := rfl
    have e2 : ps st (x :: r) = x + st * ps st r := rfl
    rw [e1, e2, hor_ps st r, fm_mul_l, fm_add_l]
    congr 1
    grind
/-- The sum of t^i times the polynomial at r^i, for i below n. -/
def dsum (r t : Int) (xs : List Int) : Nat → Int
  | 0 => 0
  | i + 1 => dsum r t xs i + t ^ i * ps (r ^ i) xs
/-- The sum of x_j times the sum of the first n powers of t r^j. -/
def esum (r : Int) (n : Nat) : Int → List Int → Int
  | _, [] => 0
  | t, x :: rest => x * gsum t n + esum r n (t * r) rest
theorem dsum_nil (r t : Int) : ∀ n, dsum r t [] n = 0
  | 0 => rfl
  | i + 1 => by
    have e : dsum r t [] (i + 1) = dsum r t [] i + t ^ i * ps (r ^ i) [] := rfl
    rw [e, dsum_nil r t i]
    simp [ps]
theorem dsum_cons (r t x : Int) (rest : List Int) : ∀ n, dsum r t (x :: rest) n = x * gsum t n + dsum r (t * r) rest n
  | 0 => by simp [dsum, gsum]
  | i + 1 => by
    have e1 : dsum r t (x :: rest) (i + 1) = dsum r t (x :: rest) i + t ^ i * (x + r ^ i * ps (r ^ i) rest) := rfl
    have e2 : dsum r (t * r) rest (i + 1) = dsum r (t * r) rest i + (t * r) ^ i * ps (r ^ i) rest := rfl
    have e3 : gsum t (i + 1) = gsum t i + t ^ i := rfl
    rw [e1, e2, e3, dsum_cons r t x rest i, Int.mul_pow]
    grind
theorem dsum_esum (r : Int) (n : Nat) : ∀ (xs : List Int) (t : Int), dsum r t xs n = esum r n t xs
  | [], t => dsum_nil r t n
  | x :: rest, t => by
    have e : esum r n t (x :: rest) = x * gsum t n + esum r n (t * r) rest := rfl
    rw [dsum_cons, dsum_esum r n rest (t * r), e]
end Go.Proofs.YtbhnlfgccldmaaaGreat
/- The reference's Least. -/
namespace Go.Proofs.YtbhnlfgccldmaaaGreat
open Go.ChangeShapes Go.WideShapes Go.ChangeAt Go.RowKit
set_option linter.unusedVariables false

/-- The primes of P - 1. -/
def qsl : List Int := [2, 3, 5, 17, 257, 65537]
theorem qsl_at : ∀ i, i < 6 → 2 ≤ qsl.getD i 0 ∧ qsl.getD i 0 ≤ 65537 := by decide
theorem qsl_wf : ∀ z ∈ qsl, (Lit.int .u64 z).wf = true := by decide

end Go.Proofs.YtbhnlfgccldmaaaGreat
/- RootParts: powers of roots are roots. -/
namespace Go.Proofs.YtbhnlfgccldmaaaGreat
open Go.ChangeShapes Go.WideShapes Go.ChangeAt Go.RowKit
set_option linter.unusedVariables false
namespace rootParts

theorem rex_mul {n d : Int} (hn : 1 ≤ n) (hd : 1 ≤ d) (hm : 18446744069414584320 % n = 0) (hnd : n % d = 0) : rex n * (n / d).toNat = rex d := by
  obtain ⟨q, hq⟩ := Int.dvd_of_emod_eq_zero hnd
  obtain ⟨k, hk⟩ := Int.dvd_of_emod_eq_zero hm
  have hq1 : n / d = q := by rw [hq, Int.mul_ediv_cancel_left _ (by omega)]
  have hk1 : (18446744069414584320 : Int) / n = k := by rw [hk, Int.mul_ediv_cancel_left _ (by omega)]
  have hk2 : (18446744069414584320 : Int) / d = q * k := by
    rw [hk, hq, Int.mul_assoc, Int.mul_ediv_cancel_left _ (by omega)]
  have q0 : 0 ≤ q := by
    rw [← hq1]; exact Int.ediv_nonneg (by omega) (by omega)
  have k0 : 0 ≤ k := by
    rw [← hk1]; exact Int.ediv_nonneg (by omega) (by omega)
  unfold rex
  rw [hq1, hk1, hk2, Int.toNat_mul q0 k0, Nat.mul_comm]
theorem rt_pow {n d : Int} (hn : 1 ≤ n) (hd : 1 ≤ d) (hm : 18446744069414584320 % n = 0) (hnd : n % d = 0) : fm (rt n ^ (n / d).toNat) = rt d := by
  unfold rt
  rw [Fld.fm_pow1, ← Int.pow_mul, rex_mul hn hd hm hnd]
theorem has_part {n d : Int} (hn : hasb n = true) (hd : 1 ≤ d) (hnd : n % d = 0) : hasb d = true := by
  obtain ⟨a, b, c⟩ := hasb_dvd hn
  obtain ⟨q, hq⟩ := Int.dvd_of_emod_eq_zero hnd
  have hdn : d ∣ 18446744069414584320 := Int.dvd_trans ⟨q, hq⟩ (Int.dvd_of_emod_eq_zero c)
  exact hasb_yes hd (by have := Int.le_of_dvd (by omega) (Int.dvd_of_emod_eq_zero hnd); omega) (Int.emod_eq_zero_of_dvd hdn)

end rootParts
end Go.Proofs.YtbhnlfgccldmaaaGreat
/- RootTells: sizes, their roots, orders and inverses. -/
namespace Go.Proofs.YtbhnlfgccldmaaaGreat
open Go.ChangeShapes Go.WideShapes Go.ChangeAt Go.RowKit
set_option linter.unusedVariables false
namespace rootTells
open rootParts

theorem rt_q2 : rt 2 = 18446744069414584320 := by
  have := Fld.fm_natpow 7 9223372034707292160 18446744069414584320 64 (by decide +kernel) (by decide +kernel)
  exact this
theorem rt_q3 : rt 3 = 18446744065119617025 := by
  have := Fld.fm_natpow 7 6148914689804861440 18446744065119617025 64 (by decide +kernel) (by decide +kernel)
  exact this
theorem rt_q5 : rt 5 = 1373043270956696022 := by
  have := Fld.fm_natpow 7 3689348813882916864 1373043270956696022 64 (by decide +kernel) (by decide +kernel)
  exact this
theorem rt_q17 : rt 17 = 16301593560560007290 := by
  have := Fld.fm_natpow 7 1085102592318504960 16301593560560007290 64 (by decide +kernel) (by decide +kernel)
  exact this
theorem rt_q257 : rt 257 = 995085315851368103 := by
  have := Fld.fm_natpow 7 71777214277877760 995085315851368103 64 (by decide +kernel) (by decide +kernel)
  exact this
theorem rt_q65537 : rt 65537 = 8478886009461009681 := by
  have := Fld.fm_natpow 7 281470681743360 8478886009461009681 64 (by decide +kernel) (by decide +kernel)
  exact this
theorem rt_q1 : rt 1 = 1 := by
  have := Fld.fm_natpow 7 18446744069414584320 1 64 (by decide +kernel) (by decide +kernel)
  exact this
theorem rt_prime : ∀ i, i < 6 → rt (qsl.getD i 0) ≠ 1
  | 0, _ => by rw [show qsl.getD 0 0 = 2 from rfl, rt_q2]; decide
  | 1, _ => by rw [show qsl.getD 1 0 = 3 from rfl, rt_q3]; decide
  | 2, _ => by rw [show qsl.getD 2 0 = 5 from rfl, rt_q5]; decide
  | 3, _ => by rw [show qsl.getD 3 0 = 17 from rfl, rt_q17]; decide
  | 4, _ => by rw [show qsl.getD 4 0 = 257 from rfl, rt_q257]; decide
  | 5, _ => by rw [show qsl.getD 5 0 = 65537 from rfl, rt_q65537]; decide
  | (n + 6), h => by omega
theorem rt_one_pow {n : Int} (h : hasb n = true) : fm (rt n ^ n.toNat) = 1 := by
  obtain ⟨a, b, c⟩ := hasb_dvd h
  have := rt_pow (d := 1) a (by omega) c (Int.emod_one n)
  rw [Int.ediv_one, rt_q1] at this
  exact this
theorem rt_least {n : Int} (h : hasb n = true) : ∀ i, i < 6 → n % qsl.getD i 0 = 0 → fm (rt n ^ (n / qsl.getD i 0).toNat) ≠ 1 := by
  intro i hi hz
  obtain ⟨a, b, c⟩ := hasb_dvd h
  rw [rt_pow a (by have := qsl_at i hi; omega) c hz]
  exact rt_prime i hi
theorem fm_rt (n : Int) : fm (rt n) = rt n := fm_fm _
theorem rt_ne {n : Int} (h : hasb n = true) : fm (rt n) ≠ 0 := by
  intro h0
  obtain ⟨a, b, c⟩ := hasb_dvd h
  have e := rt_one_pow h
  rw [← Fld.fm_pow1, h0] at e
  obtain ⟨m, hm⟩ : ∃ m, n.toNat = m + 1 := ⟨n.toNat - 1, by omega⟩
  rw [hm, Int.pow_succ, Int.mul_zero] at e
  exact absurd e (by decide)
theorem rt_inv {n : Int} (h : hasb n = true) : fm (rt n * finv (rt n)) = 1 := by
  rw [Int.mul_comm]
  exact Fld.inv_mul (rt n) (rt_ne h)

theorem root_back (n : Int) (w : World) (h0 : -9223372036854775808 ≤ n) (h1 : n ≤ 9223372036854775807) (hh : hasb n = true) :
    Calls Tryz.prog 185 #[.int .i64 n] w fun e w' => e = .returned (.tuple #[.int .u64 (finv (rt n)), .int .i64 0]) ∧ Below w.heap.size w w' := by
  have R := Lib.hid (root_root n w h0 h1 hh)
  have I := Lib.hid (fun w => gold_inv (rt n) w (rt_lo n) (by have := rt_hi n; omega))
  clear hh
  go_enter Tryz.func185, Tryz.ntmps185
  go_wp2_with fail
  refine R.out.mono ?_
  rintro e w1 ⟨rfl, b1⟩
  go_wp2_with fail
  refine (I.out _).mono ?_
  rintro e w2 ⟨rfl, b2⟩
  go_wp2_with fail
  go_ret2
  exact ⟨rfl, b1.trans (b2.mono b1.size)⟩
theorem root_backno (n : Int) (w : World) (h0 : -9223372036854775808 ≤ n) (h1 : n ≤ 9223372036854775807) (hh : hasb n = false) :
    Calls Tryz.prog 185 #[.int .i64 n] w fun e w' => e = .returned (.tuple #[.int .u64 0, .int .i64 4]) ∧ w = w' := by
  have R := Lib.hid (root_none n w h0 h1 hh)
  clear hh
  go_enter Tryz.func185, Tryz.ntmps185
  go_wp2_with fail
  refine R.out.mono ?_
  rintro e w1 ⟨rfl, rfl⟩
  go_wp2_with fail
  go_ret2
  exact ⟨rfl, rfl⟩
theorem r4_root (n : Int) (w : World) (hh : hasb n = true) :
    Calls Tryz.prog 46 #[.int .i64 n] w fun e w' => e = .returned (.int .u64 (rt n)) ∧ w = w' := by
  obtain ⟨a, b, c⟩ := hasb_dvd hh
  obtain ⟨e1, e2⟩ := rex_cast a
  have P := Lib.hid (fun w => r2_pow 7 (rex n) w (by decide) (by decide) e2)
  have HE := Lib.hid e1
  have hz : (n == 0) = false := by simp; omega
  clear hh c e1 e2
  go_enter Tryz.func46, Tryz.ntmps46
  go_wp2_with fail
  rw [← HE.out]
  refine (P.out _).mono ?_
  rintro e w1 ⟨rfl, rfl⟩
  go_wp2_with fail
  go_ret
  exact ⟨rfl, rfl⟩

theorem finv_lo (a : Int) : 0 ≤ finv a := fm_lo _
theorem finv_hi (a : Int) : finv a ≤ 18446744069414584320 := fm_hi _
theorem mul_inv {n : Int} (hh : hasb n = true) (w : World) : Calls Tryz.prog 38 #[.int .u64 (rt n), .int .u64 (finv (rt n))] w fun e w' => e = .returned (.int .u64 1) ∧ w = w' := by
  have M := r2_mulz (rt n) (finv (rt n)) w (rt_lo n) (by have := rt_hi n; omega) (finv_lo _) (finv_hi _)
  rwa [rt_inv hh] at M
end rootTells
end Go.Proofs.YtbhnlfgccldmaaaGreat
/- A root's order is its size: no lesser power is 1. Plain numbers: no Go text. -/
namespace Go.Proofs.YtbhnlfgccldmaaaGreat
open Go.ChangeShapes Go.WideShapes Go.ChangeAt Go.RowKit
set_option linter.unusedVariables false
theorem prm2 : Fld.Prm 2 := by
  refine ⟨by omega, fun d hd => ?_⟩
  have h1 := Nat.le_of_dvd (by omega) hd
  have h2 : d ≠ 0 := by
    intro e
    subst e
    simp at hd
  omega
theorem prm3 : Fld.Prm 3 := Fld.proth (P := 3) (b := 2) (e := 0) (by decide) (by decide +kernel) (by decide) (by decide)
theorem prm5 : Fld.Prm 5 := Fld.proth (P := 5) (b := 2) (e := 1) (by decide) (by decide +kernel) (by decide) (by decide)
theorem prm17 : Fld.Prm 17 := Fld.proth (P := 17) (b := 3) (e := 3) (by decide) (by decide +kernel) (by decide) (by decide)
theorem prm257 : Fld.Prm 257 := Fld.proth (P := 257) (b := 3) (e := 7) (by decide) (by decide +kernel) (by decide) (by decide)
theorem prm65537 : Fld.Prm 65537 := Fld.proth (P := 65537) (b := 3) (e := 15) (by decide) ((Fld.sqs_eq 65537 3 15).trans (by decide +kernel)) (by decide) (by decide)
/-- What divides P - 1 and is not 1 has one of its primes. -/
theorem prime_part (d : Nat) (h1 : 1 < d) (hd : d ∣ 18446744069414584320) : 2 ∣ d ∨ 3 ∣ d ∨ 5 ∣ d ∨ 17 ∣ d ∨ 257 ∣ d ∨ 65537 ∣ d := by
  by_cases a2 : 2 ∣ d
  · exact .inl a2
  by_cases a3 : 3 ∣ d
  · exact .inr (.inl a3)
  by_cases a5 : 5 ∣ d
  · exact .inr (.inr (.inl a5))
  by_cases a17 : 17 ∣ d
  · exact .inr (.inr (.inr (.inl a17)))
  by_cases a257 : 257 ∣ d
  · exact .inr (.inr (.inr (.inr (.inl a257))))
  by_cases a65537 : 65537 ∣ d
  · exact .inr (.inr (.inr (.inr (.inr a65537))))
  have c2 := (prm2.coprime a2).symm
  have c3 := (prm3.coprime a3).symm
  have c5 := (prm5.coprime a5).symm
  have c17 := (prm17.coprime a17).symm
  have c257 := (prm257.coprime a257).symm
  have c65537 := (prm65537.coprime a65537).symm
  have c : Nat.Coprime d (2 ^ 32 * 3 * 5 * 17 * 257 * 65537) := (((((c2.pow_right 32).mul_right c3).mul_right c5).mul_right c17).mul_right c257).mul_right c65537
  have e : 2 ^ 32 * 3 * 5 * 17 * 257 * 65537 = 18446744069414584320 := by decide
  rw [e] at c
  have := Nat.Coprime.eq_one_of_dvd c hd
  omega
theorem one_mul_exp {r : Int} {a : Nat} (h : fm (r ^ a) = 1) (k : Nat) : fm (r ^ (a * k)) = 1 := by
  rw [Int.pow_mul, ← Fld.fm_pow1, h, Int.one_pow]
  rfl
theorem one_mod {r : Int} {a b : Nat} (ha : fm (r ^ a) = 1) (hb : fm (r ^ b) = 1) : fm (r ^ (b % a)) = 1 := by
  have e : r ^ b = r ^ (a * (b / a)) * r ^ (b % a) := by rw [← Int.pow_add, Nat.div_add_mod]
  rw [e, ← fm_mul_l, one_mul_exp ha, Int.one_mul] at hb
  exact hb
theorem one_gcd {r : Int} : ∀ (n a b : Nat), a ≤ n → fm (r ^ a) = 1 → fm (r ^ b) = 1 → fm (r ^ Nat.gcd a b) = 1
  | 0, a, b, h, ha, hb => by
    have : a = 0 := by omega
    subst this
    simpa using hb
  | n + 1, a, b, h, ha, hb => by
    by_cases a0 : a = 0
    · subst a0; simpa using hb
    · rw [Nat.gcd_rec]
      exact one_gcd n (b % a) a (by have := Nat.mod_lt b (show 0 < a by omega); omega) (one_mod ha hb) ha
/-- The least power that is 1. -/
theorem order_least {r : Int} {n m : Nat} (hn : 1 ≤ n) (hd : n ∣ 18446744069414584320) (h1 : fm (r ^ n) = 1) (hq : ∀ q, (q = 2 ∨ q = 3 ∨ q = 5 ∨ q = 17 ∨ q = 257 ∨ q = 65537) → q ∣ n → fm (r ^ (n / q)) ≠ 1) (hm : 0 < m) (hmn : m < n) : fm (r ^ m) ≠ 1 := by
  intro e
  have g1 := one_gcd m m n (Nat.le_refl _) e h1
  have gn := Nat.gcd_dvd_right m n
  have gm := Nat.gcd_dvd_left m n
  generalize Nat.gcd m n = g at *
  obtain ⟨d, rfl⟩ := gn
  have g0 : 0 < g := by
    by_cases h : g = 0
    · subst h; simp at hn
    · omega
  have gle : g ≤ m := Nat.le_of_dvd hm gm
  have d1 : 1 < d := by
    by_cases h : d ≤ 1
    · have : g * d ≤ g * 1 := Nat.mul_le_mul_left g h
      omega
    · omega
  have hp := prime_part d d1 (Nat.dvd_trans ⟨g, Nat.mul_comm _ _⟩ hd)
  have key : ∀ q, (q = 2 ∨ q = 3 ∨ q = 5 ∨ q = 17 ∨ q = 257 ∨ q = 65537) → ¬ q ∣ d := by
    intro q hqq hqd
    obtain ⟨t, rfl⟩ := hqd
    have q0 : 0 < q := by omega
    refine hq q hqq ⟨g * t, by rw [← Nat.mul_assoc, Nat.mul_comm g q, Nat.mul_assoc]⟩ ?_
    have e2 : g * (q * t) / q = g * t := by
      rw [show g * (q * t) = q * (g * t) by rw [← Nat.mul_assoc, Nat.mul_comm g q, Nat.mul_assoc]]
      exact Nat.mul_div_cancel_left _ q0
    rw [e2]
    exact one_mul_exp g1 t
  rcases hp with h | h | h | h | h | h
  · exact key 2 (by omega) h
  · exact key 3 (by omega) h
  · exact key 5 (by omega) h
  · exact key 17 (by omega) h
  · exact key 257 (by omega) h
  · exact key 65537 (by omega) h
end Go.Proofs.YtbhnlfgccldmaaaGreat
/- Twice transformed: the sums. Plain numbers: no Go text. -/
namespace Go.Proofs.YtbhnlfgccldmaaaGreat
open Go.ChangeShapes Go.WideShapes Go.ChangeAt Go.RowKit
set_option linter.unusedVariables false
theorem ps_congr {a b : Int} (h : fm a = fm b) : ∀ xs ys : List Int, xs.map fm = ys.map fm → fm (ps a xs) = fm (ps b ys)
  | [], [], _ => rfl
  | [], _ :: _, e => by simp at e
  | _ :: _, [], e => by simp at e
  | x :: r, y :: s, e => by
    simp only [List.map_cons, List.cons.injEq] at e
    have e1 : ps a (x :: r) = x + a * ps a r := rfl
    have e2 : ps b (y :: s) = y + b * ps b s := rfl
    rw [e1, e2, ← fm_add_fm, ← fm_mul_fm, e.1, h, ps_congr h r s e.2, fm_mul_fm, fm_add_fm]
theorem ps_snoc (st y : Int) : ∀ l : List Int, ps st (l ++ [y]) = ps st l + st ^ l.length * y
  | [] => by simp [ps]
  | x :: r => by
    have e1 : ps st (x :: r ++ [y]) = x + st * ps st (r ++ [y]) := rfl
    have e2 : ps st (x :: r) = x + st * ps st r := rfl
    rw [e1, e2, ps_snoc st y r, List.length_cons, Int.pow_succ]
    grind
theorem ps_range (r st : Int) (xs : List Int) : ∀ n : Nat, ps st ((List.range n).map fun i => ps (r ^ i) xs) = dsum r st xs n
  | 0 => rfl
  | i + 1 => by
    rw [List.range_succ, List.map_append, List.map_cons, List.map_nil, ps_snoc, ps_range r st xs i]
    simp [dsum]
theorem twice_at (r s : Int) (xs : List Int) (n k : Nat) (hk : k < n) : (horl s (horl r xs n) n).getD k 0 = fm (esum r n (s ^ k) xs) := by
  rw [horl_at s _ n k hk, hor_ps, ← dsum_esum, ← ps_range]
  apply ps_congr (fm_fm _)
  unfold horl
  rw [List.map_map, List.map_map]
  apply List.map_congr_left
  intro i _
  show fm (hor (fm (r ^ i)) xs) = fm (ps (r ^ i) xs)
  rw [hor_ps, fm_fm]
  exact ps_congr (fm_fm _) xs xs rfl
theorem shift_pow (t r : Int) (j : Nat) : t * r * r ^ j = t * r ^ (j + 1) := by rw [Int.pow_succ]; grind
theorem esum_none (r : Int) (n : Nat) : ∀ (xs : List Int) (t : Int), (∀ j, j < xs.length → fm ((t * r ^ j) ^ n) = 1 ∧ fm (t * r ^ j) ≠ 1) → fm (esum r n t xs) = 0
  | [], t, _ => rfl
  | x :: rest, t, h => by
    have e : esum r n t (x :: rest) = x * gsum t n + esum r n (t * r) rest := rfl
    have h0 := h 0 (by simp)
    rw [Int.pow_zero, Int.mul_one] at h0
    have g := gsum_zero t n h0.1 h0.2
    have i := esum_none r n rest (t * r) (fun j hj => by rw [shift_pow]; exact h (j + 1) (by simp; omega))
    rw [e, ← fm_add_fm, i, ← fm_mul_r, g, Int.mul_zero]
    rfl
theorem esum_at (r : Int) (n : Nat) : ∀ (xs : List Int) (t : Int) (k : Nat), k < xs.length → (∀ j, j < xs.length → fm ((t * r ^ j) ^ n) = 1) → (∀ j, j < xs.length → j ≠ k → fm (t * r ^ j) ≠ 1) → fm (t * r ^ k) = 1 → fm (esum r n t xs) = fm (n * xs.getD k 0)
  | [], _, _, h, _, _, _ => by simp at h
  | x :: rest, t, 0, h, h1, h2, h3 => by
    have e : esum r n t (x :: rest) = x * gsum t n + esum r n (t * r) rest := rfl
    rw [Int.pow_zero, Int.mul_one] at h3
    have i := esum_none r n rest (t * r) (fun j hj => by rw [shift_pow]; exact ⟨h1 (j + 1) (by simp; omega), h2 (j + 1) (by simp; omega) (by omega)⟩)
    rw [e, ← fm_add_fm, i, ← fm_mul_r, gsum_one t h3 n, fm_mul_r, Int.add_zero, fm_fm, Int.mul_comm]
    rfl
  | x :: rest, t, k + 1, h, h1, h2, h3 => by
    have e : esum r n t (x :: rest) = x * gsum t n + esum r n (t * r) rest := rfl
    have z1 := h1 0 (by simp)
    have z2 := h2 0 (by simp) (by omega)
    rw [Int.pow_zero, Int.mul_one] at z1 z2
    have g := gsum_zero t n z1 z2
    have i := esum_at r n rest (t * r) k (by simpa using h) (fun j hj => by rw [shift_pow]; exact h1 (j + 1) (by simp; omega)) (fun j hj hne => by rw [shift_pow]; exact h2 (j + 1) (by simp; omega) (by omega)) (by rw [shift_pow]; exact h3)
    rw [e, ← fm_add_fm, i, ← fm_mul_r, g, Int.mul_zero]
    have e0 : fm 0 = 0 := rfl
    rw [e0, Int.zero_add, fm_fm]
    rfl
end Go.Proofs.YtbhnlfgccldmaaaGreat
/- What may be transformed: package dft's check, and the reference's. -/
namespace Go.Proofs.YtbhnlfgccldmaaaGreat
open Go.ChangeShapes Go.WideShapes Go.ChangeAt Go.RowKit
set_option linter.unusedVariables false
/-- The error of what may not be transformed. -/
def chk (n dir : Int) : Int := if dir = 0 ∨ dir = 1 then (if hasb n = false then 4 else if 4096 < n then 12 else 0) else 2
theorem chk_dir (n dir : Int) (h : dir = 0 ∨ dir = 1) : chk n dir = if hasb n = false then 4 else if 4096 < n then 12 else 0 := if_pos h
theorem chk_no (n dir : Int) (h : ¬ (dir = 0 ∨ dir = 1)) : chk n dir = 2 := if_neg h
end Go.Proofs.YtbhnlfgccldmaaaGreat
/- Package dft, in both directions: base, Dft, Undo. -/
namespace Go.Proofs.YtbhnlfgccldmaaaGreat
open Go.ChangeShapes Go.WideShapes Go.ChangeAt Go.RowKit
set_option linter.unusedVariables false
/-- The root of a direction. -/
def rdir (n dir : Int) : Int := if dir = 1 then finv (rt n) else rt n
theorem rdir_lo (n dir : Int) : 0 ≤ rdir n dir := by
  unfold rdir; split
  · exact rootTells.finv_lo _
  · exact rt_lo n
theorem rdir_hi (n dir : Int) : rdir n dir ≤ 18446744069414584320 := by
  unfold rdir; split
  · exact rootTells.finv_hi _
  · exact rt_hi n
theorem chk_ok {n dir : Int} (h : chk n dir = 0) : (dir = 0 ∨ dir = 1) ∧ hasb n = true ∧ n ≤ 4096 := by
  unfold chk at h
  by_cases d : dir = 0 ∨ dir = 1
  · rw [if_pos d] at h
    cases hh : hasb n with
    | false => rw [hh] at h; simp at h
    | true =>
      rw [hh, if_neg (by decide)] at h
      by_cases g : 4096 < n
      · rw [if_pos g] at h; omega
      · exact ⟨d, rfl, by omega⟩
  · rw [if_neg d] at h; omega
end Go.Proofs.YtbhnlfgccldmaaaGreat
/- Transformed and undone. Plain numbers: no Go text. -/
namespace Go.Proofs.YtbhnlfgccldmaaaGreat
open Go.ChangeShapes Go.WideShapes Go.ChangeAt Go.RowKit
set_option linter.unusedVariables false
/-- r and s: inverse roots of the order n. -/
structure Inv2 (r s : Int) (n : Nat) : Prop where
  rn : fm (r ^ n) = 1
  sn : fm (s ^ n) = 1
  rs : fm (r * s) = 1
  ro : ∀ m, 0 < m → m < n → fm (r ^ m) ≠ 1
theorem pow_one_of {a : Int} (h : fm a = 1) (k : Nat) : fm (a ^ k) = 1 := by rw [← Fld.fm_pow1, h, Int.one_pow]; rfl
theorem Inv2.pow {r s : Int} {n : Nat} (h : Inv2 r s n) (k : Nat) : fm (s ^ k * r ^ k) = 1 := by
  rw [← Int.mul_pow, Int.mul_comm]; exact pow_one_of h.rs k
theorem Inv2.so {r s : Int} {n : Nat} (h : Inv2 r s n) (m : Nat) (h0 : 0 < m) (h1 : m < n) : fm (s ^ m) ≠ 1 := by
  intro e
  apply h.ro m h0 h1
  have := h.pow m
  rw [← fm_mul_l, e, Int.one_mul] at this
  exact this
theorem Inv2.symm {r s : Int} {n : Nat} (h : Inv2 r s n) : Inv2 s r n := ⟨h.sn, h.rn, by rw [Int.mul_comm]; exact h.rs, h.so⟩
theorem mix_pow {a b : Int} {n : Nat} (ha : fm (a ^ n) = 1) (hb : fm (b ^ n) = 1) (k j : Nat) : fm ((a ^ k * b ^ j) ^ n) = 1 := by
  rw [Int.mul_pow, ← Int.pow_mul, ← Int.pow_mul, Nat.mul_comm k n, Nat.mul_comm j n, ← fm_mul_fm, one_mul_exp ha, one_mul_exp hb]
  rfl
theorem Inv2.at {r s : Int} {n : Nat} (h : Inv2 r s n) (xs : List Int) (hl : xs.length = n) (k : Nat) (hk : k < n) : (horl s (horl r xs n) n).getD k 0 = fm (n * xs.getD k 0) := by
  rw [twice_at r s xs n k hk]
  refine esum_at r n xs (s ^ k) k (by omega) (fun j _ => mix_pow h.sn h.rn k j) (fun j hj hne => ?_) (h.pow k)
  rw [hl] at hj
  by_cases hjk : k < j
  · have e : s ^ k * r ^ j = (s ^ k * r ^ k) * r ^ (j - k) := by rw [Int.mul_assoc, ← Int.pow_add]; congr 2; omega
    rw [e, ← fm_mul_l, h.pow k, Int.one_mul]
    exact h.ro _ (by omega) (by omega)
  · have e : s ^ k * r ^ j = (s ^ j * r ^ j) * s ^ (k - j) := by
      rw [show s ^ k = s ^ j * s ^ (k - j) by rw [← Int.pow_add]; congr 1; omega]; grind
    rw [e, ← fm_mul_l, h.pow j, Int.one_mul]
    exact h.so _ (by omega) (by omega)
theorem Inv2.twice {r s : Int} {n : Nat} (h : Inv2 r s n) (xs : List Int) (hl : xs.length = n) (k : Nat) (hk : k < n) : (horl r (horl r xs n) n).getD k 0 = fm (n * xs.getD ((n - k) % n) 0) := by
  rw [twice_at r r xs n k hk]
  have one : ∀ j, (k + j) % n = 0 → fm (r ^ k * r ^ j) = 1 := by
    intro j hj
    obtain ⟨q, hq⟩ := Nat.dvd_of_mod_eq_zero hj
    rw [← Int.pow_add, hq]
    exact one_mul_exp h.rn q
  have hb : (k + (n - k) % n) % n = 0 := by
    rw [Nat.add_mod_mod, show k + (n - k) = n by omega, Nat.mod_self]
  refine esum_at r n xs (r ^ k) ((n - k) % n) (by rw [hl]; exact Nat.mod_lt _ (by omega)) (fun j _ => mix_pow h.rn h.rn k j) (fun j hj hne => ?_) (one _ hb)
  rw [hl] at hj
  have hne2 : (k + j) % n ≠ 0 := by
    intro e
    apply hne
    by_cases h0 : k = 0
    · subst h0
      rw [Nat.zero_add, Nat.mod_eq_of_lt hj] at e
      rw [e, Nat.sub_zero, Nat.mod_self]
    · rw [Nat.mod_eq_of_lt (by omega : n - k < n)]
      by_cases hlt : k + j < n
      · rw [Nat.mod_eq_of_lt hlt] at e; omega
      · rw [Nat.mod_eq_sub_mod (by omega), Nat.mod_eq_of_lt (by omega)] at e; omega
  have e : r ^ k * r ^ j = r ^ (n * ((k + j) / n)) * r ^ ((k + j) % n) := by rw [← Int.pow_add, ← Int.pow_add, Nat.div_add_mod]
  rw [e, ← fm_mul_l, one_mul_exp h.rn, Int.one_mul]
  exact h.ro _ (by omega) (Nat.mod_lt _ (by omega))
theorem ps_scl (st v : Int) : ∀ xs : List Int, ps st (xs.map fun x => v * x) = v * ps st xs
  | [] => by simp [ps]
  | x :: r => by
    have e1 : ps st ((x :: r).map fun x => v * x) = v * x + st * ps st (r.map fun x => v * x) := rfl
    have e2 : ps st (x :: r) = x + st * ps st r := rfl
    rw [e1, e2, ps_scl st v r]
    grind
theorem horl_scl (r v : Int) (xs : List Int) (n : Nat) : horl r (scl v xs) n = scl v (horl r xs n) := by
  unfold horl scl
  rw [List.map_map]
  apply List.map_congr_left
  intro i _
  show hor (fm (r ^ i)) (xs.map fun x => fm (v * x)) = fm (v * hor (fm (r ^ i)) xs)
  rw [hor_ps, hor_ps, fm_mul_r, ← ps_scl]
  apply ps_congr rfl
  rw [List.map_map, List.map_map]
  apply List.map_congr_left
  intro x _
  exact fm_fm _
end Go.Proofs.YtbhnlfgccldmaaaGreat
/- root.Powers, and the reference's. -/
namespace Go.Proofs.YtbhnlfgccldmaaaGreat
open Go.ChangeShapes Go.WideShapes Go.ChangeAt Go.RowKit
set_option linter.unusedVariables false
/-- a to the powers 0, 1, 2, .., n of them. -/
def powl (a : Int) (n : Nat) : List Int := (List.range n).map fun i => fm (a ^ i)
theorem powl_len (a : Int) (n : Nat) : (powl a n).length = n := by unfold powl; simp
theorem powl_at (a : Int) (n i : Nat) (h : i < n) : (powl a n).getD i 0 = fm (a ^ i) := by unfold powl; simp [List.getD, h]
theorem powl_wf (a : Int) (n : Nat) : ∀ z ∈ powl a n, (Lit.int .u64 z).wf = true := by
  intro z hz
  unfold powl at hz
  obtain ⟨x, _, rfl⟩ := List.mem_map.1 hz
  exact WalkArith.wf_u64 ⟨fm_lo _, fm_hi' _⟩
theorem pow_next (a : Int) (k : Nat) : fm (fm (a ^ k) * a) = fm (a ^ (k + 1)) := by rw [fm_mul_l, Int.pow_succ]

set_option maxRecDepth 100000 in
theorem root_powers (a : Int) (n : Nat) (w : World) (a0 : 0 ≤ a) (a1 : a ≤ 18446744073709551615) (hn : n ≤ 16777216) :
    Calls Tryz.prog 164 #[.int .u64 a, .int .i64 n] w fun e w' => e = .returned (.tuple #[.slice (some ⟨w.heap.size, 0, none⟩) n n, .int .i64 0]) ∧ RowAt w' w.heap.size 62 (powl a n) ∧ Below w.heap.size w w' := by
  have hmk := make_u64 n (by omega)
  have hd0 : decide ((n : Int) < 0) = false := decide_eq_false (by omega)
  have hd1 : decide (16777216 < (n : Int)) = false := decide_eq_false (by omega)
  have HL := Lib.hid (powl_len a n)
  have HA := Lib.hid (powl_at a n)
  have HO := Lib.hid (show (1 : Int) = fm (a ^ 0) by rw [Int.pow_zero]; rfl)
  go_enter Tryz.func164, Tryz.ntmps164
  go_wp2_with fail
  go_loopw [7, 19] (fun p i wr => ∃ k : Nat, k ≤ n ∧ i = .int .i64 k ∧ p = .int .u64 (fm (a ^ k)) ∧ Hid (Filling wr w.heap.size 62 (powl a n) k n) ∧ Below w.heap.size w wr) (fun _ i _ => n - (intOf i).toNat)
  case atStart => exact ⟨0, Nat.zero_le _, rfl, by rw [← HO.out], Lib.hid (Filling.start w _ _ n), (Below.refl _ _).alloc (Nat.le_refl _) _⟩
  case round =>
    obtain ⟨k, hk, rfl, rfl, HFL, hB⟩ := hrel
    have hsz := HFL.out.lt
    by_cases hlt : k < n
    · have HS := Lib.hid (HA.out k hlt)
      have HX := Lib.hid (pow_next a k)
      have g0 := fm_lo (a ^ k)
      have g1 := fm_hi (a ^ k)
      generalize fm (a ^ k) = pk at *
      obtain ⟨u, hu⟩ := HFL.out.cell hlt HL.out
      have hfr := HFL.out.free k
      have HG := Lib.hid (HFL.out.step hlt HL.out HS.out)
      go_wp2_with fail
      refine (gold_mul _ _ _ g0 (by omega) a0 a1).mono ?_
      rintro e w1 ⟨rfl, hb1⟩
      rw [HX.out]
      have HG2 := Lib.hid (HG.out.below hb1)
      go_wp2_with fail
      go_roundw
      case rel => exact ⟨k + 1, by omega, by go_num, rfl, HG2, ((hB.setCell (Nat.le_refl _) _).trans (hb1.mono (by simp; exact hB.size)))⟩
      case measure => (first | (simp [intOf]; done) | (simp [intOf]; omega) | (simp only [intOf]; omega))
    · obtain rfl : k = n := by omega
      go_wp2_with fail
      go_ret2
      exact ⟨rfl, HFL.out.done HL.out, hB⟩
set_option maxRecDepth 100000 in
theorem r4_powers (a : Int) (n : Nat) (w : World) (a0 : 0 ≤ a) (a1 : a ≤ 18446744069414584320) (hn : n ≤ 16777216) :
    Calls Tryz.prog 54 #[.int .u64 a, .int .i64 n] w fun e w' => ∃ v, e = .returned v ∧ Owns w' w.heap.size 62 .u64 v (powl a n) ∧ Below w.heap.size w w' := by
  have HL := Lib.hid (powl_len a n)
  have HA := Lib.hid (powl_at a n)
  have HO := Lib.hid (show (1 : Int) = fm (a ^ 0) by rw [Int.pow_zero]; rfl)
  go_enter Tryz.func54, Tryz.ntmps54
  go_wp2_with fail
  go_loopw [5, 6, 7] (fun v p i wr => ∃ k : Nat, k ≤ n ∧ i = .int .i64 k ∧ p = .int .u64 (fm (a ^ k)) ∧ Hid (Owns wr w.heap.size 62 .u64 v (upto (powl a n) k)) ∧ Below w.heap.size w wr) (fun _ _ i _ => n - (intOf i).toNat)
  case atStart => exact ⟨0, Nat.zero_le _, rfl, by rw [← HO.out], Lib.hid (Owns.nil _ _ _ _), Below.refl _ _⟩
  case round =>
    obtain ⟨k, hk, rfl, rfl, HOW, hB⟩ := hrel
    by_cases hlt : k < n
    · have HX := Lib.hid (pow_next a k)
      have g0 := fm_lo (a ^ k)
      have g1 := fm_hi (a ^ k)
      have HS := Lib.hid (upto_snoc (powl a n) k _ (by rw [HL.out]; exact hlt) (HA.out k hlt))
      have HK := Lib.hid (upto_len (powl a n) k (by rw [HL.out]; exact hk))
      generalize fm (a ^ k) = pk at *
      go_wp2_with (at_builtin; refine append_one Tryz.underlying25 info_u64 rfl _ _ rfl rfl HOW.out rfl hB.size (by rw [HK.out]; omega) ?_; intro v' w' hO hb')
      have HO2 := Lib.hid hO
      clear hO
      refine (r2_mulz _ _ _ g0 (by omega) a0 a1).mono ?_
      rintro e w1 ⟨rfl, rfl⟩
      rw [HX.out]
      go_wp2_with fail
      go_roundw
      case rel => exact ⟨k + 1, by omega, by go_num, rfl, by rw [← HS.out]; exact HO2, hB.trans hb'⟩
      case measure => (first | (simp [intOf]; done) | (simp [intOf]; omega) | (simp only [intOf]; omega))
    · obtain rfl : k = n := by omega
      go_wp2_with fail
      go_ret
      exact ⟨_, rfl, by rw [← upto_full (powl a k) k HL.out]; exact HOW.out, hB⟩
end Go.Proofs.YtbhnlfgccldmaaaGreat
/- Sums and turns under the transform; the document's own way of reckoning it. Plain numbers: no Go text. -/
namespace Go.Proofs.YtbhnlfgccldmaaaGreat
open Go.ChangeShapes Go.WideShapes Go.ChangeAt Go.RowKit
set_option linter.unusedVariables false
theorem inv_uniq {a b c : Int} (h1 : fm (a * c) = 1) (h2 : fm (b * c) = 1) : fm a = fm b := by
  have e1 : fm (a * (b * c)) = fm a := by rw [← fm_mul_r, h2, Int.mul_one]
  have e2 : fm (b * (a * c)) = fm b := by rw [← fm_mul_r, h1, Int.mul_one]
  rw [← e1, ← e2]
  congr 1
  grind
theorem pow_mod {r : Int} {n : Nat} (h : fm (r ^ n) = 1) (e : Nat) : fm (r ^ (e % n)) = fm (r ^ e) := by
  have : r ^ e = r ^ (n * (e / n)) * r ^ (e % n) := by rw [← Int.pow_add, Nat.div_add_mod]
  rw [this, ← fm_mul_l, one_mul_exp h, Int.one_mul]
/-- The polynomial's first k terms at a place. -/
def psum (st : Int) (xs : List Int) (k : Nat) : Int := fm (ps st (xs.take k))
theorem psum_lo (st : Int) (xs : List Int) (k : Nat) : 0 ≤ psum st xs k := fm_lo _
theorem psum_hi (st : Int) (xs : List Int) (k : Nat) : psum st xs k ≤ 18446744069414584320 := fm_hi _
theorem psum_step (st : Int) (xs : List Int) (k : Nat) (h : k < xs.length) : fm (psum st xs k + fm (xs.getD k 0 * st ^ k)) = psum st xs (k + 1) := by
  unfold psum
  rw [take_snoc xs k h, ps_snoc, List.length_take, Nat.min_eq_left (by omega), fm_add_l, fm_add_r]
  have e : xs.getD k 0 = xs[k] := by simp [List.getD, h]
  rw [e, Int.mul_comm]
theorem psum_all (st : Int) (xs : List Int) : psum st xs xs.length = hor st xs := by
  unfold psum
  rw [List.take_length, hor_ps]
theorem hor_fm (st : Int) (xs : List Int) : hor (fm st) xs = hor st xs := by
  rw [hor_ps, hor_ps]
  exact ps_congr (fm_fm _) xs xs rfl
theorem ps_add (st : Int) : ∀ xs ys : List Int, xs.length = ys.length → fm (ps st (zadd xs ys)) = fm (ps st xs + ps st ys)
  | [], [], _ => rfl
  | [], _ :: _, e => by simp at e
  | _ :: _, [], e => by simp at e
  | x :: r, y :: s, e => by
    have e1 : ps st (x :: r) = x + st * ps st r := rfl
    have e2 : ps st (y :: s) = y + st * ps st s := rfl
    have e3 : ps st (zadd (x :: r) (y :: s)) = fm (x + y) + st * ps st (zadd r s) := rfl
    have i := ps_add st r s (by simpa using e)
    rw [e1, e2, e3, fm_add_l, ← fm_add_r, ← fm_mul_r, i, fm_mul_r, fm_add_r]
    congr 1
    grind
theorem ps_app (st : Int) (ys : List Int) : ∀ xs : List Int, ps st (xs ++ ys) = ps st xs + st ^ xs.length * ps st ys
  | [] => by simp [ps]
  | x :: r => by
    have e1 : ps st (x :: r ++ ys) = x + st * ps st (r ++ ys) := rfl
    have e2 : ps st (x :: r) = x + st * ps st r := rfl
    rw [e1, e2, ps_app st ys r, List.length_cons, Int.pow_succ]
    grind
theorem ps_red (st : Int) (xs : List Int) : fm (ps st (redl xs)) = fm (ps st xs) := by
  apply ps_congr rfl
  unfold redl
  rw [List.map_map]
  apply List.map_congr_left
  intro x _
  exact fm_fm x
theorem hor_turn (st : Int) (xs : List Int) (n t : Nat) (hl : xs.length = n) (ht : t < n) (h1 : fm (st ^ n) = 1) : hor st (turnl xs t) = fm (hor st xs * st ^ (n - t)) := by
  rw [hor_ps, hor_ps, fm_mul_l, ← turn_split xs t (by omega), ps_app, redl_len, List.length_drop, hl, ← fm_add_fm, ps_red, ← fm_mul_r, ps_red, fm_mul_r, fm_add_fm]
  have e : ps st xs = ps st (xs.take t) + st ^ t * ps st (xs.drop t) := by
    have := ps_app st (xs.drop t) (xs.take t)
    rw [List.take_append_drop, List.length_take, Nat.min_eq_left (by omega)] at this
    exact this
  rw [e]
  have e2 : st ^ n = st ^ t * st ^ (n - t) := by rw [← Int.pow_add]; congr 1; omega
  have e3 : (ps st (xs.take t) + st ^ t * ps st (xs.drop t)) * st ^ (n - t) = st ^ (n - t) * ps st (xs.take t) + st ^ n * ps st (xs.drop t) := by
    rw [e2]; grind
  have e4 : fm (st ^ n * ps st (xs.drop t)) = fm (ps st (xs.drop t)) := by rw [← fm_mul_l, h1, Int.one_mul]
  rw [e3, ← fm_add_r _ (st ^ n * ps st (xs.drop t)), e4, fm_add_r, Int.add_comm]
end Go.Proofs.YtbhnlfgccldmaaaGreat
/- The document's own transform (reference 6), and one sum of any. -/
namespace Go.Proofs.YtbhnlfgccldmaaaGreat
open Go.ChangeShapes Go.WideShapes Go.ChangeAt Go.RowKit
set_option linter.unusedVariables false
open rootTells
theorem bk_eq {n : Int} (hh : hasb n = true) : fm (rt n ^ (n - 1).toNat) = finv (rt n) := by
  obtain ⟨a, b, c⟩ := hasb_dvd hh
  have h1 := rt_one_pow hh
  have h2 := rt_inv hh
  have e : n.toNat = (n - 1).toNat + 1 := by omega
  rw [e, Int.pow_succ] at h1
  have := inv_uniq h1 (b := finv (rt n)) (by rw [Int.mul_comm]; exact h2)
  rw [this]
  exact fm_fm _
theorem r4_back (n : Int) (w : World) (hh : hasb n = true) :
    Calls Tryz.prog 93 #[.int .i64 n] w fun e w' => e = .returned (.int .u64 (finv (rt n))) ∧ w = w' := by
  obtain ⟨a, b, c⟩ := hasb_dvd hh
  have R := Lib.hid (fun w => r4_root n w hh)
  have HE := Lib.hid (show fm (rt n ^ (n.toNat - 1)) = finv (rt n) by rw [← bk_eq hh]; congr 2; omega)
  have P := Lib.hid (fun w => r2_pow (rt n) (n - 1).toNat w (rt_lo n) (rt_hi n) (by omega))
  have e1 : (((n - 1).toNat : Nat) : Int) = n - 1 := by omega
  rw [e1] at P
  clear hh c e1
  go_enter Tryz.func93, Tryz.ntmps93
  go_wp2_with fail
  refine (R.out _).mono ?_
  rintro e w1 ⟨rfl, rfl⟩
  go_wp2_with fail
  refine (P.out _).mono ?_
  rintro e w1 ⟨rfl, rfl⟩
  go_wp2_with fail
  go_ret
  exact ⟨ret_u64 HE.out, rfl⟩
theorem r4_dir (n dir : Int) (w : World) (hh : hasb n = true) (hd : dir = 0 ∨ dir = 1) :
    Calls Tryz.prog 55 #[.int .i64 n, .int .i64 dir] w fun e w' => e = .returned (.int .u64 (rdir n dir)) ∧ w = w' := by
  have R := Lib.hid (fun w => r4_root n w hh)
  have B := Lib.hid (fun w => r4_back n w hh)
  have E0 := Lib.hid (show rdir n 0 = rt n from rfl)
  have E1 := Lib.hid (show rdir n 1 = finv (rt n) from rfl)
  clear hh
  rcases hd with rfl | rfl
  · go_enter Tryz.func55, Tryz.ntmps55
    go_wp2_with fail
    refine (R.out _).mono ?_
    rintro e w1 ⟨rfl, rfl⟩
    go_wp2_with fail
    go_ret
    exact ⟨ret_u64 E0.out.symm, rfl⟩
  · go_enter Tryz.func55, Tryz.ntmps55
    go_wp2_with fail
    refine (B.out _).mono ?_
    rintro e w1 ⟨rfl, rfl⟩
    go_wp2_with fail
    go_ret
    exact ⟨ret_u64 E1.out.symm, rfl⟩
/-- A place that is asked at: 0, if below 0. -/
theorem psum_mul (st x : Int) (j : Nat) : fm (x * fm (st ^ j)) = fm (x * st ^ j) := fm_mul_r _ _
theorem c_rpows (a : Int) (n : Nat) (w : World) (a0 : 0 ≤ a) (a1 : a ≤ 18446744069414584320) (hn : n ≤ 16777216) : Calls Tryz.prog 54 #[.int .u64 a, .int .i64 n] w (Gives w n (powl a n)) :=
  (r4_powers a n w a0 a1 hn).mono fun e w' ⟨v, he, hq, hb⟩ => gives_own he hq hb (powl_wf a n) (powl_len a n) (by omega)
/-- A root's power at j times k, looked up around. -/
theorem powl_mod {r : Int} {n : Nat} (h : fm (r ^ n) = 1) (j k : Nat) (hn : 0 < n) : (powl r n).getD (j * k % n) 0 = fm (fm (r ^ k) ^ j) := by
  rw [powl_at r n _ (Nat.mod_lt _ hn), pow_mod h, Fld.fm_pow1, ← Int.pow_mul, Nat.mul_comm]
theorem rdir_one {n : Nat} {dir : Int} (hc : chk n dir = 0) : fm (rdir n dir ^ n) = 1 := by
  obtain ⟨hd, hh, _⟩ := chk_ok hc
  have h1 := rt_one_pow hh
  rw [Int.toNat_natCast] at h1
  rcases hd with rfl | rfl
  · exact h1
  · have := pow_one_of (rt_inv hh) n
    rw [Int.mul_pow, ← fm_mul_l, h1, Int.one_mul] at this
    exact this
set_option maxRecDepth 100000 in
theorem r6_dft (p : Option Addr) (n c : Nat) (dir : Int) (xs : List Int) (w : World) (hr : Row w p n xs) (hc : chk n dir = 0) :
    Calls Tryz.prog 18 #[.slice p n c, .int .i64 dir] w (Gives w n (horl (rdir n dir) xs n)) := by
  have hs := hr.small
  obtain ⟨hd, hh, hn⟩ := chk_ok hc
  have hn1 : 1 ≤ n := by have := (hasb_dvd hh).1; omega
  have D := Lib.hid (fun w => r4_dir n dir w hh hd)
  have r0 := rdir_lo n dir
  have r1 := rdir_hi n dir
  have RM := Lib.hid (fun j k => powl_mod (rdir_one hc) j k hn1)
  have PW := Lib.hid (fun w => c_rpows (rdir n dir) n w r0 r1 (by omega))
  have HX := Lib.hid hr
  have HL := Lib.hid hr.len
  have hB := Below.refl w.heap.size w
  clear hr hc hh hd
  generalize rdir n dir = r at *
  have YL := Lib.hid (horl_len r xs n)
  have YA := Lib.hid (horl_at r xs n)
  have YW := Lib.hid (horl_wf r xs n)
  go_enter Tryz.func18, Tryz.ntmps18
  go_wp2_with fail
  refine (D.out _).mono ?_
  rintro e w1 ⟨rfl, rfl⟩
  go_wp2_with fail
  refine (PW.out _).mono ?_
  rintro e w1 ⟨q, d, rfl, hq, b1⟩
  have HQ := Lib.hid hq
  have HX1 := Lib.hid (HX.out.below b1)
  clear hq HX
  go_wp2_with fail
  go_loopw [7, 8, 9, 10] (fun v i _ _ wr => ∃ k : Nat, k ≤ n ∧ i = .int .i64 k ∧ Hid (Owns wr w1.heap.size 62 .u64 v (upto (horl r xs n) k)) ∧ Below w1.heap.size w1 wr) (fun _ i _ _ _ => n - (intOf i).toNat)
  case atStart => exact ⟨0, Nat.zero_le _, rfl, Lib.hid (Owns.nil _ _ _ _), Below.refl _ _⟩
  case round =>
    obtain ⟨k, hk, rfl, HOW, hB⟩ := hrel
    have HX := Lib.hid (HX1.out.below hB)
    have HQ2 := Lib.hid (HQ.out.below hB)
    by_cases hlt : k < n
    · have HS := Lib.hid (upto_snoc (horl r xs n) k _ (by rw [YL.out]; exact hlt) (YA.out k hlt))
      have HK := Lib.hid (upto_len (horl r xs n) k (by rw [YL.out]; exact hk))
      have RK := Lib.hid (fun j => RM.out j k)
      have HA := Lib.hid (psum_all (fm (r ^ k)) xs)
      have HSt := Lib.hid (psum_step (fm (r ^ k)) xs)
      generalize fm (r ^ k) = st at *
      have hd : decide ((k : Int) < (n : Int)) = true := decide_eq_true (by omega)
      go_wp2_with fail
      obtain ⟨wo, rfl⟩ : ∃ wo : World, wo = wr := ⟨_, rfl⟩
      go_loopw [9, 10] (fun s i wr => ∃ j : Nat, j ≤ n ∧ i = .int .i64 j ∧ s = .int .u64 (psum st xs j) ∧ Below wo.heap.size wo wr) (fun _ i _ => n - (intOf i).toNat)
      case atStart => exact ⟨0, Nat.zero_le _, rfl, rfl, Below.refl _ _⟩
      case round =>
        obtain ⟨j, hj, rfl, rfl, hB2⟩ := hrel
        by_cases hlt2 : j < n
        · obtain ⟨b, off, rfl, hb, hc0, x0, x1⟩ := HX.out.cell hlt2
          have hm : j * k % n < n := Nat.mod_lt _ (by omega)
          obtain ⟨b', off', rfl, hb', hd0, y0, y1⟩ := HQ2.out.cell hm
          rw [RK.out j] at hd0 y0 y1
          have hjk : j * k ≤ 4096 * 4096 := Nat.mul_le_mul (by omega) (by omega)
          have hw1 : IntKind.i64.wrap ((j : Int) * (k : Int)) = (j : Int) * (k : Int) := IntWalk.i64_in _ (by rw [← Int.natCast_mul]; omega)
          have hw2 : ((j : Int) * (k : Int)).tmod (n : Int) = ((j * k % n : Nat) : Int) := by
            rw [show ((j : Int) * (k : Int)) = ((j * k : Nat) : Int) from by push_cast; rfl]; rfl
          have hnz : ((n : Int) == 0) = false := by simp; omega
          have hnz2 : ¬ ((n : Int) = 0) := by omega
          have hnz3 : ¬ (n = 0) := by omega
          have HS1 := Lib.hid (HSt.out j (by rw [HL.out]; exact hlt2))
          have HT1 := Lib.hid (psum_mul st (xs.getD j 0) j)
          have s0 := psum_lo st xs j
          have s1 := psum_hi st xs j
          generalize xs.getD j 0 = x at *
          have hc : wr.cell? ⟨b, off + j, none⟩ = some (.int .u64 x) := (hB2.cell (p := ⟨b, off + j, none⟩) hb).trans hc0
          have hc' : wr.cell? ⟨b', off' + j * k % n, none⟩ = some (.int .u64 (fm (st ^ j))) := (hB2.cell (p := ⟨b', off' + j * k % n, none⟩) hb').trans hd0
          clear hc0 hd0
          generalize j * k % n = m at *
          have hm0 : (0 : Int) ≤ (m : Int) := by omega
          have hm1 : (m : Int) < (n : Int) := by omega
          go_wp2_with fail
          go_region_held3 (fun w' => w'.cell? ⟨b, off + j, none⟩ = some (.int .u64 x) ∧ w'.cell? ⟨b', off' + m, none⟩ = some (.int .u64 (fm (st ^ j))) ∧ Below wo.heap.size wo w') (first | exact ⟨hc, hc', hB2.drew⟩ | assumption) (first | (go_at_call 57; (with_reducible refine (r2_red _ _ (by assumption) (by assumption)).mono ?_); rintro e w' ⟨rfl, rfl⟩) | (go_at_call 38; (with_reducible refine (r2_mulf _ _ _).mono ?_); rintro e w' ⟨rfl, rfl⟩) | (go_at_call 56; (with_reducible refine (r2_add _ _ _ s0 s1 (fm_lo _) (fm_hi _)).mono ?_); rintro e w' ⟨rfl, rfl⟩))
          have hS2 := Lib.hid (by assumption : _ ∧ _ ∧ Below wo.heap.size wo _)
          rw [HS1.out]
          go_wp2_with fail
          go_roundw
          case rel => exact ⟨j + 1, by omega, by go_num, rfl, hS2.out.2.2⟩
          case measure => (first | (simp [intOf]; done) | (simp [intOf]; omega) | (simp only [intOf]; omega))
        · obtain rfl : j = n := by omega
          have HE := Lib.hid (show psum st xs j = hor st xs by rw [← HA.out, HL.out])
          rw [HE.out]
          have HOW2 := Lib.hid (HOW.out.below hB2)
          have hB3 := hB.trans (hB2.mono hB.size)
          go_wp2_with (at_builtin; refine append_one Tryz.underlying25 info_u64 rfl _ _ rfl rfl HOW2.out rfl hB3.size (by rw [HK.out]; omega) ?_; intro v' w' hO hb')
          have HO2 := Lib.hid hO
          clear hO
          go_wp2_with fail
          go_roundw
          case rel => exact ⟨k + 1, by omega, by go_num, by rw [← HS.out]; exact HO2, hB3.trans hb'⟩
          case measure => (first | (simp [intOf]; done) | (simp [intOf]; omega) | (simp only [intOf]; omega))
    · obtain rfl : k = n := by omega
      have hd : decide ((k : Int) < (k : Int)) = false := decide_eq_false (by omega)
      go_wp2_with fail
      go_ret
      exact gives_own rfl (by rw [← upto_full (horl r xs k) k YL.out]; exact HOW.out) (b1.trans (hB.mono b1.size)) YW.out YL.out hs
end Go.Proofs.YtbhnlfgccldmaaaGreat
/- Numbers of plans: sums, Cooley and Tukey. Plain numbers: no Go text. -/
namespace Go.Proofs.YtbhnlfgccldmaaaGreat
open Go.ChangeShapes Go.WideShapes Go.ChangeAt Go.RowKit
set_option linter.unusedVariables false
set_option linter.unusedSimpArgs false
/-- The sum of f i, i below n. -/
def sm (f : Nat → Int) : Nat → Int
  | 0 => 0
  | n + 1 => sm f n + f n
theorem sm_succ (f : Nat → Int) (n : Nat) : sm f (n + 1) = sm f n + f n := rfl
theorem sm_congr {f g : Nat → Int} : ∀ n, (∀ i, i < n → fm (f i) = fm (g i)) → fm (sm f n) = fm (sm g n)
  | 0, _ => rfl
  | n + 1, h => by rw [sm_succ, sm_succ, ← fm_add_fm, sm_congr n (fun i hi => h i (by omega)), h n (by omega), fm_add_fm]
theorem sm_eq {f g : Nat → Int} : ∀ n, (∀ i, i < n → f i = g i) → sm f n = sm g n
  | 0, _ => rfl
  | n + 1, h => by rw [sm_succ, sm_succ, sm_eq n (fun i hi => h i (by omega)), h n (by omega)]
theorem sm_mul (c : Int) (f : Nat → Int) : ∀ n, c * sm f n = sm (fun i => c * f i) n
  | 0 => by simp [sm]
  | n + 1 => by rw [sm_succ, Int.mul_add, sm_mul c f n, sm_succ]
theorem sm_add (f g : Nat → Int) : ∀ n, sm (fun i => f i + g i) n = sm f n + sm g n
  | 0 => rfl
  | n + 1 => by rw [sm_succ, sm_add f g n, sm_succ, sm_succ]; omega
theorem sm_nul : ∀ n, sm (fun _ => 0) n = 0
  | 0 => rfl
  | n + 1 => by rw [sm_succ, sm_nul n]; rfl
theorem sm_swap (f : Nat → Nat → Int) (b : Nat) : ∀ a, sm (fun i => sm (fun j => f i j) b) a = sm (fun j => sm (fun i => f i j) a) b
  | 0 => by simp [sm, sm_nul]
  | a + 1 => by
    rw [sm_succ, sm_swap f b a, ← sm_add]
    rfl
theorem sm_app (f : Nat → Int) (a : Nat) : ∀ b, sm f (a + b) = sm f a + sm (fun j => f (a + j)) b
  | 0 => by simp [sm]
  | b + 1 => by rw [← Nat.add_assoc, sm_succ, sm_app f a b, sm_succ]; omega
theorem sm_split (f : Nat → Int) (b : Nat) : ∀ a, sm f (a * b) = sm (fun i => sm (fun j => f (i * b + j)) b) a
  | 0 => by simp [sm]
  | a + 1 => by rw [Nat.add_mul, Nat.one_mul, sm_app, sm_split f b a, sm_succ]
theorem sm_sum (f : Nat → Int) : ∀ n, sm f n = ((List.range n).map f).sum
  | 0 => rfl
  | n + 1 => by rw [sm_succ, sm_sum f n, List.range_succ, List.map_append, List.sum_append]; simp
theorem perm_sum {l m : List Int} (h : l.Perm m) : l.sum = m.sum := by
  induction h with
  | nil => rfl
  | cons x _ ih => rw [List.sum_cons, List.sum_cons, ih]
  | swap x y l => simp only [List.sum_cons]; omega
  | trans _ _ h1 h2 => rw [h1, h2]
/-- In whatever order. -/
theorem sm_perm (f : Nat → Int) (n : Nat) (p : Nat → Nat) (hp : ((List.range n).map p).Perm (List.range n)) : sm (fun i => f (p i)) n = sm f n := by
  rw [sm_sum, sm_sum, ← perm_sum (hp.map f), List.map_map]
  rfl
theorem ps_snoc' (st y : Int) : ∀ l : List Int, ps st (l ++ [y]) = ps st l + st ^ l.length * y
  | [] => by simp [ps]
  | x :: l => by
    rw [List.cons_append, ps, ps_snoc' st y l, ps, List.length_cons, Int.pow_succ]
    grind
theorem ps_sm (st : Int) (f : Nat → Int) : ∀ n, ps st ((List.range n).map f) = sm (fun j => f j * st ^ j) n
  | 0 => rfl
  | n + 1 => by
    rw [List.range_succ, List.map_append, List.map_cons, List.map_nil, ps_snoc', ps_sm st f n, sm_succ, List.length_map, List.length_range, Int.mul_comm (st ^ n)]
theorem list_getD (xs : List Int) (n : Nat) (h : xs.length = n) : (List.range n).map (fun j => xs.getD j 0) = xs := by
  subst h
  apply List.ext_getElem (by simp)
  intro i h1 h2
  simp [List.getD, h2]
/-- The transform at k as a plain sum. -/
theorem hor_sm (r : Int) (k : Nat) (xs : List Int) (n : Nat) (h : xs.length = n) : hor (fm (r ^ k)) xs = fm (sm (fun j => xs.getD j 0 * r ^ (j * k)) n) := by
  rw [hor_fm, hor_ps, ← list_getD xs n h, ps_sm, list_getD xs n h]
  congr 1
  refine sm_eq n fun j _ => ?_
  rw [← Int.pow_mul, Nat.mul_comm k j]
theorem horl_sm (r : Int) (xs : List Int) (n k : Nat) (h : xs.length = n) (hk : k < n) : (horl r xs n).getD k 0 = fm (sm (fun j => xs.getD j 0 * r ^ (j * k)) n) := by
  rw [horl_at _ _ _ _ hk, hor_sm r k xs n h]
theorem pow_eqv {r : Int} {n : Nat} (h : fm (r ^ n) = 1) {a b : Nat} (e : a % n = b % n) : fm (r ^ a) = fm (r ^ b) := by
  rw [← pow_mod h a, e, pow_mod h]
theorem mul_eqv {x y z : Int} (h : fm y = fm z) : fm (x * y) = fm (x * z) := by rw [← fm_mul_r x y, h, fm_mul_r]
/-- A row of rows: number i*b + j is f i j. -/
def gridf (a b : Nat) (f : Nat → Nat → Int) : List Int := (List.range (a * b)).map fun k => f (k / b) (k % b)
theorem gridf_len (a b : Nat) (f : Nat → Nat → Int) : (gridf a b f).length = a * b := by simp [gridf]
theorem gridf_at (a b : Nat) (f : Nat → Nat → Int) {i j : Nat} (hi : i < a) (hj : j < b) : (gridf a b f).getD (i * b + j) 0 = f i j := by
  have h1 : i * b + j < a * b := by
    have : (i + 1) * b ≤ a * b := Nat.mul_le_mul_right b hi
    rw [Nat.add_mul, Nat.one_mul] at this
    omega
  have h2 : (i * b + j) / b = i := by rw [Nat.mul_comm, Nat.mul_add_div (by omega)]; simp [Nat.div_eq_of_lt hj]
  have h3 : (i * b + j) % b = j := by rw [Nat.mul_comm, Nat.mul_add_mod]; exact Nat.mod_eq_of_lt hj
  unfold gridf
  rw [List.getD_eq_getElem?_getD, List.getElem?_map, List.getElem?_range h1]
  simp [h2, h3]
/-- A column. -/
def coll (xs : List Int) (a b j : Nat) : List Int := (List.range a).map fun i => xs.getD (i * b + j) 0
theorem coll_len (xs : List Int) (a b j : Nat) : (coll xs a b j).length = a := by simp [coll]
theorem coll_at (xs : List Int) (a b j i : Nat) (hi : i < a) : (coll xs a b j).getD i 0 = xs.getD (i * b + j) 0 := by
  simp [coll, List.getD, hi]
/-- A part of a row. -/
def partl (xs : List Int) (b i : Nat) : List Int := (List.range b).map fun j => xs.getD (i * b + j) 0
theorem partl_len (xs : List Int) (b i : Nat) : (partl xs b i).length = b := by simp [partl]
theorem partl_at (xs : List Int) (b i j : Nat) (hj : j < b) : (partl xs b i).getD j 0 = xs.getD (i * b + j) 0 := by
  simp [partl, List.getD, hj]
/-- All columns' transforms. -/
def colsl (ra : Int) (xs : List Int) (a b : Nat) : List Int := gridf a b fun i j => (horl ra (coll xs a b j) a).getD i 0
/-- All rows' transforms. -/
def rowsl (rb : Int) (xs : List Int) (a b : Nat) : List Int := gridf a b fun i j => (horl rb (partl xs b i) b).getD j 0
theorem lt_mul {a b i j : Nat} (hi : i < a) (hj : j < b) : i * b + j < a * b := by
  have : (i + 1) * b ≤ a * b := Nat.mul_le_mul_right b hi
  rw [Nat.add_mul, Nat.one_mul] at this
  omega
/-- Cooley and Tukey: the number at i + a j. -/
theorem split_at {r ra rb : Int} {a b : Nat} (xs : List Int) (hl : xs.length = a * b) (hn : fm (r ^ (a * b)) = 1) (ha : fm ra = fm (r ^ b)) (hb : fm rb = fm (r ^ a))
    (gs : List Int) (hg : ∀ i j, i < a → j < b → fm (gs.getD (i * b + j) 0) = fm ((colsl ra xs a b).getD (i * b + j) 0 * r ^ (i * j))) {i j : Nat} (hi : i < a) (hj : j < b) :
    fm ((rowsl rb gs a b).getD (i * b + j) 0) = (horl r xs (a * b)).getD (i + a * j) 0 := by
  have hij : i + a * j < a * b := by have := lt_mul hj hi; rw [Nat.mul_comm b a, Nat.mul_comm j a] at this; omega
  rw [horl_sm r xs (a * b) _ hl hij, rowsl, gridf_at a b _ hi hj, horl_sm rb _ b j (partl_len _ _ _) hj, fm_fm]
  -- each number of a row is a sum
  have e1 : fm (sm (fun q => (partl gs b i).getD q 0 * rb ^ (q * j)) b) = fm (sm (fun q => sm (fun p => xs.getD (p * b + q) 0 * r ^ ((p * b + q) * (i + a * j))) a) b) := by
    refine sm_congr b fun q hq => ?_
    rw [partl_at _ _ _ _ hq, ← fm_mul_l, hg i q hi hq, fm_mul_l, colsl, gridf_at a b _ hi hq, horl_sm ra _ a i (coll_len _ _ _ _) hi]
    rw [Int.mul_assoc, fm_mul_l, Int.mul_comm, sm_mul]
    refine sm_congr a fun p hp => ?_
    rw [coll_at _ _ _ _ _ hp]
    have h1 : fm (ra ^ (p * i)) = fm (r ^ (b * (p * i))) := by
      rw [← Fld.fm_pow1 ra, ha, Fld.fm_pow1, ← Int.pow_mul]
    have h2 : fm (rb ^ (q * j)) = fm (r ^ (a * (q * j))) := by
      rw [← Fld.fm_pow1 rb, hb, Fld.fm_pow1, ← Int.pow_mul]
    have h3 : fm (r ^ ((p * b + q) * (i + a * j))) = fm (r ^ (b * (p * i)) * (r ^ (i * q) * r ^ (a * (q * j)))) := by
      rw [← Int.pow_add, ← Int.pow_add]
      refine pow_eqv hn ?_
      have : (p * b + q) * (i + a * j) = (b * (p * i) + (i * q + a * (q * j))) + (a * b) * (p * j) := by
        simp only [Nat.add_mul, Nat.mul_add, Nat.mul_assoc, Nat.mul_comm, Nat.mul_left_comm]
        omega
      rw [this, Nat.add_mul_mod_self_left]
    rw [show r ^ (i * q) * rb ^ (q * j) * (xs.getD (p * b + q) 0 * ra ^ (p * i)) = xs.getD (p * b + q) 0 * (ra ^ (p * i) * (r ^ (i * q) * rb ^ (q * j))) by grind]
    refine mul_eqv ?_
    rw [h3, ← fm_mul_l, h1, fm_mul_l]
    refine mul_eqv ?_
    exact mul_eqv h2
  rw [e1, ← sm_swap (fun p q => xs.getD (p * b + q) 0 * r ^ ((p * b + q) * (i + a * j))), ← sm_split (fun t => xs.getD t 0 * r ^ (t * (i + a * j)))]
end Go.Proofs.YtbhnlfgccldmaaaGreat
/- Products of rows, plain and around: plain numbers, no Go text. -/
namespace Go.Proofs.YtbhnlfgccldmaaaGreat
open Go.ChangeShapes Go.WideShapes Go.ChangeAt Go.RowKit
set_option linter.unusedVariables false
/-- Likewise around. -/
def csn (xs ys : List Int) (n : Nat) : Nat → Nat → Int
  | 0, _ => 0
  | i + 1, k => fm (csn xs ys n i k + fm (xs.getD i 0 * ys.getD ((k + n - i) % n) 0))
def cycl (xs ys : List Int) : List Int := tab xs.length (csn xs ys xs.length xs.length)
theorem csn_b (xs ys : List Int) (n : Nat) : ∀ i k, 0 ≤ csn xs ys n i k ∧ csn xs ys n i k ≤ 18446744069414584320
  | 0, _ => by simp [csn]
  | i + 1, k => ⟨fm_lo _, fm_hi _⟩
theorem tab_wf (n : Nat) (f : Nat → Int) (h : ∀ k, 0 ≤ f k ∧ f k ≤ 18446744069414584320) : ∀ z ∈ tab n f, (Lit.int .u64 z).wf = true := by
  intro z hz
  unfold tab at hz
  obtain ⟨k, _, rfl⟩ := List.mem_map.1 hz
  have := h k
  exact WalkArith.wf_u64 ⟨by omega, by omega⟩
theorem cycl_len (xs ys : List Int) : (cycl xs ys).length = xs.length := tab_len _ _
theorem getD_out (xs : List Int) (t : Nat) (h : xs.length ≤ t) : xs.getD t 0 = 0 := by
  simp [List.getD, h]
theorem hor_tab_step (st : Int) (xs ys : List Int) (n i : Nat) (hy : ys.length = n) (hi : i < n) (hn : fm (st ^ n) = 1) :
    fm (ps st (tab n (csn xs ys n (i + 1)))) = fm (ps st (tab n (csn xs ys n i)) + xs.getD i 0 * st ^ i * ps st ys) := by
  have hT : (turnl ys ((n - i) % n)).length = n := by rw [turnl_len, hy]
  have e : tab n (csn xs ys n (i + 1)) = zadd (tab n (csn xs ys n i)) ((turnl ys ((n - i) % n)).map fun x => xs.getD i 0 * x) := by
    apply getD_ext
    · rw [zadd_len _ _ (by rw [tab_len, List.length_map, hT]), tab_len, tab_len]
    · intro k hk
      rw [tab_len] at hk
      rw [zadd_at _ _ _ (by rw [tab_len]; exact hk) (by rw [tab_len, List.length_map, hT]), tab_at _ _ _ hk, tab_at _ _ _ hk, csn]
      have e2 : ((turnl ys ((n - i) % n)).map fun x => xs.getD i 0 * x).getD k 0 = xs.getD i 0 * (turnl ys ((n - i) % n)).getD k 0 := by
        simp only [List.getD, List.getElem?_map]
        rw [List.getElem?_eq_getElem (show k < (turnl ys ((n - i) % n)).length by omega)]
        rfl
      rw [e2, turnl_at _ _ _ (by omega), hy, show (k + (n - i) % n) % n = (k + n - i) % n by rw [Nat.add_mod_mod]; congr 1; omega, ← fm_add_r _ (_ * _), fm_mul_r]
  rw [e, ps_add _ _ _ (by rw [tab_len, List.length_map, hT]), ps_scl]
  rw [← fm_add_r, ← fm_mul_r, ← hor_ps, hor_turn st ys n _ hy (Nat.mod_lt _ (by omega)) hn, hor_ps, fm_mul_l, ← fm_add_r _ (xs.getD i 0 * st ^ i * _)]
  congr 2
  rw [fm_mul_r]
  by_cases hz : i = 0
  · subst hz
    rw [Nat.sub_zero, Nat.mod_self, Nat.sub_zero, Int.pow_zero, Int.mul_one, ← fm_mul_r _ (_ * _), ← fm_mul_r _ (st ^ n), hn, Int.mul_one, fm_mul_r]
  · rw [Nat.mod_eq_of_lt (by omega), show n - (n - i) = i by omega]
    congr 1
    grind
theorem hor_cyc_n (st : Int) (xs ys : List Int) (n : Nat) (hx : xs.length = n) (hy : ys.length = n) (hn : fm (st ^ n) = 1) : ∀ i, i ≤ n → fm (ps st (tab n (csn xs ys n i))) = fm (ps st (xs.take i) * ps st ys)
  | 0, _ => by
    have z : ∀ m, ps st (List.replicate m 0) = 0 := by
      intro m; induction m with
      | zero => rfl
      | succ m ih => rw [List.replicate_succ]; show 0 + st * ps st _ = 0; rw [ih]; simp
    rw [show tab n (csn xs ys n 0) = List.replicate n 0 from (tab_rep n 0).symm, z]
    show fm 0 = fm (0 * _)
    rw [Int.zero_mul]
  | i + 1, h => by
    rw [hor_tab_step st xs ys n i hy (by omega) hn, ← fm_add_l, hor_cyc_n st xs ys n hx hy hn i (by omega), fm_add_l, take_snoc xs i (by omega), ps_snoc, List.length_take, Nat.min_eq_left (by omega)]
    have e : xs.getD i 0 = xs[i]'(by omega) := by simp [List.getD, show i < xs.length by omega]
    rw [e]
    congr 1
    grind
/-- The transform of a product around is the product of the transforms. -/
theorem horl_cyc {r : Int} {n : Nat} (h1 : fm (r ^ n) = 1) (xs ys : List Int) (hx : xs.length = n) (hy : ys.length = n) : horl r (cycl xs ys) n = zmul (horl r xs n) (horl r ys n) := by
  apply getD_ext
  · rw [zmul_len _ _ (by rw [horl_len, horl_len]), horl_len, horl_len]
  · intro k hk
    rw [horl_len] at hk
    have hst : fm ((r ^ k) ^ n) = 1 := by rw [← Int.pow_mul, Nat.mul_comm]; exact one_mul_exp h1 k
    rw [zmul_at _ _ _ (by rw [horl_len]; exact hk) (by rw [horl_len, horl_len]), horl_at _ _ _ _ hk, horl_at _ _ _ _ hk, horl_at _ _ _ _ hk, hor_fm, hor_fm, hor_fm, hor_ps, hor_ps, hor_ps, fm_mul_fm]
    unfold cycl
    rw [hx, hor_cyc_n (r ^ k) xs ys n hx hy hst n (Nat.le_refl _), List.take_of_length_le (by omega)]
end Go.Proofs.YtbhnlfgccldmaaaGreat
