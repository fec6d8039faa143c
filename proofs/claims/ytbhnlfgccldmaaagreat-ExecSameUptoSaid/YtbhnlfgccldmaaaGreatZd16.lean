/- Put together by program (merge2.py): Chirp3 Chirp4 Chirp5 Facsd Phi Genm Genp Genq. -/
import Derived.Test.YtbhnlfgccldmaaaGreatZd11
import Derived.Test.YtbhnlfgccldmaaaGreatZd15
/- Package chirp: rows, kernels, what stands ahead of the product and behind it. -/
namespace Go.Proofs.YtbhnlfgccldmaaaGreat
open Go.ChangeShapes Go.WideShapes Go.ChangeAt Go.RowKit
set_option linter.unusedVariables false
open rootTells
theorem c_crow (n many : Nat) (dir : Int) (W : World) (hh : hasb n = true) (hd : dir = 0 ∨ dir = 1) (hm : many ≤ 33554432) :
    Calls Tryz.prog 159 #[.int .i64 n, .int .i64 dir, .int .i64 many] W (GivesOk W many (rowc (rdir n dir) n many)) := by
  obtain ⟨a, b, c⟩ := hasb_dvd hh
  have BA := Lib.hid (fun w => chirp_base n dir w (by omega) (by omega) hh hd)
  have RW_ := Lib.hid (fun w => chirp_row (rdir n dir) n many w (rdir_lo _ _) (rdir_hi _ _) (by omega) (by omega) hm)
  have e1 : decide ((many : Int) < 0) = false := decide_eq_false (by omega)
  have e2 : decide (33554432 < (many : Int)) = false := decide_eq_false (by omega)
  clear hh hd c
  generalize rdir n dir = r at *
  generalize rowc r n many = ys at *
  go_enter Tryz.func159, Tryz.ntmps159
  go_wp2_with fail
  refine (BA.out _).mono ?_
  rintro e w1 ⟨rfl, b1⟩
  go_wp2_with fail
  refine (RW_.out _).mono ?_
  rintro e w2 ⟨p, k, rfl, h, b2⟩
  have HR := Lib.hid h
  clear h
  go_wp2_with fail
  go_ret2
  exact ⟨_, _, rfl, HR.out, b1.trans (b2.mono b1.size)⟩
set_option maxRecDepth 100000 in
theorem chirp_kernel (n m : Nat) (dir : Int) (W : World) (hh : hasb n = true) (hd : dir = 0 ∨ dir = 1) (hm : 2 * n - 1 ≤ m) (hhm : hasb m = true) :
    Calls Tryz.prog 162 #[.int .i64 n, .int .i64 m, .int .i64 dir] W (GivesOk W m (rowc (rdir n dir) n (2 * n - 1) ++ List.replicate (m - (2 * n - 1)) 0)) := by
  obtain ⟨a, b, c⟩ := hasb_dvd hh
  obtain ⟨a2, b2, c2⟩ := hasb_dvd hhm
  have hmk := make_u64 m (by omega)
  have BA := Lib.hid (fun w => chirp_base n dir w (by omega) (by omega) hh hd)
  have RW_ := Lib.hid (fun w => chirp_row (rdir n dir) n (2 * n - 1) w (rdir_lo _ _) (rdir_hi _ _) (by omega) (by omega) (by omega))
  have H := fun w => root_has (m : Int) w (by omega) (by omega)
  rw [hhm] at H
  have H := Lib.hid H
  have hw1 : IntKind.i64.wrap (2 * (n : Int)) = 2 * (n : Int) := IntWalk.i64_in _ (by omega)
  have hw2 : IntKind.i64.wrap (2 * (n : Int) - 1) = ((2 * n - 1 : Nat) : Int) := by rw [IntWalk.i64_in _ (by omega)]; omega
  have RLW := Lib.hid (rowc_wf (rdir n dir) n (2 * n - 1))
  have RLL := Lib.hid (rowc_len (rdir n dir) n (2 * n - 1))
  have hm17 : m ≤ 16777216 := by omega
  clear hh hd c hhm c2
  generalize rdir n dir = r at *
  generalize rowc r n (2 * n - 1) = ys at *
  generalize 2 * n - 1 = q at *
  have e1 : decide ((m : Int) < (q : Int)) = false := decide_eq_false (by omega)
  go_enter Tryz.func162, Tryz.ntmps162
  go_wp2_with fail
  refine (BA.out _).mono ?_
  rintro e w1 ⟨rfl, b1⟩
  go_wp2_with fail
  refine (H.out _).mono ?_
  rintro e w2 ⟨rfl, rfl⟩
  have R0 := Lib.hid (RowAt.made w1 62 m)
  have hB1 := b1.alloc b1.size (.cells (Array.replicate m (.int .u64 0)) 62)
  have hz1 : w1.heap.size < (w1.alloc (.cells (Array.replicate m (.int .u64 0)) 62)).heap.size := by simp
  go_wp2_with fail
  have hzz := b1.size
  obtain ⟨B, hBz⟩ : ∃ B, w1.heap.size = B := ⟨_, rfl⟩
  rw [hBz] at R0 hz1 hzz ⊢
  clear b1
  generalize w1.alloc (.cells (Array.replicate m (.int .u64 0)) 62) = w3 at *
  refine (RW_.out _).mono ?_
  rintro e w4 ⟨p, k, rfl, h, b3⟩
  obtain ⟨w5, hrun, hrow, hbut⟩ := run_copy_u64 3 (R0.out.below b3) (show (List.replicate m (0 : Int)).length = m by simp) h hm (dc := m) (sc := k)
  have HR := Lib.hid hrow
  have hB2 := hB1.trans (b3.mono hB1.size)
  have hB3 := hB2.trans (hbut.below hzz hB2.size)
  clear hrow hbut h b3 R0 hB1
  go_wp2_with (at_builtin; refine Lib.wpList_copy_run _ rfl _ _ 25 25 rfl _ _ rfl rfl hrun ?_)
  go_ret2
  refine ⟨_, _, rfl, Row.of_at (by rw [show List.replicate (m - q) (0 : Int) = (List.replicate m 0).drop q by rw [List.drop_replicate]]; exact HR.out) ?_ (by rw [List.length_append, RLL.out, List.length_replicate]; omega) (by omega), hB3⟩
  intro z hz
  rcases List.mem_append.1 hz with h | h
  · exact RLW.out z h
  · rw [List.eq_of_mem_replicate h]; decide
/-- What stands ahead of the product. -/
def forel (r : Int) (xs : List Int) (n : Nat) : List Int := tab n fun i => fm (xs.getD (n - 1 - i) 0 * fm (r ^ trin n (n - 1 - i)))
def aftl (r : Int) (cs : List Int) (n : Nat) : List Int := tab n fun k => fm (cs.getD (n - 1 + k) 0 * fm (r ^ trin n k))
theorem forel_len (r : Int) (xs : List Int) (n : Nat) : (forel r xs n).length = n := tab_len _ _
theorem aftl_len (r : Int) (xs : List Int) (n : Nat) : (aftl r xs n).length = n := tab_len _ _
theorem forel_at (r : Int) (xs : List Int) (n k : Nat) (h : k < n) : (forel r xs n).getD k 0 = fm (xs.getD (n - 1 - k) 0 * fm (r ^ trin n (n - 1 - k))) := tab_at n (fun i => fm (xs.getD (n - 1 - i) 0 * fm (r ^ trin n (n - 1 - i)))) k h
theorem aftl_at (r : Int) (xs : List Int) (n k : Nat) (h : k < n) : (aftl r xs n).getD k 0 = fm (xs.getD (n - 1 + k) 0 * fm (r ^ trin n k)) := tab_at n (fun k => fm (xs.getD (n - 1 + k) 0 * fm (r ^ trin n k))) k h
end Go.Proofs.YtbhnlfgccldmaaaGreat
/- Reference 12: Fore, Aft. -/
namespace Go.Proofs.YtbhnlfgccldmaaaGreat
open Go.ChangeShapes Go.WideShapes Go.ChangeAt Go.RowKit
set_option linter.unusedVariables false
open rootTells
end Go.Proofs.YtbhnlfgccldmaaaGreat
/- Reference 12: Row, as a row of the call's own. -/
namespace Go.Proofs.YtbhnlfgccldmaaaGreat
open Go.ChangeShapes Go.WideShapes Go.ChangeAt Go.RowKit
set_option linter.unusedVariables false
open rootTells
end Go.Proofs.YtbhnlfgccldmaaaGreat
/- Reference 3's Primes. -/
namespace Go.Proofs.YtbhnlfgccldmaaaGreat
open Go.ChangeShapes Go.WideShapes Go.ChangeAt Go.RowKit
set_option linter.unusedVariables false
theorem fa_len {N : Nat} (hN : 1 ≤ N) (h : N ≤ 16777216) : (fa N).length < 25 := by
  have h1 := pw_len (fa N) (fl_all hN)
  rw [pw_fa hN] at h1
  by_cases hlt : (fa N).length < 25
  · exact hlt
  · have := Nat.pow_le_pow_right (n := 2) (by omega) (show 25 ≤ (fa N).length by omega)
    omega
end Go.Proofs.YtbhnlfgccldmaaaGreat
/- How many numbers are coprime to one: plain numbers, no Go text. -/
namespace Go.Proofs.YtbhnlfgccldmaaaGreat
open Go.ChangeShapes Go.WideShapes Go.ChangeAt Go.RowKit
set_option linter.unusedVariables false
/-- Does none of these divide i? -/
def good (S : List Nat) (i : Nat) : Bool := S.all fun q => decide (¬ q ∣ i)
theorem least_prime : ∀ n, 2 ≤ n → ∃ p, isP p ∧ p ∣ n := by
  intro n
  induction n using Nat.strongRecOn with
  | _ n ih =>
    intro hn
    by_cases h : isP n
    · exact ⟨n, h, Nat.dvd_refl n⟩
    · have : ∃ d, 2 ≤ d ∧ d < n ∧ d ∣ n := Classical.byContradiction fun hc => h ⟨hn, fun d h1 h2 h3 => hc ⟨d, h1, h2, h3⟩⟩
      obtain ⟨d, h1, h2, h3⟩ := this
      obtain ⟨p, hp, hd⟩ := ih d h2 h1
      exact ⟨p, hp, Nat.dvd_trans hd h3⟩
theorem fl_lt {N k : Nat} : ∀ x ∈ fl N k, x.1 < k := by
  intro x hx
  unfold fl at hx
  obtain ⟨p, hp, rfl⟩ := List.mem_map.1 hx
  rw [List.mem_filter, List.mem_range] at hp
  exact hp.1
theorem fl_nodup (N : Nat) : ∀ k, ((fl N k).map (·.1)).Nodup
  | 0 => List.nodup_nil
  | k + 1 => by
    by_cases h : isP k ∧ k ∣ N
    · rw [fl_yes h.1 h.2, List.map_append, List.nodup_append]
      refine ⟨fl_nodup N k, by simp, ?_⟩
      intro a ha b hb
      simp at hb
      subst hb
      obtain ⟨x, hx, rfl⟩ := List.mem_map.1 ha
      have := fl_lt x hx
      omega
    · rw [fl_no h]; exact fl_nodup N k
end Go.Proofs.YtbhnlfgccldmaaaGreat
/- Orders modulo a prime, and numbers that make all of them: plain numbers, no Go text. -/
namespace Go.Proofs.YtbhnlfgccldmaaaGreat
open Go.ChangeShapes Go.WideShapes Go.ChangeAt Go.RowKit
set_option linter.unusedVariables false
theorem isP.prm {p : Nat} (h : isP p) : Fld.Prm p := ⟨h.1, fun d hd => h.dvd hd⟩
/-- k is the least power above 0 of a that leaves 1. -/
structure IsOrd (q a k : Nat) : Prop where
  one : 1 ≤ k
  pow : a ^ k % q = 1
  least : ∀ j, 1 ≤ j → j < k → a ^ j % q ≠ 1
theorem IsOrd.uniq {q a k j : Nat} (h : IsOrd q a k) (g : IsOrd q a j) : k = j := by
  rcases Nat.lt_trichotomy k j with c | c | c
  · exact absurd h.pow (g.least k h.one c)
  · exact c
  · exact absurd g.pow (h.least j g.one c)
theorem pow_fer {q a : Nat} (hq : isP q) (h1 : 1 ≤ a) (h2 : a < q) : a ^ (q - 1) % q = 1 :=
  Fld.fermat hq.prm (by rw [Nat.mod_eq_of_lt h2]; omega)
theorem pow_mul_one {q a k : Nat} (hq : 2 ≤ q) (h : a ^ k % q = 1) (c : Nat) : a ^ (k * c) % q = 1 := by
  rw [Nat.pow_mul, Nat.pow_mod, h, Nat.one_pow, Nat.mod_eq_of_lt (by omega)]
theorem IsOrd.dvd {q a k n : Nat} (hq : 2 ≤ q) (h : IsOrd q a k) (hn : a ^ n % q = 1) : k ∣ n := by
  have e := Nat.div_add_mod n k
  have h1 := pow_mul_one hq h.pow (n / k)
  have h2 : a ^ (n % k) % q = 1 := by
    rw [← e, Nat.pow_add, Nat.mul_mod, h1, Nat.one_mul, Nat.mod_mod] at hn
    exact hn
  by_cases h0 : n % k = 0
  · exact Nat.dvd_of_mod_eq_zero h0
  · exact absurd h2 (h.least _ (by omega) (Nat.mod_lt _ h.one))
theorem ord_ex {q a : Nat} : ∀ n, 1 ≤ n → a ^ n % q = 1 → ∃ k, IsOrd q a k := by
  intro n
  induction n using Nat.strongRecOn with
  | _ n ih =>
    intro h1 h2
    by_cases h : ∃ j, 1 ≤ j ∧ j < n ∧ a ^ j % q = 1
    · obtain ⟨j, j1, j2, j3⟩ := h
      exact ih j j2 j1 j3
    · exact ⟨n, h1, h2, fun j j1 j2 j3 => h ⟨j, j1, j2, j3⟩⟩
theorem ord_of {q a : Nat} (hq : isP q) (h1 : 1 ≤ a) (h2 : a < q) : ∃ k, IsOrd q a k ∧ k ∣ q - 1 := by
  have hf := pow_fer hq h1 h2
  obtain ⟨k, hk⟩ := ord_ex (q - 1) (by have := hq.1; omega) hf
  exact ⟨k, hk, hk.dvd hq.1 hf⟩
/-- An exponent that leaves 1, and no longer when a prime is taken out, is the order. -/
theorem ord_prime {q a n : Nat} (hq : 2 ≤ q) (h1 : 1 ≤ n) (hn : a ^ n % q = 1) (hp : ∀ p, isP p → p ∣ n → a ^ (n / p) % q ≠ 1) : IsOrd q a n := by
  obtain ⟨k, hk⟩ := ord_ex n h1 hn
  obtain ⟨c, hc⟩ := hk.dvd hq hn
  by_cases h : c = 1
  · rw [h, Nat.mul_one] at hc; rw [hc]; exact hk
  · exfalso
    have hc2 : 2 ≤ c := by
      rcases Nat.eq_zero_or_pos c with e | e
      · rw [e] at hc; omega
      · omega
    obtain ⟨p, hpp, d, hd⟩ := least_prime c hc2
    have hp2 := hpp.1
    have e : n = p * (k * d) := by rw [hc, hd, ← Nat.mul_assoc, Nat.mul_comm k p, Nat.mul_assoc]
    refine hp p hpp ⟨_, e⟩ ?_
    rw [e, Nat.mul_div_cancel_left _ (by omega)]
    exact pow_mul_one hq hk.pow d
theorem ord_mul {q a b m n : Nat} (hq : 2 ≤ q) (ha : IsOrd q a m) (hb : IsOrd q b n) (hg : Nat.Coprime m n) : IsOrd q (a * b) (m * n) := by
  have key : ∀ t, (a * b) ^ t % q = 1 → m * n ∣ t := by
    intro t ht
    rw [Nat.mul_pow] at ht
    have h1 : a ^ (t * n) % q = 1 := by
      have := pow_mul_one hq (show (a * b) ^ t % q = 1 by rw [Nat.mul_pow]; exact ht) n
      rw [Nat.mul_pow, Nat.mul_mod, Nat.mul_comm t n, pow_mul_one hq hb.pow t, Nat.mul_one, Nat.mod_mod, Nat.mul_comm n t] at this
      exact this
    have h2 : b ^ (t * m) % q = 1 := by
      have := pow_mul_one hq (show (a * b) ^ t % q = 1 by rw [Nat.mul_pow]; exact ht) m
      rw [Nat.mul_pow, Nat.mul_mod, Nat.mul_comm t m, pow_mul_one hq ha.pow t, Nat.one_mul, Nat.mod_mod, Nat.mul_comm m t] at this
      exact this
    exact Nat.Coprime.mul_dvd_of_dvd_of_dvd hg (Nat.Coprime.dvd_of_dvd_mul_right hg (ha.dvd hq h1)) (Nat.Coprime.dvd_of_dvd_mul_right hg.symm (hb.dvd hq h2))
  refine ⟨Nat.mul_pos ha.one hb.one, ?_, fun j j1 j2 j3 => ?_⟩
  · rw [Nat.mul_pow, Nat.mul_mod, pow_mul_one hq ha.pow n, Nat.mul_comm m n, pow_mul_one hq hb.pow m, Nat.mul_one, Nat.mod_eq_of_lt (by omega)]
  · have := Nat.le_of_dvd j1 (key j j3)
    omega
theorem ord_pow {q a d e : Nat} (h : IsOrd q a (d * e)) (hd : 1 ≤ d) (he : 1 ≤ e) : IsOrd q (a ^ d) e := by
  refine ⟨he, by rw [← Nat.pow_mul]; exact h.pow, fun j j1 j2 j3 => ?_⟩
  rw [← Nat.pow_mul] at j3
  exact h.least (d * j) (Nat.mul_pos hd j1) (Nat.mul_lt_mul_of_pos_left j2 hd) j3
theorem ord_mod {q a k : Nat} (h : IsOrd q a k) : IsOrd q (a % q) k :=
  ⟨h.one, by rw [← Nat.pow_mod]; exact h.pow, fun j j1 j2 j3 => h.least j j1 j2 (by rw [Nat.pow_mod]; exact j3)⟩
theorem mu_dvd : ∀ m, 1 ≤ m → ∀ e, 1 ≤ e → (∀ p, isP p → mu p m ≤ mu p e) → m ∣ e := by
  intro m
  induction m using Nat.strongRecOn with
  | _ m ih =>
    intro hm e he h
    by_cases h1 : m = 1
    · rw [h1]; exact Nat.one_dvd e
    · obtain ⟨p, hp, c, hc⟩ := least_prime m (by omega)
      have hp2 := hp.1
      have hc1 : 1 ≤ c := by
        rcases Nat.eq_zero_or_pos c with z | z
        · rw [z] at hc; omega
        · exact z
      have hpe : p ∣ e := (mu_pos hp2 he).1 (Nat.le_trans ((mu_pos hp2 hm).2 ⟨c, hc⟩) (h p hp))
      obtain ⟨d, hd⟩ := hpe
      have hd1 : 1 ≤ d := by
        rcases Nat.eq_zero_or_pos d with z | z
        · rw [z] at hd; omega
        · exact z
      have := ih c (by have := Nat.mul_le_mul_right c hp2; omega) hc1 d hd1 (fun r hr => by
        have := h r hr
        rw [hc, hd] at this
        by_cases e : r = p
        · subst e; rw [mu_mul hp2 hc1, mu_mul hp2 hd1] at this; omega
        · rw [mu_other hr hp e c hc1, mu_other hr hp e d hd1] at this; exact this)
      rw [hc, hd]
      exact Nat.mul_dvd_mul_left p this
/-- All, or there is a greater order. -/
theorem ord_more {q g e : Nat} (hq : isP q) (hg : IsOrd q g e) : (∀ a, 1 ≤ a → a < q → a ^ e % q = 1) ∨ ∃ g' e', IsOrd q g' e' ∧ e < e' := by
  have hq2 := hq.1
  by_cases hall : ∀ a, 1 ≤ a → a < q → a ^ e % q = 1
  · exact .inl hall
  · right
    have : ∃ a, 1 ≤ a ∧ a < q ∧ a ^ e % q ≠ 1 := Classical.byContradiction fun hc => hall fun a h1 h2 => Classical.byContradiction fun h3 => hc ⟨a, h1, h2, h3⟩
    obtain ⟨a, h1, h2, h3⟩ := this
    obtain ⟨m, hm, _⟩ := ord_of hq h1 h2
    have hnd : ¬ m ∣ e := fun hd => by
      obtain ⟨c, rfl⟩ := hd
      exact h3 (pow_mul_one hq2 hm.pow c)
    have : ∃ p, isP p ∧ mu p e < mu p m := Classical.byContradiction fun hc => hnd (mu_dvd m hm.one e hg.one (fun p hp => Classical.byContradiction fun hlt => hc ⟨p, hp, by omega⟩))
    obtain ⟨p, hp, hlt⟩ := this
    have hp2 := hp.1
    obtain ⟨m', e1, e2⟩ := mu_split hp2 m hm.one
    obtain ⟨e', e3, e4⟩ := mu_split hp2 e hg.one
    have pp : ∀ k, 1 ≤ p ^ k := fun k => Nat.pow_pos (by omega)
    have m1 : 1 ≤ m' := by
      rcases Nat.eq_zero_or_pos m' with z | z
      · exact absurd (by rw [z]; exact Nat.dvd_zero p) e2
      · exact z
    have e'1 : 1 ≤ e' := by
      rcases Nat.eq_zero_or_pos e' with z | z
      · exact absurd (by rw [z]; exact Nat.dvd_zero p) e4
      · exact z
    generalize mu p m = i at *
    generalize mu p e = j at *
    have o1 : IsOrd q (a ^ m') (p ^ i) := ord_pow (by rw [Nat.mul_comm, ← e1]; exact hm) m1 (pp i)
    have o2 : IsOrd q (g ^ p ^ j) e' := ord_pow (by rw [← e3]; exact hg) (pp j) e'1
    have hcp : Nat.Coprime (p ^ i) e' := by
      refine Nat.Coprime.pow_left _ ?_
      rcases hp.dvd (Nat.gcd_dvd_left p e') with z | z
      · exact z
      · exact absurd (by rw [← z]; exact Nat.gcd_dvd_right p e') e4
    refine ⟨_, _, ord_mul hq2 o1 o2 hcp, ?_⟩
    rw [e3]
    exact Nat.mul_lt_mul_of_pos_right (Nat.pow_lt_pow_right (by omega) hlt) e'1
/-- A polynomial's value. -/
def ev : List Int → Int → Int
  | [], _ => 0
  | a :: l, x => a + x * ev l x
/-- Divided by x - r. -/
def dvp (r : Int) : List Int → List Int
  | [] => []
  | [_] => []
  | _ :: b :: l => ev (b :: l) r :: dvp r (b :: l)
theorem dvp_len (r : Int) : ∀ (a : Int) (l : List Int), (dvp r (a :: l)).length = l.length
  | a, [] => rfl
  | a, b :: l => by rw [dvp, List.length_cons, dvp_len r b l, List.length_cons]
theorem dvp_ev (r x : Int) : ∀ (c : List Int), ev c x - ev c r = (x - r) * ev (dvp r c) x
  | [] => by simp [ev, dvp]
  | [a] => by simp [ev, dvp]
  | a :: b :: l => by
    have ih := dvp_ev r x (b :: l)
    have e : ev (b :: l) x = ev (b :: l) r + (x - r) * ev (dvp r (b :: l)) x := by omega
    show a + x * ev (b :: l) x - (a + r * ev (b :: l) r) = (x - r) * (ev (b :: l) r + x * ev (dvp r (b :: l)) x)
    rw [e]
    generalize ev (b :: l) r = u
    generalize ev (dvp r (b :: l)) x = v
    grind
theorem dvp_last (r : Int) : ∀ (a b : Int) (l : List Int) (h : dvp r (a :: b :: l) ≠ []), (dvp r (a :: b :: l)).getLast h = (a :: b :: l).getLast (by simp)
  | a, b, [], h => by simp [dvp, ev]
  | a, b, c :: l, h => by
    have ih := dvp_last r b c l (by simp [dvp])
    have e : dvp r (a :: b :: c :: l) = ev (b :: c :: l) r :: dvp r (b :: c :: l) := rfl
    simp only [e]
    rw [List.getLast_cons (by simp [dvp]), ih]
    simp
theorem roots_le {q : Nat} (hq : isP q) : ∀ (rs : List Int) (c : List Int) (hc : c ≠ []), ¬ (q : Int) ∣ c.getLast hc → rs.Pairwise (fun a b => ¬ (q : Int) ∣ b - a) → (∀ r ∈ rs, (q : Int) ∣ ev c r) → rs.length + 1 ≤ c.length
  | [], c, hc, _, _, _ => by
    cases c with
    | nil => exact absurd rfl hc
    | cons a l => simp
  | r :: rs, c, hc, hl, hp, hr => by
    rw [List.pairwise_cons] at hp
    match c, hc, hl, hr with
    | [a], _, hl, hr =>
      have := hr r (by simp)
      simp [ev] at this
      exact absurd this (by simpa using hl)
    | a :: b :: l, _, hl, hr =>
      have hne : dvp r (a :: b :: l) ≠ [] := by simp [dvp]
      have ih := roots_le hq rs (dvp r (a :: b :: l)) hne (by rw [dvp_last]; exact hl) hp.2 (fun s hs => by
        have e := dvp_ev r s (a :: b :: l)
        have h1 := hr r (by simp)
        have h2 := hr s (by simp [hs])
        have h3 : (q : Int) ∣ (s - r) * ev (dvp r (a :: b :: l)) s := by rw [← e]; exact Int.dvd_sub h2 h1
        have h4 := hp.1 s hs
        have h5 : q ∣ (s - r).natAbs * (ev (dvp r (a :: b :: l)) s).natAbs := by rw [← Int.natAbs_mul]; exact Int.ofNat_dvd_left.1 h3
        rcases hq.dvd_mul h5 with h | h
        · exact absurd (Int.ofNat_dvd_left.2 h) h4
        · exact Int.ofNat_dvd_left.2 h)
      rw [dvp_len] at ih
      simp only [List.length_cons] at *
      omega
theorem ev_pow (x : Int) : ∀ n, ev (List.replicate n 0 ++ [1]) x = x ^ n
  | 0 => by simp [ev]
  | n + 1 => by rw [List.replicate_succ, List.cons_append, ev, ev_pow x n, Int.pow_succ, Int.zero_add, Int.mul_comm]
theorem all_one {q e : Nat} (hq : isP q) (he : 1 ≤ e) (h : ∀ a, 1 ≤ a → a < q → a ^ e % q = 1) : q - 1 ≤ e := by
  have hq2 := hq.1
  have := roots_le hq ((List.range (q - 1)).map fun i => ((i + 1 : Nat) : Int)) ((-1) :: (List.replicate (e - 1) 0 ++ [1])) (by simp) (by
      rw [List.getLast_cons (by simp)]
      intro hd
      simp at hd
      have := Int.le_of_dvd (by omega) hd
      omega) (by
      rw [List.pairwise_map]
      refine List.Pairwise.imp_of_mem (R := fun a b => a < b) ?_ List.pairwise_lt_range
      intro a b ha hb hab hd
      rw [List.mem_range] at ha hb
      have := Int.le_of_dvd (by omega) hd
      omega) (by
      intro r hr
      obtain ⟨i, hi, rfl⟩ := List.mem_map.1 hr
      rw [List.mem_range] at hi
      rw [ev, ev_pow]
      have h1 := h (i + 1) (by omega) (by omega)
      obtain ⟨k, hk⟩ : ∃ k, e = k + 1 := ⟨e - 1, by omega⟩
      subst hk
      rw [Nat.add_sub_cancel, Int.mul_comm, ← Int.pow_succ, ← Int.natCast_pow]
      generalize (i + 1) ^ (k + 1) = y at *
      have : (y : Int) % (q : Int) = 1 := by rw [← Int.natCast_emod, h1]; rfl
      refine ⟨(y : Int) / (q : Int), ?_⟩
      have := Int.mul_ediv_add_emod (y : Int) (q : Int)
      omega)
  simp at this
  omega
/-- Some number makes all below a prime. -/
theorem maker_ex {q : Nat} (hq : isP q) : ∃ g, 1 ≤ g ∧ g < q ∧ IsOrd q g (q - 1) := by
  have hq2 := hq.1
  have step : ∀ n g e, q - e ≤ n → IsOrd q g e → ∃ g, IsOrd q g (q - 1) := by
    intro n
    induction n with
    | zero =>
      intro g e hn h
      rcases ord_more hq h with hall | _
      · have := all_one hq h.one hall
        have hle : e ∣ q - 1 := by
          by_cases hd : q ∣ g
          · exfalso
            have := h.pow
            obtain ⟨c, rfl⟩ := hd
            obtain ⟨k, rfl⟩ : ∃ k, e = k + 1 := ⟨e - 1, by have := h.one; omega⟩
            rw [Nat.pow_succ, Nat.mul_comm, Nat.mul_assoc, Nat.mul_mod_right] at this
            omega
          · have hm : g % q ≠ 0 := fun z => hd (Nat.dvd_of_mod_eq_zero z)
            exact h.dvd hq2 (Fld.fermat hq.prm hm)
        have := Nat.le_of_dvd (by omega) hle
        omega
      · have hle : e ∣ q - 1 := by
          by_cases hd : q ∣ g
          · exfalso
            have := h.pow
            obtain ⟨c, rfl⟩ := hd
            obtain ⟨k, rfl⟩ : ∃ k, e = k + 1 := ⟨e - 1, by have := h.one; omega⟩
            rw [Nat.pow_succ, Nat.mul_comm, Nat.mul_assoc, Nat.mul_mod_right] at this
            omega
          · have hm : g % q ≠ 0 := fun z => hd (Nat.dvd_of_mod_eq_zero z)
            exact h.dvd hq2 (Fld.fermat hq.prm hm)
        have := Nat.le_of_dvd (by omega) hle
        omega
    | succ n ih =>
      intro g e hn h
      rcases ord_more hq h with hall | ⟨g', e', h', hlt⟩
      · have := all_one hq h.one hall
        have hle : e ∣ q - 1 := by
          by_cases hd : q ∣ g
          · exfalso
            have := h.pow
            obtain ⟨c, rfl⟩ := hd
            obtain ⟨k, rfl⟩ : ∃ k, e = k + 1 := ⟨e - 1, by have := h.one; omega⟩
            rw [Nat.pow_succ, Nat.mul_comm, Nat.mul_assoc, Nat.mul_mod_right] at this
            omega
          · have hm : g % q ≠ 0 := fun z => hd (Nat.dvd_of_mod_eq_zero z)
            exact h.dvd hq2 (Fld.fermat hq.prm hm)
        have := Nat.le_of_dvd (by omega) hle
        have : e = q - 1 := by omega
        subst this
        exact ⟨g, h⟩
      · exact ih g' e' (by omega) h'
  obtain ⟨k, hk, _⟩ := ord_of hq (a := 1) (Nat.le_refl _) (by omega)
  obtain ⟨g, hg⟩ := step (q - k) 1 k (Nat.le_refl _) hk
  refine ⟨g % q, ?_, Nat.mod_lt _ (by omega), ord_mod hg⟩
  rcases Nat.eq_zero_or_pos (g % q) with z | z
  · have := hg.pow
    obtain ⟨k, hk⟩ : ∃ k, q - 1 = k + 1 := ⟨q - 2, by omega⟩
    rw [hk, Nat.pow_succ, Nat.mul_mod, z, Nat.mul_zero, Nat.zero_mod] at this
    omega
  · exact z
end Go.Proofs.YtbhnlfgccldmaaaGreat
/- Package gen: right, power, order; reference 9's Is, Order. -/
namespace Go.Proofs.YtbhnlfgccldmaaaGreat
open Go.ChangeShapes Go.WideShapes Go.ChangeAt Go.RowKit
set_option linter.unusedVariables false
/-- Is it a prime from 2 to 2^17? -/
def qrb (n : Int) : Bool := decide (n ≤ 131072) && prb n
theorem qrb_of {q : Nat} (h : isP q) (h2 : q ≤ 131072) : qrb (q : Int) = true := by
  unfold qrb
  rw [decide_eq_true (by omega), prb_nat (by omega), (isPb_iff q).2 h]; rfl
theorem gen_right (n : Int) (W : World) : Calls Tryz.prog 200 #[.int .i64 n] W fun e w' => e = .returned (.bool (qrb n)) ∧ Below W.heap.size W w' := by
  have FP := Lib.hid (fun w => fact_prime n w)
  by_cases h : n ≤ 131072
  · have dd : decide (n ≤ 131072) = true := decide_eq_true h
    rw [show qrb n = prb n by unfold qrb; rw [dd, Bool.true_and]]
    generalize prb n = z at *
    go_enter Tryz.func200, Tryz.ntmps200
    go_wp2_with fail
    refine (FP.out _).mono ?_
    rintro e w1 ⟨rfl, b1⟩
    go_wp2_with fail
    go_ret
    exact ⟨rfl, b1⟩
  · have dd : decide (n ≤ 131072) = false := decide_eq_false h
    rw [show qrb n = false by unfold qrb; rw [dd, Bool.false_and]]
    go_enter Tryz.func200, Tryz.ntmps200
    go_wp2_with fail
    go_ret
    exact ⟨rfl, Below.refl _ _⟩
theorem gpow_odd {q p A n m : Nat} (h : n = 2 * m + 1) : (p * A % q) * (A * A % q) ^ m % q = p * A ^ n % q := by
  have e : A ^ n = A * (A * A) ^ m := by rw [h, Nat.pow_succ, Nat.pow_mul, Nat.pow_two, Nat.mul_comm]
  rw [e, ← Nat.mul_assoc, Nat.mul_mod, Nat.mod_mod, ← Nat.pow_mod, ← Nat.mul_mod]
theorem gpow_even {q p A n m : Nat} (h : n = 2 * m) : p * (A * A % q) ^ m % q = p * A ^ n % q := by
  have e : A ^ n = (A * A) ^ m := by rw [h, Nat.pow_mul, Nat.pow_two]
  rw [e, Nat.mul_mod, ← Nat.pow_mod, ← Nat.mul_mod]
theorem natmod (a b : Nat) : ((a : Int)).tmod (b : Int) = ((a % b : Nat) : Int) := by
  rw [Int.tmod_eq_emod_of_nonneg (by omega)]; omega
theorem natmod' (a b : Nat) : ((a : Int)) % (b : Int) = ((a % b : Nat) : Int) := by omega
set_option maxRecDepth 100000 in
theorem gen_power (q a n : Nat) (W : World) (hq : 2 ≤ q) (hq2 : q ≤ 131072) (ha : a < q) (hn : n ≤ 131072) :
    Calls Tryz.prog 211 #[.int .i64 (q : Int), .int .i64 (a : Int), .int .i64 (n : Int)] W fun e w' => e = .returned (.int .i64 (a ^ n % q : Nat)) ∧ W = w' := by
  obtain ⟨z, hz⟩ : ∃ z, a ^ n % q = z := ⟨_, rfl⟩
  rw [hz]
  have HZ := Lib.hid hz
  clear hz
  have q1 : ((q : Int) == 0) = false := by simp; omega
  have q2 : ¬ ((q : Int) = 0) := by omega
  have q3 : ¬ (q = 0) := by omega
  go_enter Tryz.func211, Tryz.ntmps211
  go_wp2_with fail
  go_loopw [1, 2, 7] (fun x y p wr => ∃ A m P : Nat, x = .int .i64 A ∧ y = .int .i64 m ∧ p = .int .i64 P ∧ A < q ∧ P < q ∧ m ≤ 131072 ∧ Hid (P * A ^ m % q = z) ∧ wr = W) (fun _ y _ _ => (intOf y).toNat)
  case atStart => exact ⟨a, n, 1, rfl, rfl, rfl, ha, by omega, hn, Lib.hid (by rw [Nat.one_mul]; exact HZ.out), rfl⟩
  case round =>
    obtain ⟨A, m, P, rfl, rfl, rfl, hA, hP, hm, HM, rfl⟩ := hrel
    by_cases h0 : m = 0
    · subst h0
      have E : Hid (P = z) := Lib.hid (by have := HM.out; rw [Nat.pow_zero, Nat.mul_one, Nat.mod_eq_of_lt hP] at this; exact this)
      go_wp2_with fail
      go_ret
      exact ⟨by rw [← E.out]; rfl, rfl⟩
    · have d0 : decide ((0 : Int) < (m : Int)) = true := decide_eq_true (by omega)
      have hAA : A * A ≤ 131072 * 131072 := Nat.mul_le_mul (by omega) (by omega)
      have hPA : P * A ≤ 131072 * 131072 := Nat.mul_le_mul (by omega) (by omega)
      obtain ⟨X, hX⟩ : ∃ X, A * A = X := ⟨_, rfl⟩
      obtain ⟨Y, hY⟩ : ∃ Y, P * A = Y := ⟨_, rfl⟩
      have w1 : IntKind.i64.wrap ((A : Int) * (A : Int)) = (X : Int) := by
        rw [(Int.natCast_mul A A).symm, hX]; exact IntWalk.i64_in _ (by omega)
      have w2 : IntKind.i64.wrap ((P : Int) * (A : Int)) = (Y : Int) := by
        rw [(Int.natCast_mul P A).symm, hY]; exact IntWalk.i64_in _ (by omega)
      have m1 := natmod X q
      have m1' := natmod' X q
      have m2 := natmod Y q
      have m2' := natmod' Y q
      have hX1 : X % q < q := Nat.mod_lt _ (by omega)
      have hY1 : Y % q < q := Nat.mod_lt _ (by omega)
      have HO := Lib.hid (fun k (h : m = 2 * k + 1) => (show (Y % q) * (X % q) ^ k % q = z by rw [← hX, ← hY, gpow_odd h]; exact HM.out))
      have HE := Lib.hid (fun k (h : m = 2 * k) => (show P * (X % q) ^ k % q = z by rw [← hX, gpow_even h]; exact HM.out))
      generalize X % q = x at *
      generalize Y % q = y at *
      obtain ⟨k, hk⟩ : ∃ k, m / 2 = k := ⟨_, rfl⟩
      have d1 : ((m : Int)).tdiv 2 = ((k : Nat) : Int) := by rw [← hk]; rfl
      have d1' : ((m : Int)) / 2 = ((k : Nat) : Int) := d1
      have wd1 : IntKind.i64.wrap ((k : Nat) : Int) = ((k : Nat) : Int) := IntWalk.i64_in _ (by omega)
      have m3 := natmod m 2
      have m3' := natmod' m 2
      obtain ⟨r, hr⟩ : ∃ r, m % 2 = r := ⟨_, rfl⟩
      have hr2 : r < 2 := by omega
      rw [show ((2 : Nat) : Int) = 2 from rfl, hr] at m3 m3'
      by_cases h1 : r = 1
      · subst h1
        have HO1 := Lib.hid (HO.out k (by omega))
        clear hX hY hk HO HE HM hr
        go_wp2_with fail
        go_roundw
        case rel => exact ⟨x, k, y, by go_num, by go_num, by go_num, hX1, hY1, by omega, HO1, by first | trivial | rfl⟩
        case measure => (first | (simp [intOf]; done) | (simp [intOf]; omega) | (simp only [intOf]; omega))
      · obtain rfl : r = 0 := by omega
        have HE1 := Lib.hid (HE.out k (by omega))
        clear hX hY hk HO HE HM hr
        go_wp2_with fail
        go_roundw
        case rel => exact ⟨x, k, P, by go_num, by go_num, by go_num, hX1, hP, by omega, HE1, by first | trivial | rfl⟩
        case measure => (first | (simp [intOf]; done) | (simp [intOf]; omega) | (simp only [intOf]; omega))
/-- What the program's order keeps: of the first i primes all were taken out that may be. -/
structure OkI (q a N i : Nat) (p j e n : Nat) : Prop where
  one : 1 ≤ n
  dvd : n ∣ N
  pow : a ^ n % q = 1
  past : ∀ x ∈ (fa N).take i, x.1 ∣ n → a ^ (n / x.1) % q ≠ 1
  next : ∀ x ∈ (fa N).drop (i + 1), x.1 ≠ p ∧ mu x.1 n = x.2
  here : mu p n + j = e
  prime : isP p
structure OkO (q a N i n : Nat) : Prop where
  one : 1 ≤ n
  dvd : n ∣ N
  pow : a ^ n % q = 1
  past : ∀ x ∈ (fa N).take i, x.1 ∣ n → a ^ (n / x.1) % q ≠ 1
  next : ∀ x ∈ (fa N).drop i, mu x.1 n = x.2
theorem OkO.start {q a N : Nat} (hN : 1 ≤ N) (h : a ^ N % q = 1) : OkO q a N 0 N := by
  refine ⟨hN, Nat.dvd_refl N, h, fun x hx => by simp at hx, fun x hx => ?_⟩
  rw [List.drop_zero] at hx
  obtain ⟨x1, x2⟩ := x
  exact ((fa_mem hN).1 hx).2.2.symm
theorem OkO.enter {q a N i n : Nat} (hN : 1 ≤ N) (h : OkO q a N i n) (hi : i < (fa N).length) : OkI q a N i ((fa N).getD i (0, 0)).1 0 ((fa N).getD i (0, 0)).2 n := by
  have hg : (fa N).getD i (0, 0) = (fa N)[i] := by simp [List.getD, hi]
  rw [hg]
  have hd : (fa N).drop i = (fa N)[i] :: (fa N).drop (i + 1) := List.drop_eq_getElem_cons hi
  have hmem : (fa N)[i] ∈ fa N := List.getElem_mem hi
  have hnd := fl_nodup N (N + 1)
  refine ⟨h.one, h.dvd, h.pow, h.past, ?_, ?_, ?_⟩
  · intro x hx
    refine ⟨?_, h.next x (by rw [hd]; exact List.mem_cons_of_mem _ hx)⟩
    intro e
    have hnd2 : (((fa N).drop i).map (·.1)).Nodup := by
      rw [List.map_drop]
      exact hnd.sublist (List.drop_sublist i _)
    rw [hd, List.map_cons, List.nodup_cons] at hnd2
    exact hnd2.1 (List.mem_map.2 ⟨x, hx, e⟩)
  · rw [Nat.add_zero]; exact h.next _ (by rw [hd]; exact List.mem_cons_self)
  · rcases hx : (fa N)[i] with ⟨x1, x2⟩
    rw [hx] at hmem
    exact ((fa_mem hN).1 hmem).1
theorem OkI.more {q a N i p j e n : Nat} (hN : 1 ≤ N) (hq : 2 ≤ q) (h : OkI q a N i p j e n) (hj : j < e) :
    ∃ m, n / p = m ∧ p ∣ n ∧ 1 ≤ m ∧ m ≤ n ∧ (a ^ m % q = 1 → OkI q a N i p (j + 1) e m) := by
  have hp := h.prime.1
  have hd : p ∣ n := (mu_pos hp h.one).1 (by have := h.here; omega)
  obtain ⟨m, hm⟩ := hd
  have hm1 : 1 ≤ m := by
    rcases Nat.eq_zero_or_pos m with z | z
    · have := h.one; rw [z] at hm; omega
    · exact z
  refine ⟨m, by rw [hm, Nat.mul_div_cancel_left _ (by omega)], ⟨m, hm⟩, hm1, ?_, fun h1 => ?_⟩
  · rw [hm]; exact Nat.le_mul_of_pos_left m (by omega)
  · refine ⟨hm1, Nat.dvd_trans ⟨p, by rw [hm, Nat.mul_comm]⟩ h.dvd, h1, ?_, ?_, ?_, h.prime⟩
    · intro x hx hd he
      refine h.past x hx (Nat.dvd_trans hd ⟨p, by rw [hm, Nat.mul_comm]⟩) ?_
      obtain ⟨c, hc⟩ := hd
      have hx0 : 0 < x.1 := by
        rcases Nat.eq_zero_or_pos x.1 with z | z
        · rw [z] at hc; omega
        · exact z
      rw [hm, hc, show p * (x.1 * c) = x.1 * (c * p) by rw [← Nat.mul_assoc, Nat.mul_comm p, Nat.mul_assoc, Nat.mul_comm p], Nat.mul_div_cancel_left _ hx0]
      rw [hc, Nat.mul_div_cancel_left _ hx0] at he
      exact pow_mul_one hq he p
    · intro x hx
      obtain ⟨a1, a2⟩ := h.next x hx
      refine ⟨a1, ?_⟩
      have hxp : isP x.1 := by
        have hmem := List.mem_of_mem_drop hx
        rcases x with ⟨x1, x2⟩
        exact ((fa_mem hN).1 hmem).1
      rw [hm, mu_other hxp h.prime a1 m hm1] at a2
      exact a2
    · have := h.here
      rw [hm, mu_mul hp hm1] at this
      omega
theorem OkI.leave {q a N i p j e n : Nat} (h : OkI q a N i p j e n) (hi : i < (fa N).length) (hp : ((fa N).getD i (0, 0)).1 = p) (hx : p ∣ n → a ^ (n / p) % q ≠ 1) : OkO q a N (i + 1) n := by
  have hg : (fa N).getD i (0, 0) = (fa N)[i] := by simp [List.getD, hi]
  rw [hg] at hp
  refine ⟨h.one, h.dvd, h.pow, ?_, fun x hx => (h.next x hx).2⟩
  intro x hx' hd
  rw [List.take_succ_eq_append_getElem hi] at hx'
  rcases List.mem_append.1 hx' with g | g
  · exact h.past x g hd
  · have : x = (fa N)[i] := by simpa using g
    rw [this, hp] at hd ⊢
    exact hx hd
theorem OkI.end {q a N i p e n : Nat} (h : OkI q a N i p e e n) : ¬ p ∣ n := fun hd => by
  have := (mu_pos h.prime.1 h.one).2 hd
  have := h.here
  omega
theorem OkO.done {q a N n : Nat} (hq : 2 ≤ q) (hN : 1 ≤ N) (h : OkO q a N (fa N).length n) : IsOrd q a n := by
  refine ord_prime hq h.one h.pow (fun p hp hd => ?_)
  refine h.past (p, mu p N) ?_ hd
  rw [List.take_length]
  exact (fa_mem hN).2 ⟨hp, Nat.dvd_trans hd h.dvd, rfl⟩
end Go.Proofs.YtbhnlfgccldmaaaGreat
/- Package gen: order, Order. -/
namespace Go.Proofs.YtbhnlfgccldmaaaGreat
open Go.ChangeShapes Go.WideShapes Go.ChangeAt Go.RowKit
set_option linter.unusedVariables false
set_option maxRecDepth 100000 in
set_option maxHeartbeats 4000000 in
theorem gen_order (q a : Nat) (W : World) (hq : isP q) (hq2 : q ≤ 131072) (h1 : 1 ≤ a) (ha : a < q) :
    Calls Tryz.prog 201 #[.int .i64 (q : Int), .int .i64 (a : Int)] W fun e w' => ∃ k : Nat, e = .returned (.int .i64 (k : Int)) ∧ IsOrd q a k ∧ k ∣ q - 1 ∧ Below W.heap.size W w' := by
  have q0 := hq.1
  obtain ⟨N, hN⟩ : ∃ N, q - 1 = N := ⟨_, rfl⟩
  have hN1 : 1 ≤ N := by omega
  have hN2 : N ≤ 131072 := by omega
  have hNi : (q : Int) - 1 = (N : Int) := by omega
  have FF := Lib.hid (fun w => fact_factors N w hN1 (by omega))
  have PW := Lib.hid (fun n w (h : n ≤ N) => gen_power q a n w q0 hq2 ha (by omega))
  have S0 := Lib.hid (OkO.start (q := q) (a := a) hN1 (by rw [← hN]; exact pow_fer hq h1 ha))
  have SE := Lib.hid (fun i n (h : OkO q a N i n) (hi : i < (fa N).length) => h.enter hN1 hi)
  have SM := Lib.hid (fun i p j e n (h : OkI q a N i p j e n) (hj : j < e) => h.more hN1 q0 hj)
  have SL := Lib.hid (fun i p j e n (h : OkI q a N i p j e n) (hi : i < (fa N).length) hp hx => h.leave hi hp hx)
  have SD := Lib.hid (fun n (h : OkO q a N (fa N).length n) => (show IsOrd q a n ∧ n ∣ N from ⟨h.done q0 hN1, h.dvd⟩))
  have FL := fa_len hN1 (by omega)
  rw [hN]
  clear hN
  have hB : Below W.heap.size W W := Below.refl _ _
  obtain ⟨L, hL⟩ : ∃ L, fa N = L := ⟨_, rfl⟩
  rw [hL] at FF SE SL SD FL
  obtain ⟨l, hn⟩ : ∃ l, L.length = l := ⟨_, rfl⟩
  rw [hn] at SE SL SD FL
  have GP := Lib.hid (fun w e w' (h : GivesP w L e w') => (show ∃ a c, e = .returned (.tuple #[.slice a l c, .int .i64 0]) ∧ RowP w' a l L ∧ Below w.heap.size w w' by unfold GivesP at h; rw [hn] at h; exact h))
  clear hn hL
  go_enter Tryz.func201, Tryz.ntmps201
  go_wp2_with fail
  go_step3
  go_wp2_with fail
  refine (FF.out _).mono ?_
  intro e w1 h
  obtain ⟨p1, k1, rfl, hr, b1⟩ := GP.out _ _ _ h
  have R1 := Lib.hid hr; clear hr h
  have hB := hB.trans (b1.mono hB.size); clear b1
  clear FF GP
  go_wp2_with fail
  go_step3
  go_wp2_with fail
  go_loopw [5, 19] (fun x y wr => ∃ i n : Nat, i ≤ l ∧ y = .int .i64 i ∧ x = .int .i64 n ∧ n ≤ N ∧ 1 ≤ n ∧ Hid (OkO q a N i n) ∧ Hid (RowP wr p1 l L) ∧ Below W.heap.size W wr) (fun _ y _ => l - (intOf y).toNat)
  case atStart => exact ⟨0, N, Nat.zero_le _, rfl, rfl, Nat.le_refl _, hN1, S0, R1, hB⟩
  case round =>
    clear R1 hB S0
    obtain ⟨i, n, hi, rfl, rfl, hn, hn1, HO, R1, hB⟩ := hrel
    by_cases hlt : i < l
    · have HI := Lib.hid (SE.out i n HO.out hlt)
      obtain ⟨b1, o1, rfl, hb1, hc1, hd1⟩ := R1.out.cell i hlt
      have GP1 := Lib.hid (show (L.getD i (0, 0)).1 = (L.getD i (0, 0)).1 from rfl)
      obtain ⟨p, hp⟩ : ∃ p, (L.getD i (0, 0)).1 = p := ⟨_, rfl⟩
      obtain ⟨ex, hex⟩ : ∃ ex, (L.getD i (0, 0)).2 = ex := ⟨_, rfl⟩
      rw [hp, hex] at HI
      rw [hp] at hc1
      rw [hex] at hd1
      have GP := Lib.hid hp
      have hp2 := HI.out.prime.1
      have hexn : ex ≤ n := by
        have h1 := HI.out.here
        obtain ⟨m, e1, _⟩ := mu_split hp2 n hn1
        have h2 : p ^ mu p n ≤ n := by
          rcases Nat.eq_zero_or_pos m with z | z
          · rw [z] at e1; omega
          · have := Nat.le_mul_of_pos_right (p ^ mu p n) z; omega
        have h3 : mu p n < p ^ mu p n := Nat.lt_pow_self (by omega)
        omega
      clear hp hex GP1
      have c0 : (wr.alloc (.cells #[.int .i64 (p : Int), .int .i64 (ex : Int)] 161)).cell? ⟨wr.heap.size, 0, none⟩ = some (.int .i64 (p : Int)) := by
        rw [cell_of_row _ _ 0 _ _ _ (heap_alloc_new wr (.cells #[.int .i64 (p : Int), .int .i64 (ex : Int)] 161))]; rfl
      have c1 : (wr.alloc (.cells #[.int .i64 (p : Int), .int .i64 (ex : Int)] 161)).cell? ⟨wr.heap.size, 1, none⟩ = some (.int .i64 (ex : Int)) := by
        rw [cell_of_row _ _ 1 _ _ _ (heap_alloc_new wr (.cells #[.int .i64 (p : Int), .int .i64 (ex : Int)] 161))]; rfl
      have hB2 := hB.alloc hB.size (.cells #[.int .i64 (p : Int), .int .i64 (ex : Int)] 161)
      have R2 := Lib.hid (R1.out.below ((Below.refl _ _).alloc (Nat.le_refl _) (.cells #[.int .i64 (p : Int), .int .i64 (ex : Int)] 161)))
      clear R1 hB
      go_wp2_with fail
      obtain ⟨BX, hBX⟩ : ∃ BX, wr.heap.size = BX := ⟨_, rfl⟩
      rw [hBX] at c0 c1 ⊢
      generalize wr.alloc (.cells #[.int .i64 (p : Int), .int .i64 (ex : Int)] 161) = w3 at *
      obtain ⟨wo, rfl⟩ : ∃ wo : World, wo = w3 := ⟨_, rfl⟩
      go_loopw [5, 25] (fun x y wr => ∃ j m : Nat, j ≤ ex ∧ y = .int .i64 j ∧ x = .int .i64 m ∧ m ≤ N ∧ 1 ≤ m ∧ Hid (OkI q a N i p j ex m) ∧ wr = wo) (fun _ y _ => ex - (intOf y).toNat)
      case atStart => exact ⟨0, n, Nat.zero_le _, rfl, rfl, hn, hn1, HI, rfl⟩
      case round =>
        have hexN : ex ≤ N := by omega
        clear HI hexn hn hn1 HO
        obtain ⟨j, m, hj, rfl, rfl, hm, hm1, HI, rfl⟩ := hrel
        have hz1 : ((p : Int) == 0) = false := by simp; omega
        have hz2 : ¬ ((p : Int) = 0) := by omega
        have hz3 : ¬ (p = 0) := by omega
        by_cases hlt2 : j < ex
        · obtain ⟨c, g1, g2, g3, g4, g5⟩ := SM.out i p j ex m HI.out hlt2
          have G5 := Lib.hid g5
          have d1 : ((m : Int)).tdiv (p : Int) = ((c : Nat) : Int) := by rw [← g1]; rfl
          have d1' : ((m : Int)) / (p : Int) = ((c : Nat) : Int) := d1
          have wd1 : IntKind.i64.wrap ((c : Nat) : Int) = ((c : Nat) : Int) := IntWalk.i64_in _ (by omega)
          have dd2 : decide ((j : Int) < (ex : Int)) = true := decide_eq_true (by omega)
          have P1 := Lib.hid (fun w => PW.out c w (by omega))
          have HLV := Lib.hid (fun (h : a ^ c % q ≠ 1) => SL.out i p j ex m HI.out hlt GP.out (fun _ => by rw [g1]; exact h))
          clear g5
          generalize a ^ c % q = v at *
          go_wp2_with fail
          refine (P1.out _).mono ?_
          rintro e w1 ⟨rfl, rfl⟩
          by_cases hv : v = 1
          · subst hv
            have HI2 := Lib.hid (G5.out rfl)
            go_wp2_with fail
            go_roundw
            case rel => exact ⟨j + 1, c, by omega, by go_num, by go_num, by omega, g3, HI2, by first | trivial | rfl⟩
            case measure => (first | (simp [intOf]; done) | (simp [intOf]; omega) | (simp only [intOf]; omega))
          · have e1 : ((v : Int) != 1) = true := by simp; omega
            have HO2 := Lib.hid (HLV.out hv)
            go_wp2_with fail
            go_roundw
            case rel => exact ⟨i + 1, m, by omega, by go_num, rfl, hm, hm1, HO2, R2, hB2⟩
            case measure => (first | (simp [intOf]; done) | (simp [intOf]; omega) | (simp only [intOf]; omega))
        · obtain rfl : j = ex := by omega
          have dd2 : decide ((j : Int) < (j : Int)) = false := decide_eq_false (by omega)
          have HO2 := Lib.hid (SL.out i p j j m HI.out hlt GP.out (fun hd => absurd hd HI.out.end))
          go_wp2_with fail
          go_roundw
          case rel => exact ⟨i + 1, m, by omega, by go_num, rfl, hm, hm1, HO2, R2, hB2⟩
          case measure => (first | (simp [intOf]; done) | (simp [intOf]; omega) | (simp only [intOf]; omega))
    · obtain rfl : i = l := by omega
      have dd : decide ((i : Int) < (i : Int)) = false := decide_eq_false (by omega)
      have HE := Lib.hid (SD.out n HO.out)
      go_wp2_with fail
      try rw [Exit.noGoto_ret]
      go_ret
      exact ⟨n, rfl, HE.out.1, HE.out.2, hB⟩
end Go.Proofs.YtbhnlfgccldmaaaGreat
