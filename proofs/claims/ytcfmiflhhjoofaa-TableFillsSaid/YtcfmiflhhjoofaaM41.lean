/- Put together by program (merge.py): Genm. -/
import Derived.Test.YtcfmiflhhjoofaaM4
import Derived.Test.YtcfmiflhhjoofaaM40
/- Orders modulo a prime, and numbers that make all of them: plain numbers, no Go text. -/
namespace Go.Proofs.Ytcfmiflhhjoofaa
open Go.ChangeShapes Go.WideShapes Go.ChangeAt Go.RowKit
set_option linter.unusedVariables false
theorem isP.prm {p : Nat} (h : isP p) : Fld.Prm p := ⟨h.1, fun d hd => h.dvd hd⟩
/-- k is the least power above 0 of a that leaves 1. -/
structure IsOrd (q a k : Nat) : Prop where
  one : 1 ≤ k
  pow : a ^ k % q = 1
  least : ∀ j, 1 ≤ j → j < k → a ^ j % q ≠ 1
theorem IsOrd.uniq {q a k j : Nat} (h : IsOrd q a k) (g : IsOrd q a j) : k = j := by
  rcases Nat.lt_trichotomy k j with c | c | c
  · exact absurd h.pow (g.least k h.one c)
  · exact c
  · exact absurd g.pow (h.least j g.one c)
theorem pow_fer {q a : Nat} (hq : isP q) (h1 : 1 ≤ a) (h2 : a < q) : a ^ (q - 1) % q = 1 :=
  Fld.fermat hq.prm (by rw [Nat.mod_eq_of_lt h2]; omega)
theorem pow_mul_one {q a k : Nat} (hq : 2 ≤ q) (h : a ^ k % q = 1) (c : Nat) : a ^ (k * c) % q = 1 := by
  rw [Nat.pow_mul, Nat.pow_mod, h, Nat.one_pow, Nat.mod_eq_of_lt (by omega)]
theorem IsOrd.dvd {q a k n : Nat} (hq : 2 ≤ q) (h : IsOrd q a k) (hn : a ^ n % q = 1) : k ∣ n := by
  have e := Nat.div_add_mod n k
  have h1 := pow_mul_one hq h.pow (n / k)
  have h2 : a ^ (n % k) % q = 1 := by
    rw [← e, Nat.pow_add, Nat.mul_mod, h1, Nat.one_mul, Nat.mod_mod] at hn
    exact hn
  by_cases h0 : n % k = 0
  · exact Nat.dvd_of_mod_eq_zero h0
  · exact absurd h2 (h.least _ (by omega) (Nat.mod_lt _ h.one))
theorem ord_ex {q a : Nat} : ∀ n, 1 ≤ n → a ^ n % q = 1 → ∃ k, IsOrd q a k := by
  intro n
  induction n using Nat.strongRecOn with
  | _ n ih =>
    intro h1 h2
    by_cases h : ∃ j, 1 ≤ j ∧ j < n ∧ a ^ j % q = 1
    · obtain ⟨j, j1, j2, j3⟩ := h
      exact ih j j2 j1 j3
    · exact ⟨n, h1, h2, fun j j1 j2 j3 => h ⟨j, j1, j2, j3⟩⟩
theorem ord_of {q a : Nat} (hq : isP q) (h1 : 1 ≤ a) (h2 : a < q) : ∃ k, IsOrd q a k ∧ k ∣ q - 1 := by
  have hf := pow_fer hq h1 h2
  obtain ⟨k, hk⟩ := ord_ex (q - 1) (by have := hq.1; omega) hf
  exact ⟨k, hk, hk.dvd hq.1 hf⟩
/-- An exponent that leaves 1, and no longer when a prime is taken out, is the order. -/
theorem ord_prime {q a n : Nat} (hq : 2 ≤ q) (h1 : 1 ≤ n) (hn : a ^ n % q = 1) (hp : ∀ p, isP p → p ∣ n → a ^ (n / p) % q ≠ 1) : IsOrd q a n := by
  obtain ⟨k, hk⟩ := ord_ex n h1 hn
  obtain ⟨c, hc⟩ := hk.dvd hq hn
  by_cases h : c = 1
  · rw [h, Nat.mul_one] at hc; rw [hc]; exact hk
  · exfalso
    have hc2 : 2 ≤ c := by
      rcases Nat.eq_zero_or_pos c with e | e
      · rw [e] at hc; omega
      · omega
    obtain ⟨p, hpp, d, hd⟩ := least_prime c hc2
    have hp2 := hpp.1
    have e : n = p * (k * d) := by rw [hc, hd, ← Nat.mul_assoc, Nat.mul_comm k p, Nat.mul_assoc]
    refine hp p hpp ⟨_, e⟩ ?_
    rw [e, Nat.mul_div_cancel_left _ (by omega)]
    exact pow_mul_one hq hk.pow d
theorem ord_mul {q a b m n : Nat} (hq : 2 ≤ q) (ha : IsOrd q a m) (hb : IsOrd q b n) (hg : Nat.Coprime m n) : IsOrd q (a * b) (m * n) := by
  have key : ∀ t, (a * b) ^ t % q = 1 → m * n ∣ t := by
    intro t ht
    rw [Nat.mul_pow] at ht
    have h1 : a ^ (t * n) % q = 1 := by
      have := pow_mul_one hq (show (a * b) ^ t % q = 1 by rw [Nat.mul_pow]; exact ht) n
      rw [Nat.mul_pow, Nat.mul_mod, Nat.mul_comm t n, pow_mul_one hq hb.pow t, Nat.mul_one, Nat.mod_mod, Nat.mul_comm n t] at this
      exact this
    have h2 : b ^ (t * m) % q = 1 := by
      have := pow_mul_one hq (show (a * b) ^ t % q = 1 by rw [Nat.mul_pow]; exact ht) m
      rw [Nat.mul_pow, Nat.mul_mod, Nat.mul_comm t m, pow_mul_one hq ha.pow t, Nat.one_mul, Nat.mod_mod, Nat.mul_comm m t] at this
      exact this
    exact Nat.Coprime.mul_dvd_of_dvd_of_dvd hg (Nat.Coprime.dvd_of_dvd_mul_right hg (ha.dvd hq h1)) (Nat.Coprime.dvd_of_dvd_mul_right hg.symm (hb.dvd hq h2))
  refine ⟨Nat.mul_pos ha.one hb.one, ?_, fun j j1 j2 j3 => ?_⟩
  · rw [Nat.mul_pow, Nat.mul_mod, pow_mul_one hq ha.pow n, Nat.mul_comm m n, pow_mul_one hq hb.pow m, Nat.mul_one, Nat.mod_eq_of_lt (by omega)]
  · have := Nat.le_of_dvd j1 (key j j3)
    omega
theorem ord_pow {q a d e : Nat} (h : IsOrd q a (d * e)) (hd : 1 ≤ d) (he : 1 ≤ e) : IsOrd q (a ^ d) e := by
  refine ⟨he, by rw [← Nat.pow_mul]; exact h.pow, fun j j1 j2 j3 => ?_⟩
  rw [← Nat.pow_mul] at j3
  exact h.least (d * j) (Nat.mul_pos hd j1) (Nat.mul_lt_mul_of_pos_left j2 hd) j3
theorem ord_mod {q a k : Nat} (h : IsOrd q a k) : IsOrd q (a % q) k :=
  ⟨h.one, by rw [← Nat.pow_mod]; exact h.pow, fun j j1 j2 j3 => h.least j j1 j2 (by rw [Nat.pow_mod]; exact j3)⟩
theorem mu_dvd : ∀ m, 1 ≤ m → ∀ e, 1 ≤ e → (∀ p, isP p → mu p m ≤ mu p e) → m ∣ e := by
  intro m
  induction m using Nat.strongRecOn with
  | _ m ih =>
    intro hm e he h
    by_cases h1 : m = 1
    · rw [h1]; exact Nat.one_dvd e
    · obtain ⟨p, hp, c, hc⟩ := least_prime m (by omega)
      have hp2 := hp.1
      have hc1 : 1 ≤ c := by
        rcases Nat.eq_zero_or_pos c with z | z
        · rw [z] at hc; omega
        · exact z
      have hpe : p ∣ e := (mu_pos hp2 he).1 (Nat.le_trans ((mu_pos hp2 hm).2 ⟨c, hc⟩) (h p hp))
      obtain ⟨d, hd⟩ := hpe
      have hd1 : 1 ≤ d := by
        rcases Nat.eq_zero_or_pos d with z | z
        · rw [z] at hd; omega
        · exact z
      have := ih c (by have := Nat.mul_le_mul_right c hp2; omega) hc1 d hd1 (fun r hr => by
        have := h r hr
        rw [hc, hd] at this
        by_cases e : r = p
        · subst e; rw [mu_mul hp2 hc1, mu_mul hp2 hd1] at this; omega
        · rw [mu_other hr hp e c hc1, mu_other hr hp e d hd1] at this; exact this)
      rw [hc, hd]
      exact Nat.mul_dvd_mul_left p this
/-- All, or there is a greater order. -/
theorem ord_more {q g e : Nat} (hq : isP q) (hg : IsOrd q g e) : (∀ a, 1 ≤ a → a < q → a ^ e % q = 1) ∨ ∃ g' e', IsOrd q g' e' ∧ e < e' := by
  have hq2 := hq.1
  by_cases hall : ∀ a, 1 ≤ a → a < q → a ^ e % q = 1
  · exact .inl hall
  · right
    have : ∃ a, 1 ≤ a ∧ a < q ∧ a ^ e % q ≠ 1 := Classical.byContradiction fun hc => hall fun a h1 h2 => Classical.byContradiction fun h3 => hc ⟨a, h1, h2, h3⟩
    obtain ⟨a, h1, h2, h3⟩ := this
    obtain ⟨m, hm, _⟩ := ord_of hq h1 h2
    have hnd : ¬ m ∣ e := fun hd => by
      obtain ⟨c, rfl⟩ := hd
      exact h3 (pow_mul_one hq2 hm.pow c)
    have : ∃ p, isP p ∧ mu p e < mu p m := Classical.byContradiction fun hc => hnd (mu_dvd m hm.one e hg.one (fun p hp => Classical.byContradiction fun hlt => hc ⟨p, hp, by omega⟩))
    obtain ⟨p, hp, hlt⟩ := this
    have hp2 := hp.1
    obtain ⟨m', e1, e2⟩ := mu_split hp2 m hm.one
    obtain ⟨e', e3, e4⟩ := mu_split hp2 e hg.one
    have pp : ∀ k, 1 ≤ p ^ k := fun k => Nat.pow_pos (by omega)
    have m1 : 1 ≤ m' := by
      rcases Nat.eq_zero_or_pos m' with z | z
      · exact absurd (by rw [z]; exact Nat.dvd_zero p) e2
      · exact z
    have e'1 : 1 ≤ e' := by
      rcases Nat.eq_zero_or_pos e' with z | z
      · exact absurd (by rw [z]; exact Nat.dvd_zero p) e4
      · exact z
    generalize mu p m = i at *
    generalize mu p e = j at *
    have o1 : IsOrd q (a ^ m') (p ^ i) := ord_pow (by rw [Nat.mul_comm, ← e1]; exact hm) m1 (pp i)
    have o2 : IsOrd q (g ^ p ^ j) e' := ord_pow (by rw [← e3]; exact hg) (pp j) e'1
    have hcp : Nat.Coprime (p ^ i) e' := by
      refine Nat.Coprime.pow_left _ ?_
      rcases hp.dvd (Nat.gcd_dvd_left p e') with z | z
      · exact z
      · exact absurd (by rw [← z]; exact Nat.gcd_dvd_right p e') e4
    refine ⟨_, _, ord_mul hq2 o1 o2 hcp, ?_⟩
    rw [e3]
    exact Nat.mul_lt_mul_of_pos_right (Nat.pow_lt_pow_right (by omega) hlt) e'1
/-- A polynomial's value. -/
def ev : List Int → Int → Int
  | [], _ => 0
  | a :: l, x => a + x * ev l x
/-- Divided by x - r. -/
def dvp (r : Int) : List Int → List Int
  | [] => []
  | [_] => []
  | _ :: b :: l => ev (b :: l) r :: dvp r (b :: l)
theorem dvp_len (r : Int) : ∀ (a : Int) (l : List Int), (dvp r (a :: l)).length = l.length
  | a, [] => rfl
  | a, b :: l => by rw [dvp, List.length_cons, dvp_len r b l, List.length_cons]
theorem dvp_ev (r x : Int) : ∀ (c : List Int), ev c x - ev c r = (x - r) * ev (dvp r c) x
  | [] => by simp [ev, dvp]
  | [a] => by simp [ev, dvp]
  | a :: b :: l => by
    have ih := dvp_ev r x (b :: l)
    have e : ev (b :: l) x = ev (b :: l) r + (x - r) * ev (dvp r (b :: l)) x := by omega
    show a + x * ev (b :: l) x - (a + r * ev (b :: l) r) = (x - r) * (ev (b :: l) r + x * ev (dvp r (b :: l)) x)
    rw [e]
    generalize ev (b :: l) r = u
    generalize ev (dvp r (b :: l)) x = v
    grind
theorem dvp_last (r : Int) : ∀ (a b : Int) (l : List Int) (h : dvp r (a :: b :: l) ≠ []), (dvp r (a :: b :: l)).getLast h = (a :: b :: l).getLast (by simp)
  | a, b, [], h => by simp [dvp, ev]
  | a, b, c :: l, h => by
    have ih := dvp_last r b c l (by simp [dvp])
    have e : dvp r (a :: b :: c :: l) = ev (b :: c :: l) r :: dvp r (b :: c :: l) := rfl
    simp only [e]
    rw [List.getLast_cons (by simp [dvp]), ih]
    simp
theorem roots_le {q : Nat} (hq : isP q) : ∀ (rs : List Int) (c : List Int) (hc : c ≠ []), ¬ (q : Int) ∣ c.getLast hc → rs.Pairwise (fun a b => ¬ (q : Int) ∣ b - a) → (∀ r ∈ rs, (q : Int) ∣ ev c r) → rs.length + 1 ≤ c.length
  | [], c, hc, _, _, _ => by
    cases c with
    | nil => exact absurd rfl hc
    | cons a l => simp
  | r :: rs, c, hc, hl, hp, hr => by
    rw [List.pairwise_cons] at hp
    match c, hc, hl, hr with
    | [a], _, hl, hr =>
      have := hr r (by simp)
      simp [ev] at this
      exact absurd this (by simpa using hl)
    | a :: b :: l, _, hl, hr =>
      have hne : dvp r (a :: b :: l) ≠ [] := by simp [dvp]
      have ih := roots_le hq rs (dvp r (a :: b :: l)) hne (by rw [dvp_last]; exact hl) hp.2 (fun s hs => by
        have e := dvp_ev r s (a :: b :: l)
        have h1 := hr r (by simp)
        have h2 := hr s (by simp [hs])
        have h3 : (q : Int) ∣ (s - r) * ev (dvp r (a :: b :: l)) s := by rw [← e]; exact Int.dvd_sub h2 h1
        have h4 := hp.1 s hs
        have h5 : q ∣ (s - r).natAbs * (ev (dvp r (a :: b :: l)) s).natAbs := by rw [← Int.natAbs_mul]; exact Int.ofNat_dvd_left.1 h3
        rcases hq.dvd_mul h5 with h | h
        · exact absurd (Int.ofNat_dvd_left.2 h) h4
        · exact Int.ofNat_dvd_left.2 h)
      rw [dvp_len] at ih
      simp only [List.length_cons] at *
      omega
theorem ev_pow (x : Int) : ∀ n, ev (List.replicate n 0 ++ [1]) x = x ^ n
  | 0 => by simp [ev]
  | n + 1 => by rw [List.replicate_succ, List.cons_append, ev, ev_pow x n, Int.pow_succ, Int.zero_add, Int.mul_comm]
theorem all_one {q e : Nat} (hq : isP q) (he : 1 ≤ e) (h : ∀ a, 1 ≤ a → a < q → a ^ e % q = 1) : q - 1 ≤ e := by
  have hq2 := hq.1
  have := roots_le hq ((List.range (q - 1)).map fun i => ((i + 1 : Nat) : Int)) ((-1) :: (List.replicate (e - 1) 0 ++ [1])) (by simp) (by
      rw [List.getLast_cons (by simp)]
      intro hd
      simp at hd
      have := Int.le_of_dvd (by omega) hd
      omega) (by
      rw [List.pairwise_map]
      refine List.Pairwise.imp_of_mem (R := fun a b => a < b) ?_ List.pairwise_lt_range
      intro a b ha hb hab hd
      rw [List.mem_range] at ha hb
      have := Int.le_of_dvd (by omega) hd
      omega) (by
      intro r hr
      obtain ⟨i, hi, rfl⟩ := List.mem_map.1 hr
      rw [List.mem_range] at hi
      rw [ev, ev_pow]
      have h1 := h (i + 1) (by omega) (by omega)
      obtain ⟨k, hk⟩ : ∃ k, e = k + 1 := ⟨e - 1, by omega⟩
      subst hk
      rw [Nat.add_sub_cancel, Int.mul_comm, ← Int.pow_succ, ← Int.natCast_pow]
      generalize (i + 1) ^ (k + 1) = y at *
      have : (y : Int) % (q : Int) = 1 := by rw [← Int.natCast_emod, h1]; rfl
      refine ⟨(y : Int) / (q : Int), ?_⟩
      have := Int.mul_ediv_add_emod (y : Int) (q : Int)
      omega)
  simp at this
  omega
/-- Some number makes all below a prime. -/
theorem maker_ex {q : Nat} (hq : isP q) : ∃ g, 1 ≤ g ∧ g < q ∧ IsOrd q g (q - 1) := by
  have hq2 := hq.1
  have step : ∀ n g e, q - e ≤ n → IsOrd q g e → ∃ g, IsOrd q g (q - 1) := by
    intro n
    induction n with
    | zero =>
      intro g e hn h
      rcases ord_more hq h with hall | _
      · have := all_one hq h.one hall
        have hle : e ∣ q - 1 := by
          by_cases hd : q ∣ g
          · exfalso
            have := h.pow
            obtain ⟨c, rfl⟩ := hd
            obtain ⟨k, rfl⟩ : ∃ k, e = k + 1 := ⟨e - 1, by have := h.one; omega⟩
            rw [Nat.pow_succ, Nat.mul_comm, Nat.mul_assoc, Nat.mul_mod_right] at this
            omega
          · have hm : g % q ≠ 0 := fun z => hd (Nat.dvd_of_mod_eq_zero z)
            exact h.dvd hq2 (Fld.fermat hq.prm hm)
        have := Nat.le_of_dvd (by omega) hle
        omega
      · have hle : e ∣ q - 1 := by
          by_cases hd : q ∣ g
          · exfalso
            have := h.pow
            obtain ⟨c, rfl⟩ := hd
            obtain ⟨k, rfl⟩ : ∃ k, e = k + 1 := ⟨e - 1, by have := h.one; omega⟩
            rw [Nat.pow_succ, Nat.mul_comm, Nat.mul_assoc, Nat.mul_mod_right] at this
            omega
          · have hm : g % q ≠ 0 := fun z => hd (Nat.dvd_of_mod_eq_zero z)
            exact h.dvd hq2 (Fld.fermat hq.prm hm)
        have := Nat.le_of_dvd (by omega) hle
        omega
    | succ n ih =>
      intro g e hn h
      rcases ord_more hq h with hall | ⟨g', e', h', hlt⟩
      · have := all_one hq h.one hall
        have hle : e ∣ q - 1 := by
          by_cases hd : q ∣ g
          · exfalso
            have := h.pow
            obtain ⟨c, rfl⟩ := hd
            obtain ⟨k, rfl⟩ : ∃ k, e = k + 1 := ⟨e - 1, by have := h.one; omega⟩
            rw [Nat.pow_succ, Nat.mul_comm, Nat.mul_assoc, Nat.mul_mod_right] at this
            omega
          · have hm : g % q ≠ 0 := fun z => hd (Nat.dvd_of_mod_eq_zero z)
            exact h.dvd hq2 (Fld.fermat hq.prm hm)
        have := Nat.le_of_dvd (by omega) hle
        have : e = q - 1 := by omega
        subst this
        exact ⟨g, h⟩
      · exact ih g' e' (by omega) h'
  obtain ⟨k, hk, _⟩ := ord_of hq (a := 1) (Nat.le_refl _) (by omega)
  obtain ⟨g, hg⟩ := step (q - k) 1 k (Nat.le_refl _) hk
  refine ⟨g % q, ?_, Nat.mod_lt _ (by omega), ord_mod hg⟩
  rcases Nat.eq_zero_or_pos (g % q) with z | z
  · have := hg.pow
    obtain ⟨k, hk⟩ : ∃ k, q - 1 = k + 1 := ⟨q - 2, by omega⟩
    rw [hk, Nat.pow_succ, Nat.mul_mod, z, Nat.mul_zero, Nat.zero_mod] at this
    omega
  · exact z
end Go.Proofs.Ytcfmiflhhjoofaa
