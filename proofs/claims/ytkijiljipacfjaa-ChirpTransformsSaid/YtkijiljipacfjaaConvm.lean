/- Products of rows, plain and around: plain numbers, no Go text. -/
import Derived.Test.YtkijiljipacfjaaGeo5
import Derived.Test.YtkijiljipacfjaaRowset
namespace Go.Proofs.Ytkijiljipacfjaa
open Go.ChangeShapes Go.WideShapes Go.ChangeAt Go.RowKit
set_option linter.unusedVariables false
/-- The first i rows' part of a plain product's place k. -/
def lsn (xs ys : List Int) : Nat → Nat → Int
  | 0, _ => 0
  | i + 1, k => if i ≤ k ∧ k - i < ys.length then fm (lsn xs ys i k + fm (xs.getD i 0 * ys.getD (k - i) 0)) else lsn xs ys i k
/-- Likewise around. -/
def csn (xs ys : List Int) (n : Nat) : Nat → Nat → Int
  | 0, _ => 0
  | i + 1, k => fm (csn xs ys n i k + fm (xs.getD i 0 * ys.getD ((k + n - i) % n) 0))
/-- The sum of those of the first t places that stand at k, around m places. -/
def wsn (xs : List Int) (m k : Nat) : Nat → Int
  | 0 => 0
  | t + 1 => if t % m = k then fm (wsn xs m k t + xs.getD t 0) else wsn xs m k t
def linl (xs ys : List Int) : List Int := if xs.length = 0 ∨ ys.length = 0 then [] else tab (xs.length + ys.length - 1) (lsn xs ys xs.length)
def cycl (xs ys : List Int) : List Int := tab xs.length (csn xs ys xs.length xs.length)
def wrapl (xs : List Int) (m : Nat) : List Int := tab m fun k => wsn xs m k xs.length
theorem lsn_b (xs ys : List Int) : ∀ i k, 0 ≤ lsn xs ys i k ∧ lsn xs ys i k ≤ 18446744069414584320
  | 0, _ => by simp [lsn]
  | i + 1, k => by
    rw [lsn]; split
    · exact ⟨fm_lo _, fm_hi _⟩
    · exact lsn_b xs ys i k
theorem csn_b (xs ys : List Int) (n : Nat) : ∀ i k, 0 ≤ csn xs ys n i k ∧ csn xs ys n i k ≤ 18446744069414584320
  | 0, _ => by simp [csn]
  | i + 1, k => ⟨fm_lo _, fm_hi _⟩
theorem wsn_b (xs : List Int) (m k : Nat) : ∀ t, 0 ≤ wsn xs m k t ∧ wsn xs m k t ≤ 18446744069414584320
  | 0 => by simp [wsn]
  | t + 1 => by
    rw [wsn]; split
    · exact ⟨fm_lo _, fm_hi _⟩
    · exact wsn_b xs m k t
theorem tab_wf (n : Nat) (f : Nat → Int) (h : ∀ k, 0 ≤ f k ∧ f k ≤ 18446744069414584320) : ∀ z ∈ tab n f, (Lit.int .u64 z).wf = true := by
  intro z hz
  unfold tab at hz
  obtain ⟨k, _, rfl⟩ := List.mem_map.1 hz
  have := h k
  exact WalkArith.wf_u64 ⟨by omega, by omega⟩
theorem linl_wf (xs ys : List Int) : ∀ z ∈ linl xs ys, (Lit.int .u64 z).wf = true := by
  unfold linl; split
  · intro z hz; cases hz
  · exact tab_wf _ _ (lsn_b xs ys _)
theorem cycl_wf (xs ys : List Int) : ∀ z ∈ cycl xs ys, (Lit.int .u64 z).wf = true := tab_wf _ _ (csn_b xs ys _ _)
theorem wrapl_wf (xs : List Int) (m : Nat) : ∀ z ∈ wrapl xs m, (Lit.int .u64 z).wf = true := tab_wf _ _ fun k => wsn_b xs m k _
theorem linl_len (xs ys : List Int) (hx : 0 < xs.length) (hy : 0 < ys.length) : (linl xs ys).length = xs.length + ys.length - 1 := by
  unfold linl; rw [if_neg (by omega), tab_len]
theorem cycl_len (xs ys : List Int) : (cycl xs ys).length = xs.length := tab_len _ _
theorem wrapl_len (xs : List Int) (m : Nat) : (wrapl xs m).length = m := tab_len _ _
theorem wsn_gap (xs : List Int) (m k a : Nat) : ∀ b, a ≤ b → (∀ t, a ≤ t → t < b → t % m ≠ k) → wsn xs m k b = wsn xs m k a
  | 0, h, _ => by obtain rfl : a = 0 := by omega
                  rfl
  | b + 1, h, hg => by
    by_cases e : a = b + 1
    · rw [e]
    · rw [wsn, if_neg (hg b (by omega) (by omega))]
      exact wsn_gap xs m k a b (by omega) fun t h1 h2 => hg t h1 (by omega)
theorem mod_gap {m k i t : Nat} (hm : 0 < m) (hi : i % m = k) (h1 : i + 1 ≤ t) (h2 : t < i + m) : t % m ≠ k := by
  intro e
  have a1 := Nat.div_add_mod t m
  have a2 := Nat.div_add_mod i m
  rw [e] at a1
  rw [hi] at a2
  rcases Nat.lt_or_ge (i / m) (t / m) with h | h
  · have := Nat.mul_le_mul_left m (show i / m + 1 ≤ t / m from h)
    rw [Nat.mul_add, Nat.mul_one] at this; omega
  · have := Nat.mul_le_mul_left m h
    omega
theorem wsn_start (xs : List Int) (m k : Nat) (hk : k < m) : wsn xs m k k = 0 := by
  rw [wsn_gap xs m k 0 k (Nat.zero_le _) (fun t _ h2 => by rw [Nat.mod_eq_of_lt (by omega)]; omega)]
  rfl
theorem wsn_next (xs : List Int) (m k i : Nat) (hm : 0 < m) (hi : i % m = k) : wsn xs m k (i + m) = fm (wsn xs m k i + xs.getD i 0) := by
  rw [wsn_gap xs m k (i + 1) (i + m) (by omega) (fun t h1 h2 => mod_gap hm hi h1 h2), wsn, if_pos hi]
theorem getD_out (xs : List Int) (t : Nat) (h : xs.length ≤ t) : xs.getD t 0 = 0 := by
  simp [List.getD, h]
theorem wsn_out (xs : List Int) (m k : Nat) : ∀ t, xs.length ≤ t → wsn xs m k t = wsn xs m k xs.length
  | 0, h => by rw [show xs.length = 0 by omega]
  | t + 1, h => by
    by_cases e : xs.length = t + 1
    · rw [e]
    · have i := wsn_out xs m k t (by omega)
      have := wsn_b xs m k t
      rw [wsn, getD_out xs t (by omega), Int.add_zero, fm_small _ this.1 this.2, ite_self, i]
/-- A product around is a plain one, around. -/
theorem cyc_lin (xs ys : List Int) (n : Nat) (hy : ys.length = n) (k : Nat) (hk : k < n) : ∀ i, i ≤ n → csn xs ys n i k = fm (lsn xs ys i k + lsn xs ys i (k + n))
  | 0, _ => rfl
  | i + 1, h => by
    have ih := cyc_lin xs ys n hy k hk i (by omega)
    rw [csn, ih, lsn, lsn]
    by_cases e : i ≤ k
    · rw [if_pos ⟨e, by omega⟩, if_neg (by omega)]
      have m1 : (k + n - i) % n = k - i := by
        rw [show k + n - i = (k - i) + n by omega, Nat.add_mod_right, Nat.mod_eq_of_lt (by omega)]
      rw [m1]
      simp only [fm_add_l, fm_add_r]
      congr 1; grind
    · rw [if_neg (by omega), if_pos ⟨by omega, by omega⟩]
      have m1 : (k + n - i) % n = k + n - i := Nat.mod_eq_of_lt (by omega)
      rw [m1]
      simp only [fm_add_l, fm_add_r]
      congr 1; grind
theorem lsn_out (xs ys : List Int) : ∀ i k, i + ys.length ≤ k + 1 → lsn xs ys i k = 0
  | 0, _, _ => rfl
  | i + 1, k, h => by rw [lsn, if_neg (by omega)]; exact lsn_out xs ys i k (by omega)
theorem wrap_lin (xs ys : List Int) (n : Nat) (hx : xs.length = n) (hy : ys.length = n) (h0 : 0 < n) : wrapl (linl xs ys) n = cycl xs ys := by
  unfold wrapl cycl
  rw [hx]
  apply tab_congr
  intro k hk
  rw [cyc_lin xs ys n hy k hk n (Nat.le_refl _)]
  have L := linl_len xs ys (by omega) (by omega)
  have at_ : ∀ j, j < 2 * n - 1 → (linl xs ys).getD j 0 = lsn xs ys n j := by
    intro j hj
    unfold linl
    rw [if_neg (by omega), tab_at _ _ _ (by omega), hx]
  have b1 := lsn_b xs ys n k
  have s1 : wsn (linl xs ys) n k (k + n) = lsn xs ys n k := by
    rw [wsn_next _ n k k (by omega) (Nat.mod_eq_of_lt hk), wsn_start _ n k hk, Int.zero_add, at_ k (by omega), fm_small _ b1.1 b1.2]
  by_cases e : k + n < 2 * n - 1
  · have s2 : wsn (linl xs ys) n k (k + n + n) = fm (lsn xs ys n k + lsn xs ys n (k + n)) := by
      rw [wsn_next _ n k (k + n) (by omega) (by rw [Nat.add_mod_right, Nat.mod_eq_of_lt hk]), s1, at_ _ e]
    rw [wsn_out _ n k (k + n + n) (by omega)] at s2
    exact s2.symm
  · have s2 := wsn_out (linl xs ys) n k (k + n) (by omega)
    rw [s1] at s2
    rw [← s2, lsn_out xs ys n (k + n) (by omega), Int.add_zero, fm_small _ b1.1 b1.2]
theorem hor_tab_step (st : Int) (xs ys : List Int) (n i : Nat) (hy : ys.length = n) (hi : i < n) (hn : fm (st ^ n) = 1) :
    fm (ps st (tab n (csn xs ys n (i + 1)))) = fm (ps st (tab n (csn xs ys n i)) + xs.getD i 0 * st ^ i * ps st ys) := by
  have hT : (turnl ys ((n - i) % n)).length = n := by rw [turnl_len, hy]
  have e : tab n (csn xs ys n (i + 1)) = zadd (tab n (csn xs ys n i)) ((turnl ys ((n - i) % n)).map fun x => xs.getD i 0 * x) := by
    apply getD_ext
    · rw [zadd_len _ _ (by rw [tab_len, List.length_map, hT]), tab_len, tab_len]
    · intro k hk
      rw [tab_len] at hk
      rw [zadd_at _ _ _ (by rw [tab_len]; exact hk) (by rw [tab_len, List.length_map, hT]), tab_at _ _ _ hk, tab_at _ _ _ hk, csn]
      have e2 : ((turnl ys ((n - i) % n)).map fun x => xs.getD i 0 * x).getD k 0 = xs.getD i 0 * (turnl ys ((n - i) % n)).getD k 0 := by
        simp only [List.getD, List.getElem?_map]
        rw [List.getElem?_eq_getElem (show k < (turnl ys ((n - i) % n)).length by omega)]
        rfl
      rw [e2, turnl_at _ _ _ (by omega), hy, show (k + (n - i) % n) % n = (k + n - i) % n by rw [Nat.add_mod_mod]; congr 1; omega, ← fm_add_r _ (_ * _), fm_mul_r]
  rw [e, ps_add _ _ _ (by rw [tab_len, List.length_map, hT]), ps_scl]
  rw [← fm_add_r, ← fm_mul_r, ← hor_ps, hor_turn st ys n _ hy (Nat.mod_lt _ (by omega)) hn, hor_ps, fm_mul_l, ← fm_add_r _ (xs.getD i 0 * st ^ i * _)]
  congr 2
  rw [fm_mul_r]
  by_cases hz : i = 0
  · subst hz
    rw [Nat.sub_zero, Nat.mod_self, Nat.sub_zero, Int.pow_zero, Int.mul_one, ← fm_mul_r _ (_ * _), ← fm_mul_r _ (st ^ n), hn, Int.mul_one, fm_mul_r]
  · rw [Nat.mod_eq_of_lt (by omega), show n - (n - i) = i by omega]
    congr 1
    grind
theorem hor_cyc_n (st : Int) (xs ys : List Int) (n : Nat) (hx : xs.length = n) (hy : ys.length = n) (hn : fm (st ^ n) = 1) : ∀ i, i ≤ n → fm (ps st (tab n (csn xs ys n i))) = fm (ps st (xs.take i) * ps st ys)
  | 0, _ => by
    have z : ∀ m, ps st (List.replicate m 0) = 0 := by
      intro m; induction m with
      | zero => rfl
      | succ m ih => rw [List.replicate_succ]; show 0 + st * ps st _ = 0; rw [ih]; simp
    rw [show tab n (csn xs ys n 0) = List.replicate n 0 from (tab_rep n 0).symm, z]
    show fm 0 = fm (0 * _)
    rw [Int.zero_mul]
  | i + 1, h => by
    rw [hor_tab_step st xs ys n i hy (by omega) hn, ← fm_add_l, hor_cyc_n st xs ys n hx hy hn i (by omega), fm_add_l, take_snoc xs i (by omega), ps_snoc, List.length_take, Nat.min_eq_left (by omega)]
    have e : xs.getD i 0 = xs[i]'(by omega) := by simp [List.getD, show i < xs.length by omega]
    rw [e]
    congr 1
    grind
/-- The transform of a product around is the product of the transforms. -/
theorem horl_cyc {r : Int} {n : Nat} (h1 : fm (r ^ n) = 1) (xs ys : List Int) (hx : xs.length = n) (hy : ys.length = n) : horl r (cycl xs ys) n = zmul (horl r xs n) (horl r ys n) := by
  apply getD_ext
  · rw [zmul_len _ _ (by rw [horl_len, horl_len]), horl_len, horl_len]
  · intro k hk
    rw [horl_len] at hk
    have hst : fm ((r ^ k) ^ n) = 1 := by rw [← Int.pow_mul, Nat.mul_comm]; exact one_mul_exp h1 k
    rw [zmul_at _ _ _ (by rw [horl_len]; exact hk) (by rw [horl_len, horl_len]), horl_at _ _ _ _ hk, horl_at _ _ _ _ hk, horl_at _ _ _ _ hk, hor_fm, hor_fm, hor_fm, hor_ps, hor_ps, hor_ps, fm_mul_fm]
    unfold cycl
    rw [hx, hor_cyc_n (r ^ k) xs ys n hx hy hst n (Nat.le_refl _), List.take_of_length_le (by omega)]
end Go.Proofs.Ytkijiljipacfjaa
