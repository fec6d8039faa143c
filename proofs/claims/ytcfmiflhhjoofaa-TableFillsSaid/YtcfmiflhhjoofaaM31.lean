/- Put together by program (merge.py): Dft2 Geo4 Geo5. -/
import Derived.Test.YtcfmiflhhjoofaaM14
import Derived.Test.YtcfmiflhhjoofaaM15
import Derived.Test.YtcfmiflhhjoofaaM25
import Derived.Test.YtcfmiflhhjoofaaM30
/- Package dft, in both directions: base, Dft, Undo. -/
namespace Go.Proofs.Ytcfmiflhhjoofaa
open Go.ChangeShapes Go.WideShapes Go.ChangeAt Go.RowKit
set_option linter.unusedVariables false
/-- The root of a direction. -/
def rdir (n dir : Int) : Int := if dir = 1 then finv (rt n) else rt n
theorem rdir_lo (n dir : Int) : 0 ≤ rdir n dir := by
  unfold rdir; split
  · exact rootTells.finv_lo _
  · exact rt_lo n
theorem rdir_hi (n dir : Int) : rdir n dir ≤ 18446744069414584320 := by
  unfold rdir; split
  · exact rootTells.finv_hi _
  · exact rt_hi n
theorem chk_ok {n dir : Int} (h : chk n dir = 0) : (dir = 0 ∨ dir = 1) ∧ hasb n = true ∧ n ≤ 4096 := by
  unfold chk at h
  by_cases d : dir = 0 ∨ dir = 1
  · rw [if_pos d] at h
    cases hh : hasb n with
    | false => rw [hh] at h; simp at h
    | true =>
      rw [hh, if_neg (by decide)] at h
      by_cases g : 4096 < n
      · rw [if_pos g] at h; omega
      · exact ⟨d, rfl, by omega⟩
  · rw [if_neg d] at h; omega
theorem chk_rng (n dir : Int) : 0 ≤ chk n dir ∧ chk n dir ≤ 12 := by
  unfold chk
  split
  · split
    · omega
    · split <;> omega
  · omega
end Go.Proofs.Ytcfmiflhhjoofaa
/- Transformed and undone. Plain numbers: no Go text. -/
namespace Go.Proofs.Ytcfmiflhhjoofaa
open Go.ChangeShapes Go.WideShapes Go.ChangeAt Go.RowKit
set_option linter.unusedVariables false
/-- r and s: inverse roots of the order n. -/
structure Inv2 (r s : Int) (n : Nat) : Prop where
  rn : fm (r ^ n) = 1
  sn : fm (s ^ n) = 1
  rs : fm (r * s) = 1
  ro : ∀ m, 0 < m → m < n → fm (r ^ m) ≠ 1
theorem pow_one_of {a : Int} (h : fm a = 1) (k : Nat) : fm (a ^ k) = 1 := by rw [← Fld.fm_pow1, h, Int.one_pow]; rfl
theorem Inv2.pow {r s : Int} {n : Nat} (h : Inv2 r s n) (k : Nat) : fm (s ^ k * r ^ k) = 1 := by
  rw [← Int.mul_pow, Int.mul_comm]; exact pow_one_of h.rs k
theorem Inv2.so {r s : Int} {n : Nat} (h : Inv2 r s n) (m : Nat) (h0 : 0 < m) (h1 : m < n) : fm (s ^ m) ≠ 1 := by
  intro e
  apply h.ro m h0 h1
  have := h.pow m
  rw [← fm_mul_l, e, Int.one_mul] at this
  exact this
theorem Inv2.symm {r s : Int} {n : Nat} (h : Inv2 r s n) : Inv2 s r n := ⟨h.sn, h.rn, by rw [Int.mul_comm]; exact h.rs, h.so⟩
theorem mix_pow {a b : Int} {n : Nat} (ha : fm (a ^ n) = 1) (hb : fm (b ^ n) = 1) (k j : Nat) : fm ((a ^ k * b ^ j) ^ n) = 1 := by
  rw [Int.mul_pow, ← Int.pow_mul, ← Int.pow_mul, Nat.mul_comm k n, Nat.mul_comm j n, ← fm_mul_fm, one_mul_exp ha, one_mul_exp hb]
  rfl
theorem Inv2.at {r s : Int} {n : Nat} (h : Inv2 r s n) (xs : List Int) (hl : xs.length = n) (k : Nat) (hk : k < n) : (horl s (horl r xs n) n).getD k 0 = fm (n * xs.getD k 0) := by
  rw [twice_at r s xs n k hk]
  refine esum_at r n xs (s ^ k) k (by omega) (fun j _ => mix_pow h.sn h.rn k j) (fun j hj hne => ?_) (h.pow k)
  rw [hl] at hj
  by_cases hjk : k < j
  · have e : s ^ k * r ^ j = (s ^ k * r ^ k) * r ^ (j - k) := by rw [Int.mul_assoc, ← Int.pow_add]; congr 2; omega
    rw [e, ← fm_mul_l, h.pow k, Int.one_mul]
    exact h.ro _ (by omega) (by omega)
  · have e : s ^ k * r ^ j = (s ^ j * r ^ j) * s ^ (k - j) := by
      rw [show s ^ k = s ^ j * s ^ (k - j) by rw [← Int.pow_add]; congr 1; omega]; grind
    rw [e, ← fm_mul_l, h.pow j, Int.one_mul]
    exact h.so _ (by omega) (by omega)
theorem Inv2.twice {r s : Int} {n : Nat} (h : Inv2 r s n) (xs : List Int) (hl : xs.length = n) (k : Nat) (hk : k < n) : (horl r (horl r xs n) n).getD k 0 = fm (n * xs.getD ((n - k) % n) 0) := by
  rw [twice_at r r xs n k hk]
  have one : ∀ j, (k + j) % n = 0 → fm (r ^ k * r ^ j) = 1 := by
    intro j hj
    obtain ⟨q, hq⟩ := Nat.dvd_of_mod_eq_zero hj
    rw [← Int.pow_add, hq]
    exact one_mul_exp h.rn q
  have hb : (k + (n - k) % n) % n = 0 := by
    rw [Nat.add_mod_mod, show k + (n - k) = n by omega, Nat.mod_self]
  refine esum_at r n xs (r ^ k) ((n - k) % n) (by rw [hl]; exact Nat.mod_lt _ (by omega)) (fun j _ => mix_pow h.rn h.rn k j) (fun j hj hne => ?_) (one _ hb)
  rw [hl] at hj
  have hne2 : (k + j) % n ≠ 0 := by
    intro e
    apply hne
    by_cases h0 : k = 0
    · subst h0
      rw [Nat.zero_add, Nat.mod_eq_of_lt hj] at e
      rw [e, Nat.sub_zero, Nat.mod_self]
    · rw [Nat.mod_eq_of_lt (by omega : n - k < n)]
      by_cases hlt : k + j < n
      · rw [Nat.mod_eq_of_lt hlt] at e; omega
      · rw [Nat.mod_eq_sub_mod (by omega), Nat.mod_eq_of_lt (by omega)] at e; omega
  have e : r ^ k * r ^ j = r ^ (n * ((k + j) / n)) * r ^ ((k + j) % n) := by rw [← Int.pow_add, ← Int.pow_add, Nat.div_add_mod]
  rw [e, ← fm_mul_l, one_mul_exp h.rn, Int.one_mul]
  exact h.ro _ (by omega) (Nat.mod_lt _ (by omega))
theorem ps_scl (st v : Int) : ∀ xs : List Int, ps st (xs.map fun x => v * x) = v * ps st xs
  | [] => by simp [ps]
  | x :: r => by
    have e1 : ps st ((x :: r).map fun x => v * x) = v * x + st * ps st (r.map fun x => v * x) := rfl
    have e2 : ps st (x :: r) = x + st * ps st r := rfl
    rw [e1, e2, ps_scl st v r]
    grind
theorem horl_scl (r v : Int) (xs : List Int) (n : Nat) : horl r (scl v xs) n = scl v (horl r xs n) := by
  unfold horl scl
  rw [List.map_map]
  apply List.map_congr_left
  intro i _
  show hor (fm (r ^ i)) (xs.map fun x => fm (v * x)) = fm (v * hor (fm (r ^ i)) xs)
  rw [hor_ps, hor_ps, fm_mul_r, ← ps_scl]
  apply ps_congr rfl
  rw [List.map_map, List.map_map]
  apply List.map_congr_left
  intro x _
  exact fm_fm _
end Go.Proofs.Ytcfmiflhhjoofaa
/- Sums and turns under the transform; the document's own way of reckoning it. Plain numbers: no Go text. -/
namespace Go.Proofs.Ytcfmiflhhjoofaa
open Go.ChangeShapes Go.WideShapes Go.ChangeAt Go.RowKit
set_option linter.unusedVariables false
theorem inv_uniq {a b c : Int} (h1 : fm (a * c) = 1) (h2 : fm (b * c) = 1) : fm a = fm b := by
  have e1 : fm (a * (b * c)) = fm a := by rw [← fm_mul_r, h2, Int.mul_one]
  have e2 : fm (b * (a * c)) = fm b := by rw [← fm_mul_r, h1, Int.mul_one]
  rw [← e1, ← e2]
  congr 1
  grind
theorem pow_mod {r : Int} {n : Nat} (h : fm (r ^ n) = 1) (e : Nat) : fm (r ^ (e % n)) = fm (r ^ e) := by
  have : r ^ e = r ^ (n * (e / n)) * r ^ (e % n) := by rw [← Int.pow_add, Nat.div_add_mod]
  rw [this, ← fm_mul_l, one_mul_exp h, Int.one_mul]
/-- The polynomial's first k terms at a place. -/
def psum (st : Int) (xs : List Int) (k : Nat) : Int := fm (ps st (xs.take k))
theorem psum_zero (st : Int) (xs : List Int) : psum st xs 0 = 0 := rfl
theorem psum_lo (st : Int) (xs : List Int) (k : Nat) : 0 ≤ psum st xs k := fm_lo _
theorem psum_hi (st : Int) (xs : List Int) (k : Nat) : psum st xs k ≤ 18446744069414584320 := fm_hi _
theorem psum_step (st : Int) (xs : List Int) (k : Nat) (h : k < xs.length) : fm (psum st xs k + fm (xs.getD k 0 * st ^ k)) = psum st xs (k + 1) := by
  unfold psum
  rw [take_snoc xs k h, ps_snoc, List.length_take, Nat.min_eq_left (by omega), fm_add_l, fm_add_r]
  have e : xs.getD k 0 = xs[k] := by simp [List.getD, h]
  rw [e, Int.mul_comm]
theorem psum_all (st : Int) (xs : List Int) : psum st xs xs.length = hor st xs := by
  unfold psum
  rw [List.take_length, hor_ps]
theorem hor_fm (st : Int) (xs : List Int) : hor (fm st) xs = hor st xs := by
  rw [hor_ps, hor_ps]
  exact ps_congr (fm_fm _) xs xs rfl
theorem hor_congr {a b : Int} (h : fm a = fm b) (xs : List Int) : hor a xs = hor b xs := by
  rw [hor_ps, hor_ps]
  exact ps_congr h xs xs rfl
theorem ps_add (st : Int) : ∀ xs ys : List Int, xs.length = ys.length → fm (ps st (zadd xs ys)) = fm (ps st xs + ps st ys)
  | [], [], _ => rfl
  | [], _ :: _, e => by simp at e
  | _ :: _, [], e => by simp at e
  | x :: r, y :: s, e => by
    have e1 : ps st (x :: r) = x + st * ps st r := rfl
    have e2 : ps st (y :: s) = y + st * ps st s := rfl
    have e3 : ps st (zadd (x :: r) (y :: s)) = fm (x + y) + st * ps st (zadd r s) := rfl
    have i := ps_add st r s (by simpa using e)
    rw [e1, e2, e3, fm_add_l, ← fm_add_r, ← fm_mul_r, i, fm_mul_r, fm_add_r]
    congr 1
    grind
theorem horl_add (r : Int) (xs ys : List Int) (n : Nat) (h : xs.length = ys.length) : horl r (zadd xs ys) n = zadd (horl r xs n) (horl r ys n) := by
  apply getD_ext (by rw [horl_len, zadd_len _ _ (by rw [horl_len, horl_len]), horl_len])
  intro k hk
  rw [horl_len] at hk
  rw [horl_at _ _ _ _ hk, zadd_at _ _ _ (by rw [horl_len]; exact hk) (by rw [horl_len, horl_len]), horl_at _ _ _ _ hk, horl_at _ _ _ _ hk, hor_ps, hor_ps, hor_ps, ps_add _ _ _ h, fm_add_fm]
theorem ps_app (st : Int) (ys : List Int) : ∀ xs : List Int, ps st (xs ++ ys) = ps st xs + st ^ xs.length * ps st ys
  | [] => by simp [ps]
  | x :: r => by
    have e1 : ps st (x :: r ++ ys) = x + st * ps st (r ++ ys) := rfl
    have e2 : ps st (x :: r) = x + st * ps st r := rfl
    rw [e1, e2, ps_app st ys r, List.length_cons, Int.pow_succ]
    grind
theorem ps_red (st : Int) (xs : List Int) : fm (ps st (redl xs)) = fm (ps st xs) := by
  apply ps_congr rfl
  unfold redl
  rw [List.map_map]
  apply List.map_congr_left
  intro x _
  exact fm_fm x
theorem hor_turn (st : Int) (xs : List Int) (n t : Nat) (hl : xs.length = n) (ht : t < n) (h1 : fm (st ^ n) = 1) : hor st (turnl xs t) = fm (hor st xs * st ^ (n - t)) := by
  rw [hor_ps, hor_ps, fm_mul_l, ← turn_split xs t (by omega), ps_app, redl_len, List.length_drop, hl, ← fm_add_fm, ps_red, ← fm_mul_r, ps_red, fm_mul_r, fm_add_fm]
  have e : ps st xs = ps st (xs.take t) + st ^ t * ps st (xs.drop t) := by
    have := ps_app st (xs.drop t) (xs.take t)
    rw [List.take_append_drop, List.length_take, Nat.min_eq_left (by omega)] at this
    exact this
  rw [e]
  have e2 : st ^ n = st ^ t * st ^ (n - t) := by rw [← Int.pow_add]; congr 1; omega
  have e3 : (ps st (xs.take t) + st ^ t * ps st (xs.drop t)) * st ^ (n - t) = st ^ (n - t) * ps st (xs.take t) + st ^ n * ps st (xs.drop t) := by
    rw [e2]; grind
  have e4 : fm (st ^ n * ps st (xs.drop t)) = fm (ps st (xs.drop t)) := by rw [← fm_mul_l, h1, Int.one_mul]
  rw [e3, ← fm_add_r _ (st ^ n * ps st (xs.drop t)), e4, fm_add_r, Int.add_comm]
/-- A turned row's transform, by powers of the inverse root. -/
theorem horl_turn {r b : Int} {n : Nat} (h1 : fm (r ^ n) = 1) (hb : fm (b * r) = 1) (xs : List Int) (hl : xs.length = n) (t k : Nat) (ht : t < n) (hk : k < n) : (horl r (turnl xs t) n).getD k 0 = fm ((horl r xs n).getD k 0 * fm (b ^ (t * k % n))) := by
  have hst : fm ((r ^ k) ^ n) = 1 := by rw [← Int.pow_mul, Nat.mul_comm]; exact one_mul_exp h1 k
  have hbn : fm (b ^ n) = 1 := by
    have := pow_one_of hb n
    rw [Int.mul_pow, ← fm_mul_r, h1, Int.mul_one] at this
    exact this
  rw [horl_at _ _ _ _ hk, horl_at _ _ _ _ hk, hor_fm, hor_fm, hor_turn (r ^ k) xs n t hl ht hst, pow_mod hbn]
  rw [← fm_mul_r, ← fm_mul_r (hor (r ^ k) xs) (fm (b ^ (t * k)))]
  congr 2
  rw [fm_fm]
  apply inv_uniq (c := r ^ (t * k))
  · rw [← Int.pow_mul, ← Int.pow_add, show k * (n - t) + t * k = n * k by rw [Nat.mul_comm t k, ← Nat.mul_add, Nat.mul_comm]; congr 1; omega]
    exact one_mul_exp h1 k
  · rw [← Int.mul_pow]
    exact pow_one_of hb _
end Go.Proofs.Ytcfmiflhhjoofaa
