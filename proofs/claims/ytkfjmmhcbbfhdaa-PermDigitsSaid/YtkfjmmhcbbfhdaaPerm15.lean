/- Digits backwards: orders, inverses, powers of two; package perm's and reference 8's Digits as contracts. -/
import Derived.Test.YtkfjmmhcbbfhdaaPerm14
import Derived.Test.YtkfjmmhcbbfhdaaPerm10
import Derived.Test.YtkfjmmhcbbfhdaaPerm8
namespace Go.Proofs.Ytkfjmmhcbbfhdaa
open Go.ChangeShapes Go.WideShapes Go.ChangeAt Go.RowKit
set_option linter.unusedVariables false
def ints (rs : List Nat) : List Int := rs.map fun (x : Nat) => (x : Int)
theorem ints_len (rs : List Nat) : (ints rs).length = rs.length := by unfold ints; rw [List.length_map]
theorem ints_at (rs : List Nat) (k : Nat) : (ints rs).getD k 0 = ((rs.getD k 0 : Nat) : Int) := by
  unfold ints
  simp only [List.getD, List.getElem?_map]
  cases rs[k]? <;> rfl
theorem nats_ints (rs : List Nat) : nats (ints rs) = rs := by
  unfold nats ints
  rw [List.map_map]
  conv => rhs; rw [← List.map_id rs]
  apply List.map_congr_left
  intro a _
  simp
theorem ints_nats (xs : List Int) (h : ∀ x ∈ xs, 0 ≤ x) : ints (nats xs) = xs := by
  unfold nats ints
  rw [List.map_map]
  conv => rhs; rw [← List.map_id xs]
  apply List.map_congr_left
  intro a ha
  have := h a ha
  simp; omega
theorem prd_take (rs : List Nat) (hp : ∀ x ∈ rs, 2 ≤ x) (k : Nat) : prd (rs.take k) ≤ prd rs := by
  conv => rhs; rw [← List.take_append_drop k rs]
  rw [prd_app]
  exact Nat.le_mul_of_pos_right _ (prd_pos _ (fun x hx => by have := hp x (List.mem_of_mem_drop hx); omega))
theorem pz_ints (rs : List Nat) (hp : ∀ x ∈ rs, 2 ≤ x) (hN : prd rs ≤ 16777216) : ∀ k, k ≤ rs.length → pz (ints rs) k = some (prd (rs.take k)) := by
  intro k
  induction k with
  | zero => intro _; rfl
  | succ k ih =>
    intro hk
    have h2 : 2 ≤ rs.getD k 0 := by
      have := hp (rs[k]'(by omega)) (List.getElem_mem _)
      simp [List.getD, show k < rs.length by omega]; exact this
    have e := take_more rs k (by omega)
    have hle := prd_take rs hp (k + 1)
    have e2 : prd (rs.take (k + 1)) = prd (rs.take k) * rs.getD k 0 := by rw [e, prd_app, prd_one]
    rw [pz_yes (ih (by omega)) (by rw [ints_at]; omega) (by rw [ints_at, mul_cast, Nat.mul_comm]; omega), ints_at, Int.toNat_natCast, e2]
theorem pz_all (rs : List Nat) (hp : ∀ x ∈ rs, 2 ≤ x) (hN : prd rs ≤ 16777216) : pz (ints rs) rs.length = some (prd rs) := by
  rw [pz_ints rs hp hN _ (Nat.le_refl _), List.take_length]
theorem dg_inj (rs : List Nat) (hp : ∀ x ∈ rs, 0 < x) {i j : Nat} (hi : i < prd rs) (hj : j < prd rs) (h : dg rs i = dg rs j) : i = j := by
  rw [← dg_back rs i hp hi, h, dg_back rs j hp hj]
theorem dgl_right (rs : List Nat) (hp : ∀ x ∈ rs, 0 < x) : rgt (dgl rs) (prd rs) (prd rs) = true := by
  apply rgt_of
  · intro j hj
    rw [dgl_at rs j hj]
    have := dg_lt rs hp j
    omega
  · intro i j hij hj e
    rw [dgl_at rs j hj, dgl_at rs i (by omega)] at e
    have := dg_inj rs hp (by omega) hj (show dg rs i = dg rs j by omega)
    omega
theorem dgl_inv (rs : List Nat) (hp : ∀ x ∈ rs, 0 < x) : inverl (dgl rs) (prd rs) = dgl rs.reverse := by
  have hp' : ∀ x ∈ rs.reverse, 0 < x := fun x hx => hp x (by simpa using hx)
  apply getD_ext
  · rw [dgl_len, prd_rev]; exact tab_len _ _
  · intro v hv
    have hv : v < prd rs := by simpa [inverl, tab_len] using hv
    have hv' : v < prd rs.reverse := by rw [prd_rev]; exact hv
    have hk := dg_lt rs.reverse hp' v
    rw [prd_rev] at hk
    have hb := dg_back rs.reverse v hp' hv'
    rw [List.reverse_reverse] at hb
    rw [inverl_at _ _ _ hv, dgl_at _ _ hv']
    have := inv_back (dgl_right rs hp) hk
    rw [dgl_at rs _ hk, hb] at this
    rw [this]
theorem twos_rep (rs : List Nat) (h : ∀ x ∈ rs, x = 2) : rs = List.replicate rs.length 2 := List.eq_replicate_iff.2 ⟨rfl, h⟩
theorem dgl_twos (t : Nat) : dgl (List.replicate t 2) = bitl t ∧ prd (List.replicate t 2) = 2 ^ t := by
  have hP : prd (List.replicate t 2) = 2 ^ t := (dg_twos t 0 (Nat.pow_pos (by omega))).2
  refine ⟨?_, hP⟩
  apply getD_ext
  · rw [dgl_len, bitl_len, hP]
  · intro i hi
    rw [dgl_len, hP] at hi
    rw [dgl_at _ _ (by rw [hP]; exact hi), bitl_at _ _ hi, (dg_twos t i hi).1]
theorem c_bits (rs : List Nat) (W : World) (hN : prd rs ≤ 16777216) (hp : ∀ x ∈ rs, 2 ≤ x) :
    Calls Try.prog 54 #[.int .i64 (prd rs : Nat)] W fun e w' => ∃ a l c z, e = .returned (.tuple #[.slice a l c, .int .i64 z]) ∧ ((∀ x ∈ rs, x = 2) → l = prd rs ∧ RowI w' a (prd rs) (dgl rs)) ∧ Below W.heap.size W w' := by
  have h1 : 0 < prd rs := prd_pos rs (fun x hx => by have := hp x hx; omega)
  cases hb : pwb (prd rs : Nat) with
  | true =>
    obtain ⟨_, t, ht⟩ := pwb_isp hb
    rw [Int.toNat_natCast] at ht
    rw [ht]
    refine (perm_bits t W (by omega)).mono ?_
    rintro e w' ⟨a, c, rfl, hr, hbel⟩
    refine ⟨a, _, c, 0, rfl, fun h => ⟨rfl, ?_⟩, hbel⟩
    have e := twos_rep rs h
    obtain ⟨g1, g2⟩ := dgl_twos rs.length
    rw [← e] at g1 g2
    rw [g2] at ht
    rw [g1]
    obtain hlt | heq | hlt := Nat.lt_trichotomy rs.length t
    · have := Nat.pow_lt_pow_right (a := 2) (by omega) hlt; omega
    · rw [heq]; exact hr
    · have := Nat.pow_lt_pow_right (a := 2) (by omega) hlt; omega
  | false =>
    refine (perm_bitsno (prd rs : Nat) 2 W (.inr ⟨by omega, by omega, hb, rfl⟩)).mono ?_
    rintro e w' ⟨rfl, rfl⟩
    refine ⟨none, 0, 0, 2, rfl, fun h => ?_, Below.refl _ _⟩
    have e := twos_rep rs h
    obtain ⟨g1, g2⟩ := dgl_twos rs.length
    rw [← e] at g2
    rw [pwb_yes (by omega) (by rw [Int.toNat_natCast, g2]; exact ⟨_, rfl⟩)] at hb
    cases hb
theorem c_digits {w : World} {p : Option Addr} {m c : Nat} {rs : List Nat} (h : RowI w p m (ints rs)) (hm : m = rs.length) (hp : ∀ x ∈ rs, 2 ≤ x) (hN : prd rs ≤ 16777216) : Calls Try.prog 59 #[.slice p m c] w (GivesIOk w (prd rs) (dgl rs)) := by
  subst hm
  refine (perm_digits p rs.length c (ints rs) w h).mono ?_
  intro e w' hq
  rcases hq with ⟨hn, _⟩ | ⟨N, hs, hg⟩
  · rw [pz_all rs hp hN] at hn; cases hn
  · rw [pz_all rs hp hN] at hs
    cases hs
    rw [nats_ints] at hg
    exact hg
theorem c_digitsno {w : World} {p : Option Addr} {m c : Nat} {xs : List Int} (h : RowI w p m xs) (hz : pz xs m = none) : Calls Try.prog 59 #[.slice p m c] w fun e w' => e = .returned (.tuple #[.slice none 0 0, .int .i64 3]) ∧ w = w' := by
  refine (perm_digits p m c xs w h).mono ?_
  intro e w' hq
  rcases hq with ⟨_, h1, h2⟩ | ⟨N, hs, _⟩
  · exact ⟨h1, h2⟩
  · rw [hz] at hs; cases hs
theorem r8_digits : ∀ (rs : List Nat) (p : Option Addr) (n c : Nat) (W : World), (∀ x ∈ rs, 2 ≤ x) → prd rs ≤ 16777216 → n = rs.length → n ≤ c → RowI W p n (ints rs) → Calls Try.prog 60 #[.slice p n c] W (GivesI W (prd rs) (dgl rs))
  | [], p, n, c, W, _, _, hn, _, _ => by
    obtain rfl : n = 0 := hn
    exact r8_digits0 p c W
  | r :: rs, p, n, c, W, hp, hN, hn, hc, hr => by
    rw [List.length_cons] at hn
    subst hn
    obtain ⟨b, off, rfl, _⟩ := hr.cell (k := 0) (by omega)
    have hN' : prd rs ≤ 16777216 := by
      have := Nat.le_mul_of_pos_left (prd rs) (show 0 < r by have := hp r (by simp); omega)
      rw [prd] at hN; omega
    exact r8_digits1 r rs b off rs.length c W (hp r (by simp)) (fun x hx => hp x (by simp [hx])) hN rfl hc hr
      (fun W' p c' hc' h => r8_digits rs p rs.length c' W' (fun x hx => hp x (by simp [hx])) hN' rfl hc' h)
end Go.Proofs.Ytkfjmmhcbbfhdaa
