/- Reference 5's Rev and Turn. -/
import Derived.Test.YtjiedfncamdojaaOwnm
namespace Go.Proofs.Ytjiedfncamdojaa
open Go.ChangeShapes Go.WideShapes Go.ChangeAt Go.RowKit
set_option linter.unusedVariables false
theorem Row.drop {w : World} {b off n : Nat} {xs : List Int} (h : Row w (some ⟨b, off, none⟩) n xs) (t : Nat) (ht : t < n) : Row w (some ⟨b, off + t, none⟩) (n - t) (xs.drop t) := by
  refine ⟨by rw [List.length_drop, h.len], ?_, fun x hx => h.wf x (List.mem_of_mem_drop hx), by have := h.small; omega⟩
  rcases h.reads with hn | ⟨b', off', e, hb, hc⟩
  · have := h.len; rw [hn] at this; simp at this; omega
  · cases e
    refine .inr ⟨b, off + t, rfl, hb, fun i hi => ?_⟩
    rw [List.length_drop] at hi
    rw [Nat.add_assoc, hc (t + i) (by omega)]
    simp [List.getD]
theorem Row.take {w : World} {p : Option Addr} {n : Nat} {xs : List Int} (h : Row w p n xs) (t : Nat) (ht : t ≤ n) : Row w p t (xs.take t) := by
  refine ⟨by rw [List.length_take, h.len]; omega, ?_, fun x hx => h.wf x (List.mem_of_mem_take hx), by have := h.small; omega⟩
  rcases h.reads with hn | ⟨b', off', e, hb, hc⟩
  · exact .inl (by rw [hn]; simp)
  · refine .inr ⟨b', off', e, hb, fun i hi => ?_⟩
    rw [List.length_take] at hi
    rw [hc i (by omega)]
    have h1 : i < t := by omega
    simp [List.getD, h1]
theorem turn_facts (k : Int) (n : Nat) (h0 : 0 < n) (hn : n ≤ 17592186044415) : (k.tmod n < 0 → wrap64 (k.tmod n + n) = (tpos k n : Int)) ∧ (¬ k.tmod n < 0 → k.tmod n = (tpos k n : Int)) := by
  have h1 := Int.emod_lt_of_pos k (show (0 : Int) < (n : Int) by omega)
  have h2 := Int.emod_nonneg k (show (n : Int) ≠ 0 by omega)
  have ht : k.tmod n = k % n ∨ k.tmod n = k % n - n := by
    rw [Int.tmod_eq_emod]
    split
    · left; omega
    · right; omega
  have hp : (tpos k n : Int) = k % n := by unfold tpos; omega
  constructor
  · intro hk
    have e : k.tmod n + n = k % n := by rcases ht with h | h <;> omega
    rw [e, hp]
    exact IntWalk.wrap64_in _ (by omega)
  · intro hk
    rcases ht with h | h <;> omega
set_option maxRecDepth 100000 in
theorem r5_turn (p : Option Addr) (c : Nat) (k : Int) (xs : List Int) (n : Nat) (w : World) (hr : Row w p n xs) (h0 : 0 < n) (hc : n ≤ c) (k0 : -9223372036854775808 ≤ k) (k1 : k ≤ 9223372036854775807) :
    Calls Try.prog 25 #[.slice p n c, .int .i64 k] w fun e w' => ∃ v, e = .returned v ∧ Owns w' w.heap.size 24 .u64 v (turnl xs (tpos k n)) ∧ Below w.heap.size w w' := by
  obtain ⟨f1, f2⟩ := turn_facts k n h0 hr.small
  have ht := tpos_lt k n h0
  have HSP := Lib.hid (turn_split xs (tpos k n) (by rw [hr.len]; exact ht))
  generalize tpos k n = t at *
  obtain ⟨b, off, rfl, _⟩ := hr.cell h0
  have HD := Lib.hid (hr.drop t ht)
  have HT := Lib.hid (hr.take t (by omega))
  have HK := Lib.hid (show (([] : List Int) ++ redl (xs.drop t)).length = n - t by rw [List.nil_append, redl_len, HD.out.len])
  have HE := Lib.hid (show ([] : List Int) ++ redl (xs.drop t) ++ redl (xs.take t) = turnl xs t by rw [List.nil_append]; exact HSP.out)
  have HE0 := Lib.hid (show t = 0 → ([] : List Int) ++ redl (xs.drop t) = turnl xs t from fun e => by rw [← HSP.out, e]; simp [redl])
  have hs := hr.small
  have hnz : ((n : Int) == 0) = false := by simp; omega
  have hnz' : ((n : Int) != 0) = true := by simp; omega
  have HO0 := Owns.nil w w.heap.size 24 .u64
  clear hr
  by_cases hk : k.tmod n < 0
  · have hd : decide (k.tmod n < 0) = true := decide_eq_true hk
    have hw := f1 hk
    clear f1 f2 hk
    go_enter Try.func25, Try.ntmps25
    go_wp2_with fail
    refine (c_rred HD.out).mono ?_
    rintro e w1 ⟨q, d, rfl, r1, b1⟩
    have HO1 := Owns.nil w1 w.heap.size 24 .u64
    go_wp2_with (at_builtin; refine append_many Try.underlying22 info_u64 rfl _ _ rfl rfl HO1 rfl r1.len r1.reads b1.size (by simp; omega) (by omega) ?_; intro v' w' hO hb')
    have hB := b1.trans hb'
    have HO := Lib.hid hO
    have HT2 := Lib.hid (HT.out.below hB)
    clear hO HO1 r1 b1 hb'
    refine (c_rred HT2.out).mono ?_
    rintro e w2 ⟨q2, d2, rfl, r2, b2⟩
    have HO2 := Lib.hid (HO.out.below b2)
    have hB2 := hB.trans (b2.mono hB.size)
    clear HO HT2 hB
    by_cases t0 : t = 0
    · subst t0
      have HO3 := HO2.out
      rw [HE0.out rfl] at HO3
      go_wp2_with (at_builtin; refine append_nought Try.underlying22 info_u64 rfl _ _ rfl rfl HO2.out rfl (by rw [HK.out]; omega) ?_)
      go_ret
      exact ⟨_, rfl, HO3, hB2⟩
    · go_wp2_with (at_builtin; refine append_many Try.underlying22 info_u64 rfl _ _ rfl rfl HO2.out rfl r2.len r2.reads hB2.size (by rw [HK.out]; omega) (by omega) ?_; intro v'' w'' hO3 hb'')
      go_ret
      exact ⟨_, rfl, by rw [← HE.out]; exact hO3, hB2.trans hb''⟩
  · have hd : decide (k.tmod n < 0) = false := decide_eq_false hk
    have hw := f2 hk
    have hd2 : decide ((t : Int) < 0) = false := decide_eq_false (by omega)
    clear f1 f2 hk
    go_enter Try.func25, Try.ntmps25
    go_wp2_with fail
    refine (c_rred HD.out).mono ?_
    rintro e w1 ⟨q, d, rfl, r1, b1⟩
    have HO1 := Owns.nil w1 w.heap.size 24 .u64
    go_wp2_with (at_builtin; refine append_many Try.underlying22 info_u64 rfl _ _ rfl rfl HO1 rfl r1.len r1.reads b1.size (by simp; omega) (by omega) ?_; intro v' w' hO hb')
    have hB := b1.trans hb'
    have HO := Lib.hid hO
    have HT2 := Lib.hid (HT.out.below hB)
    clear hO HO1 r1 b1 hb'
    refine (c_rred HT2.out).mono ?_
    rintro e w2 ⟨q2, d2, rfl, r2, b2⟩
    have HO2 := Lib.hid (HO.out.below b2)
    have hB2 := hB.trans (b2.mono hB.size)
    clear HO HT2 hB
    by_cases t0 : t = 0
    · subst t0
      have HO3 := HO2.out
      rw [HE0.out rfl] at HO3
      go_wp2_with (at_builtin; refine append_nought Try.underlying22 info_u64 rfl _ _ rfl rfl HO2.out rfl (by rw [HK.out]; omega) ?_)
      go_ret
      exact ⟨_, rfl, HO3, hB2⟩
    · go_wp2_with (at_builtin; refine append_many Try.underlying22 info_u64 rfl _ _ rfl rfl HO2.out rfl r2.len r2.reads hB2.size (by rw [HK.out]; omega) (by omega) ?_; intro v'' w'' hO3 hb'')
      go_ret
      exact ⟨_, rfl, by rw [← HE.out]; exact hO3, hB2.trans hb''⟩
set_option maxRecDepth 100000 in
theorem r5_turn0 (p : Option Addr) (c : Nat) (k : Int) (w : World) :
    Calls Try.prog 25 #[.slice p 0 c, .int .i64 k] w fun e w' => e = .returned (.slice none 0 0) ∧ w = w' := by
  go_enter Try.func25, Try.ntmps25
  go_wp2_with fail
  go_ret
  exact ⟨rfl, rfl⟩
theorem turnl_nil (t : Nat) : turnl [] t = [] := rfl
theorem turnl_wf (xs : List Int) (t : Nat) : ∀ z ∈ turnl xs t, (Lit.int .u64 z).wf = true := by
  intro z hz
  unfold turnl at hz
  obtain ⟨x, _, rfl⟩ := List.mem_map.1 hz
  exact WalkArith.wf_u64 ⟨fm_lo _, fm_hi' _⟩
theorem revl_wf (xs : List Int) : ∀ z ∈ revl xs, (Lit.int .u64 z).wf = true := by
  intro z hz
  unfold revl at hz
  obtain ⟨x, _, rfl⟩ := List.mem_map.1 hz
  exact WalkArith.wf_u64 ⟨fm_lo _, fm_hi' _⟩
theorem c_rturn {w : World} {p : Option Addr} {n c : Nat} {xs : List Int} {k : Int} (h : Row w p n xs) (hc : n ≤ c) (k0 : -9223372036854775808 ≤ k) (k1 : k ≤ 9223372036854775807) : Calls Try.prog 25 #[.slice p n c, .int .i64 k] w (Gives w n (turnl xs (tpos k n))) := by
  by_cases h0 : n = 0
  · subst h0
    have hx : xs = [] := List.length_eq_zero_iff.1 h.len
    subst hx
    exact (r5_turn0 p c k w).mono fun e w' ⟨he, hw⟩ => by
      subst hw
      exact ⟨none, 0, he, ⟨rfl, .inl rfl, turnl_wf _ _, by omega⟩, Below.refl _ _⟩
  · exact (r5_turn p c k xs n w h (by omega) hc k0 k1).mono fun e w' ⟨v, he, hq, hb⟩ => gives_own he hq hb (turnl_wf _ _) ((turnl_len _ _).trans h.len) h.small
end Go.Proofs.Ytjiedfncamdojaa
