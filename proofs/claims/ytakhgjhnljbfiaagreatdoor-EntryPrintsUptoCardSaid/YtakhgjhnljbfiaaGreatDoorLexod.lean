/- lex.Digits and the reference's; the digits' number. -/
import Derived.Test.YtakhgjhnljbfiaaGreatDoorSheld
import Derived.Lib.AppendIntMem
import Derived.Laws.Concat
namespace Go.Proofs.YtakhgjhnljbfiaaGreatDoor
open Go.ChangeShapes Go.WideShapes Go.ChangeAt Go.RowKit
set_option linter.unusedVariables false
set_option linter.unusedSimpArgs false

theorem pow10_below {w w' : World} {zs : List Int} (h : Lib.TabIs Tryz.prog w "internal/strconv.uint64pow10" .u64 zs) (hb : Below w.heap.size w w') : Lib.TabIs Tryz.prog w' "internal/strconv.uint64pow10" .u64 zs := by
  unfold Lib.TabIs World.var? at h ⊢
  cases hg : Tryz.prog.globalNamed "internal/strconv.uint64pow10" with
  | none => rw [hg] at h; exact h
  | some g =>
    rw [hg] at h
    simp only [Option.bind_some] at h ⊢
    by_cases hlt : g < w.heap.size
    · rw [hb.block g hlt]; exact h
    · rw [Array.getElem?_eq_none (by omega)] at h; cases h

theorem itoa_nat (n : Nat) : Lib.itoa (n : Int) = Lib.decDigits n := by
  unfold Lib.itoa
  rw [if_neg (by omega)]
  rfl
theorem dec_small {n : Nat} (h : n < 10) : Lib.decDigits n = [UInt8.ofNat (48 + n)] := by rw [Lib.decDigits, dif_pos h]
theorem dec_big {n : Nat} (h : ¬ n < 10) : Lib.decDigits n = Lib.decDigits (n / 10) ++ [UInt8.ofNat (48 + n % 10)] := by rw [Lib.decDigits, dif_neg h]
theorem u8_dig {k : Nat} (h : k < 10) : (UInt8.ofNat (48 + k)).toNat = 48 + k := by
  rw [UInt8.toNat_ofNat']; omega
theorem dec_val (n : Nat) : vlL (Lib.decDigits n) = n := by
  induction n using Nat.strongRecOn with
  | _ n ih =>
    by_cases h : n < 10
    · rw [dec_small h]
      show 0 * 10 + ((UInt8.ofNat (48 + n)).toNat - 48) = n
      rw [u8_dig h]; omega
    · rw [dec_big h, vlL_snoc, ih (n / 10) (by omega), u8_dig (by omega)]
      omega
theorem dec_dig (n : Nat) : ∀ b ∈ Lib.decDigits n, 48 ≤ b.toNat ∧ b.toNat ≤ 57 := by
  induction n using Nat.strongRecOn with
  | _ n ih =>
    intro b hb
    by_cases h : n < 10
    · rw [dec_small h, List.mem_singleton] at hb
      rw [hb, u8_dig h]; omega
    · rw [dec_big h, List.mem_append, List.mem_singleton] at hb
      rcases hb with hb | hb
      · exact ih (n / 10) (by omega) b hb
      · rw [hb, u8_dig (by omega)]; omega
theorem dec_head (n : Nat) : ∃ b r, Lib.decDigits n = b :: r ∧ (10 ≤ n → b.toNat ≠ 48) ∧ (n < 10 → r = []) ∧ (1 ≤ n → b.toNat ≠ 48) := by
  induction n using Nat.strongRecOn with
  | _ n ih =>
    by_cases h : n < 10
    · refine ⟨_, _, dec_small h, fun h2 => by omega, fun _ => rfl, fun h1 => by rw [u8_dig h]; omega⟩
    · obtain ⟨b, r, h1, h2, h3, h4⟩ := ih (n / 10) (by omega)
      refine ⟨b, r ++ [UInt8.ofNat (48 + n % 10)], by rw [dec_big h, h1]; rfl, fun _ => h4 (by omega), fun h2 => absurd h2 h, fun _ => h4 (by omega)⟩
theorem dec_len {n : Nat} (h : n ≤ 999999999) : 1 ≤ (Lib.decDigits n).length ∧ (Lib.decDigits n).length ≤ 9 := by
  have aux : ∀ k n : Nat, n < 10 ^ (k + 1) → (Lib.decDigits n).length ≤ k + 1 := by
    intro k
    induction k with
    | zero => intro n hn; rw [dec_small (by simpa using hn)]; simp
    | succ k ih =>
      intro n hn
      by_cases h : n < 10
      · rw [dec_small h]; simp
      · rw [dec_big h, List.length_append]
        have := ih (n / 10) (by rw [Nat.pow_succ] at hn; omega)
        simp; omega
  refine ⟨?_, aux 8 n (by omega)⟩
  obtain ⟨b, r, h1, -⟩ := dec_head n
  rw [h1]; simp

/-- A number's digits are a number's text, and that number. -/
theorem dec_isN {n : Nat} (h : n ≤ 999999999) (s : ByteArray) (hs : s.data.toList = Lib.decDigits n) : IsN s ∧ vl s s.size = n := by
  have hl := dec_len h
  have hsz := Lib.size_eq s
  rw [hs] at hsz
  have hb : ∀ j, j < s.size → 48 ≤ bt s j ∧ bt s j ≤ 57 := fun j hj => by
    have h1 := bt_list s j hj
    rw [h1.2]
    have hm := List.mem_of_getElem? h1.1
    rw [hs] at hm
    exact dec_dig n _ hm
  refine ⟨⟨⟨by omega, by omega, fun ⟨h1, h2⟩ => ?_⟩, hb⟩, ?_⟩
  · obtain ⟨b, r, e1, e2, e3, e4⟩ := dec_head n
    have h10 : 10 ≤ n := by
      by_cases h10 : n < 10
      · rw [e1, e3 h10] at hsz; simp at hsz; omega
      · omega
    have h3 := bt_list s 0 (by omega)
    rw [h3.2] at h1
    have h4 := h3.1
    rw [hs, e1] at h4
    simp at h4
    rw [← h4] at h1
    exact e2 h10 h1
  · unfold vl
    rw [hsz, hs, List.take_length]
    exact dec_val n

def tenS : ByteArray := ⟨#[48, 49, 50, 51, 52, 53, 54, 55, 56, 57]⟩
theorem ten_at : ∀ k : Fin 10, (tenS.extract k.val (k.val + 1)).data.toList = [UInt8.ofNat (48 + k.val)] := by decide +kernel

set_option maxRecDepth 100000 in
set_option maxHeartbeats 4000000 in
theorem ref_digits (N : Nat) (hN : N ≤ 999999999) (w : World) :
    Calls Tryz.prog 36 #[.int .i64 N] w fun e w' => w = w' ∧ ∃ s : ByteArray, s.data.toList = Lib.decDigits N ∧ e = .returned (.string s) := by
  go_enter Tryz.func36, Tryz.ntmps36
  go_wp2
  go_loopw [0, 3] (fun x y wi => ∃ (n : Nat) (t : ByteArray), x = .int .i64 n ∧ y = .string t ∧ n ≤ N ∧ Hid (Lib.decDigits n ++ t.data.toList = Lib.decDigits N) ∧ w = wi) (fun x _ _ => (intOf x).toNat)
  case atStart => exact ⟨N, _, rfl, rfl, Nat.le_refl _, Lib.hid (by simp), rfl⟩
  case round =>
    obtain ⟨n, t, rfl, rfl, hn, HT, rfl⟩ := hrel
    have htl : t.size ≤ 9 := by
      have h1 := (dec_len hN).2
      rw [← HT.out, List.length_append] at h1
      have := Lib.size_eq t; omega
    by_cases h9 : 9 < n
    · have d1 : decide ((n : Int) > 9) = true := decide_eq_true (by omega)
      have d1' : decide (9 < n) = true := decide_eq_true h9
      obtain ⟨r, hr⟩ : ∃ r, n % 10 = r := ⟨_, rfl⟩
      obtain ⟨u, hu⟩ : ∃ u, n / 10 = u := ⟨_, rfl⟩
      have hr10 : r < 10 := by omega
      have hmod : ((n : Int)).tmod 10 = (r : Int) := by
        rw [Int.tmod_eq_emod_of_nonneg (by omega)]; omega
      have hmod' : ((n : Int)) % 10 = (r : Int) := by omega
      have hdiv : ((n : Int)).tdiv 10 = (u : Int) := by
        rw [Int.tdiv_eq_ediv_of_nonneg (by omega)]; omega
      have hdiv' : ((n : Int)) / 10 = (u : Int) := by omega
      have hdg := ten_at ⟨r, hr10⟩
      have hsub := sub_at tenS r (r + 1) (by omega) (by show r + 1 ≤ 10; omega)
      obtain ⟨x, hx⟩ : ∃ x, tenS.extract r (r + 1) = x := ⟨_, rfl⟩
      have hxd : x.data.toList = [UInt8.ofNat (48 + r)] := by rw [← hx]; exact hdg
      rw [hx] at hsub
      simp only [Int.natCast_add, Int.natCast_one] at hsub
      have hxs : x.size = 1 := by rw [Lib.size_eq, hxd]; rfl
      have hadd : ∀ wx : World, (Op.stringOp .add x t).run Tryz.prog wx = .ok (.string (x ++ t)) wx := fun wx => run_string_add_sum wx _ _ (by omega)
      obtain ⟨y, hy⟩ : ∃ y, x ++ t = y := ⟨_, rfl⟩
      rw [hy] at hadd
      have HT2 : Hid (Lib.decDigits u ++ y.data.toList = Lib.decDigits N) := Lib.hid (by
        rw [← hy, ByteArray.data_append, Array.toList_append, hxd, ← HT.out, dec_big (n := n) (by omega), hr, hu, List.append_assoc])
      have hun : u < n := by omega
      unfold tenS at hsub
      clear HT hr hu hdg hx hxd hxs hy
      go_wp2
      go_roundw
      case rel => exact ⟨u, _, rfl, rfl, by omega, HT2, by first | rfl | trivial⟩
      case measure => (first | (simp [intOf]; done) | (simp [intOf]; omega) | (simp only [intOf]; omega))
    · have d1 : decide ((n : Int) > 9) = false := decide_eq_false (by omega)
      have d1' : decide (9 < n) = false := decide_eq_false h9
      have hdg := ten_at ⟨n, by omega⟩
      have hsub := sub_at tenS n (n + 1) (by omega) (by show n + 1 ≤ 10; omega)
      obtain ⟨x, hx⟩ : ∃ x, tenS.extract n (n + 1) = x := ⟨_, rfl⟩
      have hxd : x.data.toList = [UInt8.ofNat (48 + n)] := by rw [← hx]; exact hdg
      rw [hx] at hsub
      simp only [Int.natCast_add, Int.natCast_one] at hsub
      have hxs : x.size = 1 := by rw [Lib.size_eq, hxd]; rfl
      have hadd : ∀ wx : World, (Op.stringOp .add x t).run Tryz.prog wx = .ok (.string (x ++ t)) wx := fun wx => run_string_add_sum wx _ _ (by omega)
      obtain ⟨y, hy⟩ : ∃ y, x ++ t = y := ⟨_, rfl⟩
      rw [hy] at hadd
      have HT2 : Hid (y.data.toList = Lib.decDigits N) := Lib.hid (by
        rw [← hy, ByteArray.data_append, Array.toList_append, hxd, ← HT.out, dec_small (n := n) (by omega)])
      unfold tenS at hsub
      clear HT hdg hx hxd hxs hy
      go_wp2
      go_ret
      exact ⟨rfl, _, HT2.out, rfl⟩

set_option maxRecDepth 100000 in
theorem lex_digits (a : Int) (wa : -9223372036854775808 ≤ a ∧ a ≤ 9223372036854775807) (w : World) (ht : Lib.TabIs Tryz.prog w "internal/strconv.uint64pow10" .u64 Lib.pow10Tab) :
    Calls Tryz.prog 25 #[.int .i64 a] w fun e w' => Below w.heap.size w w' ∧ (((a < 0 ∨ 999999999 < a) ∧ e = .returned (.tuple #[.string ⟨#[]⟩, .int .i64 3])) ∨
      ∃ n : Nat, a = n ∧ n ≤ 999999999 ∧ ∃ s : ByteArray, s.data.toList = Lib.decDigits n ∧ e = .returned (.tuple #[.string s, .int .i64 0])) := by
  have C := Lib.hid (c_strconv_Itoa a wa.1 wa.2 w ht)
  by_cases h0 : a < 0
  · have d1 : decide (a < 0) = true := decide_eq_true h0
    go_enter Tryz.func25, Tryz.ntmps25
    go_wp2
    go_ret2
    first | exact ⟨Below.refl _ _, .inl ⟨.inl h0, rfl⟩⟩ | exact ⟨Below.refl _ _, .inl rfl⟩
  · have d1 : decide (a < 0) = false := decide_eq_false h0
    by_cases h9 : 999999999 < a
    · have d2 : decide (a > 999999999) = true := decide_eq_true h9
      have d2' : decide (999999999 < a) = true := decide_eq_true h9
      go_enter Tryz.func25, Tryz.ntmps25
      go_wp2
      go_ret2
      first | exact ⟨Below.refl _ _, .inl ⟨.inr h9, rfl⟩⟩ | exact ⟨Below.refl _ _, .inl rfl⟩
    · have d2 : decide (a > 999999999) = false := decide_eq_false h9
      have d2' : decide (999999999 < a) = false := decide_eq_false h9
      obtain ⟨n, hn⟩ : ∃ n : Nat, a = n := ⟨a.toNat, by omega⟩
      obtain ⟨s, hs⟩ : ∃ s : ByteArray, (⟨(Lib.itoa a).toArray⟩ : ByteArray) = s := ⟨_, rfl⟩
      have C := Lib.hid (by have := C.out; rw [hs] at this; exact this)
      have HS : Hid (s.data.toList = Lib.decDigits n) := Lib.hid (by rw [← hs, ← itoa_nat, hn])
      have HN : Hid (a = n ∧ n ≤ 999999999) := Lib.hid ⟨hn, by omega⟩
      clear hs hn
      go_enter Tryz.func25, Tryz.ntmps25
      go_wp2_with fail
      refine C.out.mono ?_
      rintro e w1 ⟨rfl, k, os, rfl⟩
      have hb := Lib.below_grow w.heap.size w (Nat.le_refl _) k os
      obtain ⟨w1, hw1⟩ : ∃ w1, Go.Sort.grow (w.drewN k) os = w1 := ⟨_, rfl⟩
      rw [hw1] at hb ⊢
      clear hw1
      go_wp2_with fail
      go_ret2
      exact ⟨hb, .inr ⟨n, HN.out.1, HN.out.2, s, HS.out, rfl⟩⟩
end Go.Proofs.YtakhgjhnljbfiaaGreatDoor
