/- Put together by program (merge2.py): Dtw Dtr Dtv Lexod Txt. -/
import Derived.Lib.AppendIntMem
import Derived.Laws.Concat
import Derived.Test.YtafmiilkdhdngaaGreatDoorR11
import Derived.Test.YtafmiilkdhdngaaGreatDoorR12
/- dtext.word, kindOf; the reference's word. (Seat d: on D11 and Lexdd.) -/
namespace Go.Proofs.YtafmiilkdhdngaaGreatDoor
open Go.ChangeShapes Go.WideShapes Go.ChangeAt Go.RowKit
set_option linter.unusedVariables false
set_option linter.unusedSimpArgs false

/-- A kind's word. -/
def wrd (k : Int) : ByteArray := if k = 1 then ⟨#[110, 97, 105, 118, 101]⟩ else if k = 2 then ⟨#[115, 109, 97, 108, 108]⟩ else if k = 3 then ⟨#[115, 116, 111, 99, 107]⟩ else if k = 4 then ⟨#[115, 112, 108, 105, 116]⟩ else if k = 5 then ⟨#[103, 111, 111, 100]⟩ else if k = 6 then ⟨#[114, 97, 100, 101, 114]⟩ else if k = 7 then ⟨#[98, 108, 117, 101]⟩ else ⟨#[]⟩
theorem wrd_apart : ∀ i j : Fin 8, (wrd i.val).data = (wrd j.val).data → i = j := by decide +kernel
theorem wrd_inj {i j : Int} (hi : 1 ≤ i ∧ i ≤ 7) (hj : 1 ≤ j ∧ j ≤ 7) (h : wrd i = wrd j) : i = j := by
  have := wrd_apart ⟨i.toNat, by omega⟩ ⟨j.toNat, by omega⟩ (by
    show (wrd ((i.toNat : Nat) : Int)).data = (wrd ((j.toNat : Nat) : Int)).data
    rw [Int.toNat_of_nonneg (by omega), Int.toNat_of_nonneg (by omega), h])
  have h2 : i.toNat = j.toNat := congrArg Fin.val this
  omega

set_option maxRecDepth 100000 in
theorem d_word (k : Int) (w : World) : Calls Tryz.prog 85 #[.int .i64 k] w fun e w' => e = .returned (.string (wrd k)) ∧ w = w' := by
  go_enter Tryz.func85, Tryz.ntmps85
  go_wp2
  all_goals go_ret
  all_goals (refine ⟨?_, rfl⟩; simp_all [wrd])

theorem bl_eq {x y : ByteArray} : (x.toList == y.toList) = decide (x = y) := by
  rw [Lib.toList_data, Lib.toList_data]
  by_cases h : x = y
  · subst h; simp
  · rw [decide_eq_false h, beq_eq_false_iff_ne]
    intro e
    exact h (ByteArray.ext (Array.toList_inj.1 e))

set_option maxRecDepth 100000 in
/-- A word's kind; 0: none. -/
theorem d_kindOf (s : ByteArray) (w : World) : Calls Tryz.prog 92 #[.string s] w fun e w' => w = w' ∧ ((∃ k : Int, 1 ≤ k ∧ k ≤ 7 ∧ wrd k = s ∧ e = .returned (.int .i64 k)) ∨ ((∀ k : Int, 1 ≤ k → k ≤ 7 → wrd k ≠ s) ∧ e = .returned (.int .i64 0))) := by
  go_enter Tryz.func92, Tryz.ntmps92
  go_wp2
  go_loopw [3] (fun x wi => ∃ j : Int, x = .int .i64 j ∧ 1 ≤ j ∧ j ≤ 8 ∧ Hid (∀ k : Int, 1 ≤ k → k < j → wrd k ≠ s) ∧ w = wi) (fun x _ => (8 - intOf x).toNat)
  case atStart => exact ⟨1, rfl, by omega, by omega, Lib.hid (fun k h1 h2 => by omega), rfl⟩
  case round =>
    obtain ⟨j, rfl, h1, h8, HN, rfl⟩ := hrel
    by_cases hj : j ≤ 7
    · have d1 : decide (j ≤ 7) = true := decide_eq_true hj
      obtain ⟨x, hx⟩ : ∃ x, wrd j = x := ⟨_, rfl⟩
      have C := Lib.hid (d_word j w)
      have C := Lib.hid (by have := C.out; rw [hx] at this; exact this)
      have he := bl_eq (x := x) (y := s)
      by_cases hxs : x = s
      · have e1 : (x.toList == s.toList) = true := by rw [he]; exact decide_eq_true hxs
        have HK : Hid (wrd j = s) := Lib.hid (by rw [hx, hxs])
        clear he hxs hx
        go_wp2_with fail
        refine C.out.mono ?_
        rintro e w1 ⟨rfl, rfl⟩
        go_wp2_with fail
        go_ret
        exact ⟨rfl, .inl ⟨j, h1, hj, HK.out, rfl⟩⟩
      · have e1 : (x.toList == s.toList) = false := by rw [he]; exact decide_eq_false hxs
        have HN2 : Hid (∀ k : Int, 1 ≤ k → k < j + 1 → wrd k ≠ s) := Lib.hid (fun k k1 k2 => by
          by_cases e : k = j
          · rw [e, hx]; exact hxs
          · exact HN.out k k1 (by omega))
        clear he hxs hx HN
        go_wp2_with fail
        refine C.out.mono ?_
        rintro e w1 ⟨rfl, rfl⟩
        go_wp2_with fail
        go_roundw
        case rel => exact ⟨j + 1, rfl, by omega, by omega, HN2, by first | rfl | trivial⟩
        case measure => (first | (simp [intOf]; done) | (simp [intOf]; omega) | (simp only [intOf]; omega))
    · have d1 : decide (j ≤ 7) = false := decide_eq_false hj
      have HN2 : Hid (∀ k : Int, 1 ≤ k → k ≤ 7 → wrd k ≠ s) := Lib.hid (fun k k1 k2 => HN.out k k1 (by omega))
      clear HN
      go_wp2
      go_ret
      exact ⟨rfl, .inr ⟨HN2.out, rfl⟩⟩
end Go.Proofs.YtafmiilkdhdngaaGreatDoor
/- The reader's next and is. (Seat d.) -/
namespace Go.Proofs.YtafmiilkdhdngaaGreatDoor
open Go.ChangeShapes Go.WideShapes Go.ChangeAt Go.RowKit
set_option linter.unusedVariables false
set_option linter.unusedSimpArgs false

set_option maxRecDepth 100000 in
set_option maxHeartbeats 4000000 in
/-- At the end there is no text. -/
theorem d_next_end (r : Nat) (a : Option Addr) (n c : Nat) (w : World) (h0 : w.cell? ⟨r, 0, none⟩ = some (.slice a n c)) (h1 : w.cell? ⟨r, 1, none⟩ = some (.int .i64 n)) :
    Calls Tryz.prog 93 #[.pointer (some ⟨r, 0, none⟩)] w fun e w' => e = .returned (.string ⟨#[]⟩) ∧ ∃ q, w' = w.drewN q := by
  go_enter Tryz.func93, Tryz.ntmps93
  go_wp2_with fail
  go_region
  go_wp2_with fail
  go_ret
  exact ⟨rfl, 1, rfl⟩

set_option maxRecDepth 100000 in
set_option maxHeartbeats 4000000 in
/-- The next token's text. -/
theorem d_next (r g : Nat) (n c at_ : Nat) (t : ByteArray) (w : World) (hat : at_ < n) (hn : n ≤ 100000) (hgr : g ≠ r) (h0 : w.cell? ⟨r, 0, none⟩ = some (.slice (some ⟨g, 0, none⟩) n c)) (h1 : w.cell? ⟨r, 1, none⟩ = some (.int .i64 at_)) (hf : w.frozen? ⟨r, 1, none⟩ = false) (ht : w.cell? ⟨g, at_ * 3 + 1, none⟩ = some (.string t)) :
    Calls Tryz.prog 93 #[.pointer (some ⟨r, 0, none⟩)] w fun e w' => e = .returned (.string t) ∧ ∃ q, w' = (w.setCell ⟨r, 1, none⟩ (.int .i64 ((at_ : Int) + 1))).drewN q := by
  have d1 : ((at_ : Int) == (n : Int)) = false := by rw [beq_eq_false_iff_ne]; omega
  have d1' : (at_ == n) = false := by rw [beq_eq_false_iff_ne]; omega
  go_enter Tryz.func93, Tryz.ntmps93
  go_wp2_with fail
  go_region
  go_wp2_with fail
  go_region
  go_wp2_with fail
  go_ret
  exact ⟨rfl, 2, rfl⟩

set_option maxRecDepth 100000 in
set_option maxHeartbeats 4000000 in
/-- At the end there is no sign. -/
theorem d_is_end (r : Nat) (a : Option Addr) (n c : Nat) (sg : ByteArray) (w : World) (h0 : w.cell? ⟨r, 0, none⟩ = some (.slice a n c)) (h1 : w.cell? ⟨r, 1, none⟩ = some (.int .i64 n)) :
    Calls Tryz.prog 94 #[.pointer (some ⟨r, 0, none⟩), .string sg] w fun e w' => e = .returned (.bool false) ∧ ∃ q, w' = w.drewN q := by
  go_enter Tryz.func94, Tryz.ntmps94
  go_wp2_with fail
  go_region
  go_wp2_with fail
  go_ret
  exact ⟨rfl, 1, rfl⟩

set_option maxRecDepth 100000 in
set_option maxHeartbeats 4000000 in
/-- Is the next token that sign? -/
theorem d_is (r g : Nat) (n c at_ : Nat) (t sg : ByteArray) (w : World) (hat : at_ < n) (hn : n ≤ 100000) (hgr : g ≠ r) (h0 : w.cell? ⟨r, 0, none⟩ = some (.slice (some ⟨g, 0, none⟩) n c)) (h1 : w.cell? ⟨r, 1, none⟩ = some (.int .i64 at_)) (hf : w.frozen? ⟨r, 1, none⟩ = false) (ht : w.cell? ⟨g, at_ * 3 + 1, none⟩ = some (.string t)) :
    Calls Tryz.prog 94 #[.pointer (some ⟨r, 0, none⟩), .string sg] w fun e w' => (t = sg ∧ e = .returned (.bool true) ∧ ∃ q, w' = (w.setCell ⟨r, 1, none⟩ (.int .i64 ((at_ : Int) + 1))).drewN q) ∨ (t ≠ sg ∧ e = .returned (.bool false) ∧ ∃ q, w' = w.drewN q) := by
  have d1 : ((at_ : Int) == (n : Int)) = false := by rw [beq_eq_false_iff_ne]; omega
  have d1' : (at_ == n) = false := by rw [beq_eq_false_iff_ne]; omega
  have he := bl_eq (x := t) (y := sg)
  by_cases hts : t = sg
  · subst hts
    clear he
    go_enter Tryz.func94, Tryz.ntmps94
    go_wp2_with fail
    go_region
    go_wp2_with fail
    go_ret
    first | exact .inl ⟨rfl, rfl, 1, rfl⟩ | exact .inl ⟨trivial, rfl, 1, rfl⟩ | exact .inl ⟨rfl, 1, rfl⟩
  · have HX : Hid (t ≠ sg) := Lib.hid hts
    rw [decide_eq_false hts] at he
    have he2 : (t.toList != sg.toList) = true := by simp [bne, he]
    clear hts
    go_enter Tryz.func94, Tryz.ntmps94
    go_wp2_with fail
    go_region
    go_wp2_with fail
    go_ret
    exact .inr ⟨HX.out, rfl, 1, rfl⟩
end Go.Proofs.YtafmiilkdhdngaaGreatDoor
/- The reference's word; lex.Digits and Num over D11 come by Lexnd. (Seat d.) -/
namespace Go.Proofs.YtafmiilkdhdngaaGreatDoor
open Go.ChangeShapes Go.WideShapes Go.ChangeAt Go.RowKit
set_option linter.unusedVariables false
set_option linter.unusedSimpArgs false

set_option maxRecDepth 100000 in
theorem d_word23 (k : Int) (h : 0 ≤ k ∧ k ≤ 7) (w : World) : Calls Tryz.prog 74 #[.int .i64 k] w fun e w' => e = .returned (.string (wrd k)) ∧ Below w.heap.size w w' := by
  have hk : k = 0 ∨ k = 1 ∨ k = 2 ∨ k = 3 ∨ k = 4 ∨ k = 5 ∨ k = 6 ∨ k = 7 := by omega
  rcases hk with rfl | rfl | rfl | rfl | rfl | rfl | rfl | rfl
  all_goals
    go_enter Tryz.func74, Tryz.ntmps74
    go_wp2
    go_ret
    exact ⟨rfl, (Below.refl _ _).alloc (Nat.le_refl _) _⟩
end Go.Proofs.YtafmiilkdhdngaaGreatDoor
/- lex.Digits and the reference's; the digits' number. -/
namespace Go.Proofs.YtafmiilkdhdngaaGreatDoor
open Go.ChangeShapes Go.WideShapes Go.ChangeAt Go.RowKit
set_option linter.unusedVariables false
set_option linter.unusedSimpArgs false

theorem pow10_below {w w' : World} {zs : List Int} (h : Lib.TabIs Tryz.prog w "internal/strconv.uint64pow10" .u64 zs) (hb : Below w.heap.size w w') : Lib.TabIs Tryz.prog w' "internal/strconv.uint64pow10" .u64 zs := by
  unfold Lib.TabIs World.var? at h ⊢
  cases hg : Tryz.prog.globalNamed "internal/strconv.uint64pow10" with
  | none => rw [hg] at h; exact h
  | some g =>
    rw [hg] at h
    simp only [Option.bind_some] at h ⊢
    by_cases hlt : g < w.heap.size
    · rw [hb.block g hlt]; exact h
    · rw [Array.getElem?_eq_none (by omega)] at h; cases h

theorem itoa_nat (n : Nat) : Lib.itoa (n : Int) = Lib.decDigits n := by
  unfold Lib.itoa
  rw [if_neg (by omega)]
  rfl
theorem dec_small {n : Nat} (h : n < 10) : Lib.decDigits n = [UInt8.ofNat (48 + n)] := by rw [Lib.decDigits, dif_pos h]
theorem dec_big {n : Nat} (h : ¬ n < 10) : Lib.decDigits n = Lib.decDigits (n / 10) ++ [UInt8.ofNat (48 + n % 10)] := by rw [Lib.decDigits, dif_neg h]
theorem u8_dig {k : Nat} (h : k < 10) : (UInt8.ofNat (48 + k)).toNat = 48 + k := by
  rw [UInt8.toNat_ofNat']; omega
theorem dec_val (n : Nat) : vlL (Lib.decDigits n) = n := by
  induction n using Nat.strongRecOn with
  | _ n ih =>
    by_cases h : n < 10
    · rw [dec_small h]
      show 0 * 10 + ((UInt8.ofNat (48 + n)).toNat - 48) = n
      rw [u8_dig h]; omega
    · rw [dec_big h, vlL_snoc, ih (n / 10) (by omega), u8_dig (by omega)]
      omega
theorem dec_dig (n : Nat) : ∀ b ∈ Lib.decDigits n, 48 ≤ b.toNat ∧ b.toNat ≤ 57 := by
  induction n using Nat.strongRecOn with
  | _ n ih =>
    intro b hb
    by_cases h : n < 10
    · rw [dec_small h, List.mem_singleton] at hb
      rw [hb, u8_dig h]; omega
    · rw [dec_big h, List.mem_append, List.mem_singleton] at hb
      rcases hb with hb | hb
      · exact ih (n / 10) (by omega) b hb
      · rw [hb, u8_dig (by omega)]; omega
theorem dec_head (n : Nat) : ∃ b r, Lib.decDigits n = b :: r ∧ (10 ≤ n → b.toNat ≠ 48) ∧ (n < 10 → r = []) ∧ (1 ≤ n → b.toNat ≠ 48) := by
  induction n using Nat.strongRecOn with
  | _ n ih =>
    by_cases h : n < 10
    · refine ⟨_, _, dec_small h, fun h2 => by omega, fun _ => rfl, fun h1 => by rw [u8_dig h]; omega⟩
    · obtain ⟨b, r, h1, h2, h3, h4⟩ := ih (n / 10) (by omega)
      refine ⟨b, r ++ [UInt8.ofNat (48 + n % 10)], by rw [dec_big h, h1]; rfl, fun _ => h4 (by omega), fun h2 => absurd h2 h, fun _ => h4 (by omega)⟩
theorem dec_len {n : Nat} (h : n ≤ 999999999) : 1 ≤ (Lib.decDigits n).length ∧ (Lib.decDigits n).length ≤ 9 := by
  have aux : ∀ k n : Nat, n < 10 ^ (k + 1) → (Lib.decDigits n).length ≤ k + 1 := by
    intro k
    induction k with
    | zero => intro n hn; rw [dec_small (by simpa using hn)]; simp
    | succ k ih =>
      intro n hn
      by_cases h : n < 10
      · rw [dec_small h]; simp
      · rw [dec_big h, List.length_append]
        have := ih (n / 10) (by rw [Nat.pow_succ] at hn; omega)
        simp; omega
  refine ⟨?_, aux 8 n (by omega)⟩
  obtain ⟨b, r, h1, -⟩ := dec_head n
  rw [h1]; simp

/-- A number's digits are a number's text, and that number. -/
theorem dec_isN {n : Nat} (h : n ≤ 999999999) (s : ByteArray) (hs : s.data.toList = Lib.decDigits n) : IsN s ∧ vl s s.size = n := by
  have hl := dec_len h
  have hsz := Lib.size_eq s
  rw [hs] at hsz
  have hb : ∀ j, j < s.size → 48 ≤ bt s j ∧ bt s j ≤ 57 := fun j hj => by
    have h1 := bt_list s j hj
    rw [h1.2]
    have hm := List.mem_of_getElem? h1.1
    rw [hs] at hm
    exact dec_dig n _ hm
  refine ⟨⟨⟨by omega, by omega, fun ⟨h1, h2⟩ => ?_⟩, hb⟩, ?_⟩
  · obtain ⟨b, r, e1, e2, e3, e4⟩ := dec_head n
    have h10 : 10 ≤ n := by
      by_cases h10 : n < 10
      · rw [e1, e3 h10] at hsz; simp at hsz; omega
      · omega
    have h3 := bt_list s 0 (by omega)
    rw [h3.2] at h1
    have h4 := h3.1
    rw [hs, e1] at h4
    simp at h4
    rw [← h4] at h1
    exact e2 h10 h1
  · unfold vl
    rw [hsz, hs, List.take_length]
    exact dec_val n

def tenS : ByteArray := ⟨#[48, 49, 50, 51, 52, 53, 54, 55, 56, 57]⟩
theorem ten_at : ∀ k : Fin 10, (tenS.extract k.val (k.val + 1)).data.toList = [UInt8.ofNat (48 + k.val)] := by decide +kernel

set_option maxRecDepth 100000 in
set_option maxHeartbeats 4000000 in
theorem ref_digits (N : Nat) (hN : N ≤ 999999999) (w : World) :
    Calls Tryz.prog 49 #[.int .i64 N] w fun e w' => w = w' ∧ ∃ s : ByteArray, s.data.toList = Lib.decDigits N ∧ e = .returned (.string s) := by
  go_enter Tryz.func49, Tryz.ntmps49
  go_wp2
  go_loopw [0, 3] (fun x y wi => ∃ (n : Nat) (t : ByteArray), x = .int .i64 n ∧ y = .string t ∧ n ≤ N ∧ Hid (Lib.decDigits n ++ t.data.toList = Lib.decDigits N) ∧ w = wi) (fun x _ _ => (intOf x).toNat)
  case atStart => exact ⟨N, _, rfl, rfl, Nat.le_refl _, Lib.hid (by simp), rfl⟩
  case round =>
    obtain ⟨n, t, rfl, rfl, hn, HT, rfl⟩ := hrel
    have htl : t.size ≤ 9 := by
      have h1 := (dec_len hN).2
      rw [← HT.out, List.length_append] at h1
      have := Lib.size_eq t; omega
    by_cases h9 : 9 < n
    · have d1 : decide ((n : Int) > 9) = true := decide_eq_true (by omega)
      have d1' : decide (9 < n) = true := decide_eq_true h9
      obtain ⟨r, hr⟩ : ∃ r, n % 10 = r := ⟨_, rfl⟩
      obtain ⟨u, hu⟩ : ∃ u, n / 10 = u := ⟨_, rfl⟩
      have hr10 : r < 10 := by omega
      have hmod : ((n : Int)).tmod 10 = (r : Int) := by
        rw [Int.tmod_eq_emod_of_nonneg (by omega)]; omega
      have hmod' : ((n : Int)) % 10 = (r : Int) := by omega
      have hdiv : ((n : Int)).tdiv 10 = (u : Int) := by
        rw [Int.tdiv_eq_ediv_of_nonneg (by omega)]; omega
      have hdiv' : ((n : Int)) / 10 = (u : Int) := by omega
      have hdg := ten_at ⟨r, hr10⟩
      have hsub := sub_at tenS r (r + 1) (by omega) (by show r + 1 ≤ 10; omega)
      obtain ⟨x, hx⟩ : ∃ x, tenS.extract r (r + 1) = x := ⟨_, rfl⟩
      have hxd : x.data.toList = [UInt8.ofNat (48 + r)] := by rw [← hx]; exact hdg
      rw [hx] at hsub
      simp only [Int.natCast_add, Int.natCast_one] at hsub
      have hxs : x.size = 1 := by rw [Lib.size_eq, hxd]; rfl
      have hadd : ∀ wx : World, (Op.stringOp .add x t).run Tryz.prog wx = .ok (.string (x ++ t)) wx := fun wx => run_string_add_sum wx _ _ (by omega)
      obtain ⟨y, hy⟩ : ∃ y, x ++ t = y := ⟨_, rfl⟩
      rw [hy] at hadd
      have HT2 : Hid (Lib.decDigits u ++ y.data.toList = Lib.decDigits N) := Lib.hid (by
        rw [← hy, ByteArray.data_append, Array.toList_append, hxd, ← HT.out, dec_big (n := n) (by omega), hr, hu, List.append_assoc])
      have hun : u < n := by omega
      unfold tenS at hsub
      clear HT hr hu hdg hx hxd hxs hy
      go_wp2
      go_roundw
      case rel => exact ⟨u, _, rfl, rfl, by omega, HT2, by first | rfl | trivial⟩
      case measure => (first | (simp [intOf]; done) | (simp [intOf]; omega) | (simp only [intOf]; omega))
    · have d1 : decide ((n : Int) > 9) = false := decide_eq_false (by omega)
      have d1' : decide (9 < n) = false := decide_eq_false h9
      have hdg := ten_at ⟨n, by omega⟩
      have hsub := sub_at tenS n (n + 1) (by omega) (by show n + 1 ≤ 10; omega)
      obtain ⟨x, hx⟩ : ∃ x, tenS.extract n (n + 1) = x := ⟨_, rfl⟩
      have hxd : x.data.toList = [UInt8.ofNat (48 + n)] := by rw [← hx]; exact hdg
      rw [hx] at hsub
      simp only [Int.natCast_add, Int.natCast_one] at hsub
      have hxs : x.size = 1 := by rw [Lib.size_eq, hxd]; rfl
      have hadd : ∀ wx : World, (Op.stringOp .add x t).run Tryz.prog wx = .ok (.string (x ++ t)) wx := fun wx => run_string_add_sum wx _ _ (by omega)
      obtain ⟨y, hy⟩ : ∃ y, x ++ t = y := ⟨_, rfl⟩
      rw [hy] at hadd
      have HT2 : Hid (y.data.toList = Lib.decDigits N) := Lib.hid (by
        rw [← hy, ByteArray.data_append, Array.toList_append, hxd, ← HT.out, dec_small (n := n) (by omega)])
      unfold tenS at hsub
      clear HT hdg hx hxd hxs hy
      go_wp2
      go_ret
      exact ⟨rfl, _, HT2.out, rfl⟩

set_option maxRecDepth 100000 in
theorem lex_digits (a : Int) (wa : -9223372036854775808 ≤ a ∧ a ≤ 9223372036854775807) (w : World) (ht : Lib.TabIs Tryz.prog w "internal/strconv.uint64pow10" .u64 Lib.pow10Tab) :
    Calls Tryz.prog 38 #[.int .i64 a] w fun e w' => Below w.heap.size w w' ∧ (((a < 0 ∨ 999999999 < a) ∧ e = .returned (.tuple #[.string ⟨#[]⟩, .int .i64 3])) ∨
      ∃ n : Nat, a = n ∧ n ≤ 999999999 ∧ ∃ s : ByteArray, s.data.toList = Lib.decDigits n ∧ e = .returned (.tuple #[.string s, .int .i64 0])) := by
  have C := Lib.hid (c_strconv_Itoa a wa.1 wa.2 w ht)
  by_cases h0 : a < 0
  · have d1 : decide (a < 0) = true := decide_eq_true h0
    go_enter Tryz.func38, Tryz.ntmps38
    go_wp2
    go_ret2
    first | exact ⟨Below.refl _ _, .inl ⟨.inl h0, rfl⟩⟩ | exact ⟨Below.refl _ _, .inl rfl⟩
  · have d1 : decide (a < 0) = false := decide_eq_false h0
    by_cases h9 : 999999999 < a
    · have d2 : decide (a > 999999999) = true := decide_eq_true h9
      have d2' : decide (999999999 < a) = true := decide_eq_true h9
      go_enter Tryz.func38, Tryz.ntmps38
      go_wp2
      go_ret2
      first | exact ⟨Below.refl _ _, .inl ⟨.inr h9, rfl⟩⟩ | exact ⟨Below.refl _ _, .inl rfl⟩
    · have d2 : decide (a > 999999999) = false := decide_eq_false h9
      have d2' : decide (999999999 < a) = false := decide_eq_false h9
      obtain ⟨n, hn⟩ : ∃ n : Nat, a = n := ⟨a.toNat, by omega⟩
      obtain ⟨s, hs⟩ : ∃ s : ByteArray, (⟨(Lib.itoa a).toArray⟩ : ByteArray) = s := ⟨_, rfl⟩
      have C := Lib.hid (by have := C.out; rw [hs] at this; exact this)
      have HS : Hid (s.data.toList = Lib.decDigits n) := Lib.hid (by rw [← hs, ← itoa_nat, hn])
      have HN : Hid (a = n ∧ n ≤ 999999999) := Lib.hid ⟨hn, by omega⟩
      clear hs hn
      go_enter Tryz.func38, Tryz.ntmps38
      go_wp2_with fail
      refine C.out.mono ?_
      rintro e w1 ⟨rfl, k, os, rfl⟩
      have hb := Lib.below_grow w.heap.size w (Nat.le_refl _) k os
      obtain ⟨w1, hw1⟩ : ∃ w1, Go.Sort.grow (w.drewN k) os = w1 := ⟨_, rfl⟩
      rw [hw1] at hb ⊢
      clear hw1
      go_wp2_with fail
      go_ret2
      exact ⟨hb, .inr ⟨n, HN.out.1, HN.out.2, s, HS.out, rfl⟩⟩
end Go.Proofs.YtafmiilkdhdngaaGreatDoor
/- The texts of trees, as bytes and as tokens; heads of nodes. -/
namespace Go.Proofs.YtafmiilkdhdngaaGreatDoor
open Go.ChangeShapes Go.WideShapes Go.ChangeAt Go.RowKit
set_option linter.unusedVariables false
set_option linter.unusedSimpArgs false

/-- A number's digits, as a list. -/
def IsNL (D : List UInt8) : Prop := (1 ≤ D.length ∧ D.length ≤ 9 ∧ ¬ (D.head? = some 48 ∧ 1 < D.length)) ∧ ∀ b ∈ D, 48 ≤ b.toNat ∧ b.toNat ≤ 57
theorem bt_mem {s : ByteArray} {b : UInt8} (h : b ∈ s.data.toList) : ∃ i, i < s.size ∧ bt s i = b.toNat := by
  obtain ⟨i, hi, e⟩ := List.getElem_of_mem h
  have hs : i < s.size := by rw [Lib.size_eq]; exact hi
  refine ⟨i, hs, ?_⟩
  have h1 := bt_list s i hs
  rw [h1.2]
  have h2 := h1.1
  rw [List.getElem?_eq_getElem hi, e] at h2
  rw [← Option.some.inj h2]
theorem bt_head {s : ByteArray} (h : 0 < s.size) : s.data.toList.head? = some 48 ↔ bt s 0 = 48 := by
  have h1 := bt_list s 0 h
  rw [List.head?_eq_getElem?, h1.1, h1.2]
  constructor
  · intro e; rw [Option.some.inj e]; rfl
  · intro e; congr 1; exact UInt8.toNat_inj.1 e
theorem isN_list (s : ByteArray) : IsN s ↔ IsNL s.data.toList := by
  have hz := Lib.size_eq s
  unfold IsN IsNL
  rw [← hz]
  constructor
  · rintro ⟨⟨h1, h2, h3⟩, hd⟩
    refine ⟨⟨h1, h2, fun ⟨h4, h5⟩ => h3 ⟨(bt_head h1).1 h4, h5⟩⟩, fun b hb => ?_⟩
    obtain ⟨i, hi, e⟩ := bt_mem hb
    rw [← e]; exact hd i hi
  · rintro ⟨⟨h1, h2, h3⟩, hd⟩
    refine ⟨⟨h1, h2, fun ⟨h4, h5⟩ => h3 ⟨(bt_head h1).2 h4, h5⟩⟩, fun i hi => ?_⟩
    have h4 := bt_list s i hi
    rw [h4.2]
    exact hd _ (List.mem_of_getElem? h4.1)
theorem vl_all (s : ByteArray) : vl s s.size = vlL s.data.toList := by
  unfold vl; rw [Lib.size_eq, List.take_length]
theorem vlL_from : ∀ (l : List UInt8) (a : Nat), a ≤ l.foldl (fun a b => a * 10 + (b.toNat - 48)) a
  | [], a => Nat.le_refl a
  | b :: l, a => Nat.le_trans (by omega) (vlL_from l (a * 10 + (b.toNat - 48)))
theorem vlL_pos {b : UInt8} {l : List UInt8} (h : 48 < b.toNat) : 1 ≤ vlL (b :: l) := by
  have := vlL_from l (0 * 10 + (b.toNat - 48))
  unfold vlL
  rw [List.foldl_cons]
  omega
theorem dec_of : ∀ (m : Nat) (D : List UInt8), D.length = m → 1 ≤ m → (∀ b ∈ D, 48 ≤ b.toNat ∧ b.toNat ≤ 57) → ¬ (D.head? = some 48 ∧ 1 < D.length) → Lib.decDigits (vlL D) = D := by
  intro m
  induction m with
  | zero => intro D _ h; omega
  | succ m ih =>
    intro D hl _ hd hh
    rcases List.eq_nil_or_concat D with rfl | ⟨E, b, hE⟩
    · simp at hl
    · rw [List.concat_eq_append] at hE
      subst hE
      have hb := hd b (by simp)
      have hm : E.length = m := by simpa using hl
      rw [vlL_snoc]
      cases E with
      | nil =>
        rw [dec_small (by show 0 * 10 + _ < 10; omega)]
        simp only [List.nil_append, List.cons.injEq, and_true]
        apply UInt8.toNat_inj.1
        rw [u8_dig (by show 0 * 10 + _ < 10; omega)]
        show 48 + (0 * 10 + (b.toNat - 48)) = b.toNat
        omega
      | cons e E =>
        have hne : e ≠ 48 := fun h => hh ⟨by simp [h], by simp⟩
        have he := hd e (by simp)
        have hp : 1 ≤ vlL (e :: E) := vlL_pos (by
          have : e.toNat ≠ 48 := fun h => hne (UInt8.toNat_inj.1 h)
          omega)
        have := ih (e :: E) hm (by rw [← hm]; simp) (fun x hx => hd x (by simp only [List.mem_append]; exact .inl hx)) (fun ⟨h, _⟩ => hne (by simpa using h))
        rw [dec_big (by omega), show (vlL (e :: E) * 10 + (b.toNat - 48)) / 10 = vlL (e :: E) by omega, show (vlL (e :: E) * 10 + (b.toNat - 48)) % 10 = b.toNat - 48 by omega, this]
        congr 2
        apply UInt8.toNat_inj.1
        rw [u8_dig (by omega)]; omega
theorem isNL_dec {D : List UInt8} (h : IsNL D) : Lib.decDigits (vlL D) = D ∧ vlL D ≤ 999999999 := by
  refine ⟨dec_of D.length D rfl h.1.1 h.2 h.1.2.2, ?_⟩
  have h1 : IsN ⟨D.toArray⟩ := (isN_list _).2 (by simpa using h)
  have h2 := vl_small (Nat.le_refl _) h1.1.2.1 h1.2
  rw [vl_all] at h2
  have : vlL D < 1000000000 := by simpa using h2
  omega
theorem dec_isNL {n : Nat} (h : n ≤ 999999999) : IsNL (Lib.decDigits n) ∧ vlL (Lib.decDigits n) = n := by
  refine ⟨?_, dec_val n⟩
  have := (isN_list ⟨(Lib.decDigits n).toArray⟩).1 (dec_isN h _ (by simp)).1
  simpa using this

/-- A node's head, as bytes and as tokens. -/
def hdB (k n : Int) : List UInt8 := (wrd k).data.toList ++ Lib.decDigits n.toNat
def hdT (k n : Int) : List ByteArray := [wrd k, ⟨(Lib.decDigits n.toNat).toArray⟩]
theorem ba_ext {x y : ByteArray} (h : x.data.toList = y.data.toList) : x = y := ByteArray.ext (Array.toList_inj.1 h)

open Classical in
noncomputable def HT : List ByteArray → Option (Int × Int × List ByteArray)
  | w :: d :: z => if h : (∃ k : Int, (1 ≤ k ∧ k ≤ 7) ∧ wrd k = w) ∧ IsN d then some (h.1.choose, ((vl d d.size : Nat) : Int), z) else none
  | _ => none
theorem HT_yes {k : Int} {d : ByteArray} {z : List ByteArray} (hk : 1 ≤ k ∧ k ≤ 7) (hd : IsN d) : HT (wrd k :: d :: z) = some (k, ((vl d d.size : Nat) : Int), z) := by
  have h : (∃ k' : Int, (1 ≤ k' ∧ k' ≤ 7) ∧ wrd k' = wrd k) ∧ IsN d := ⟨⟨k, hk, rfl⟩, hd⟩
  rw [HT, dif_pos h, wrd_inj h.1.choose_spec.1 hk h.1.choose_spec.2]
theorem HT_word {w d : ByteArray} {z : List ByteArray} (h : ∀ k : Int, 1 ≤ k → k ≤ 7 → wrd k ≠ w) : HT (w :: d :: z) = none := by
  rw [HT, dif_neg]
  rintro ⟨⟨k, hk, e⟩, -⟩
  exact h k hk.1 hk.2 e
theorem HT_num {w d : ByteArray} {z : List ByteArray} (h : ¬ IsN d) : HT (w :: d :: z) = none := by
  rw [HT, dif_neg]
  exact fun e => h e.2
theorem HT_parts {ts : List ByteArray} {k n : Int} {z : List ByteArray} (h : HT ts = some (k, n, z)) : ∃ d, ts = wrd k :: d :: z ∧ (1 ≤ k ∧ k ≤ 7) ∧ IsN d ∧ n = ((vl d d.size : Nat) : Int) := by
  match ts, h with
  | [], h => simp [HT] at h
  | [_], h => simp [HT] at h
  | w :: d :: z', h =>
    rw [HT] at h
    split at h
    · rename_i hc
      simp only [Option.some.injEq, Prod.mk.injEq] at h
      obtain ⟨h1, h2, rfl⟩ := h
      have := hc.1.choose_spec
      rw [h1] at this
      exact ⟨d, by rw [this.2], this.1, hc.2, h2.symm⟩
    · cases h
theorem HT_less (ts : List ByteArray) (k n : Int) (z : List ByteArray) (h : HT ts = some (k, n, z)) : z.length < ts.length := by
  obtain ⟨d, rfl, -⟩ := HT_parts h
  simp; omega
theorem HT_sound (ts : List ByteArray) (k n : Int) (z : List ByteArray) (h : HT ts = some (k, n, z)) : ts = hdT k n ++ z ∧ okT1 k n := by
  obtain ⟨d, rfl, hk, hd, rfl⟩ := HT_parts h
  have h1 := isNL_dec ((isN_list d).1 hd)
  rw [← vl_all] at h1
  refine ⟨?_, hk, by omega, by omega⟩
  show _ = [_, _] ++ z
  have : (⟨(Lib.decDigits ((vl d d.size : Nat) : Int).toNat).toArray⟩ : ByteArray) = d := ba_ext (by simpa using h1.1)
  rw [this]; rfl
theorem HT_all (k n : Int) (z : List ByteArray) (h : okT1 k n) : HT (hdT k n ++ z) = some (k, n, z) := by
  obtain ⟨hk, h0, h9⟩ := h
  have hd := dec_isN (n := n.toNat) (by omega) ⟨(Lib.decDigits n.toNat).toArray⟩ (by simp)
  show HT (wrd k :: _ :: z) = _
  rw [HT_yes hk hd.1, hd.2, Int.toNat_of_nonneg h0]

/-- A head stands at the front, and no digit behind it. -/
def HdB (L : List UInt8) (k n : Int) (z : List UInt8) : Prop := okT1 k n ∧ L = hdB k n ++ z ∧ ∀ c y, z = c :: y → ¬ (48 ≤ c.toNat ∧ c.toNat ≤ 57)
theorem wrd_pre : ∀ i j : Fin 8, i.val ≠ 0 → j.val ≠ 0 → (wrd i.val).data.toList.isPrefixOf (wrd j.val).data.toList = true → i = j := by decide +kernel
theorem wrd_front {i j : Int} (hi : 1 ≤ i ∧ i ≤ 7) (hj : 1 ≤ j ∧ j ≤ 7) {L : List UInt8} (h1 : (wrd i).data.toList <+: L) (h2 : (wrd j).data.toList <+: L) : i = j := by
  have key : ∀ i j : Int, 1 ≤ i ∧ i ≤ 7 → 1 ≤ j ∧ j ≤ 7 → (wrd i).data.toList <+: (wrd j).data.toList → i = j := fun i j hi hj h => by
    have := wrd_pre ⟨i.toNat, by omega⟩ ⟨j.toNat, by omega⟩ (by show i.toNat ≠ 0; omega) (by show j.toNat ≠ 0; omega) (by
      show (wrd ((i.toNat : Nat) : Int)).data.toList.isPrefixOf (wrd ((j.toNat : Nat) : Int)).data.toList = true
      rw [Int.toNat_of_nonneg (by omega), Int.toNat_of_nonneg (by omega)]
      exact List.isPrefixOf_iff_prefix.2 h)
    have h2 : i.toNat = j.toNat := congrArg Fin.val this
    omega
  rcases Nat.le_total (wrd i).data.toList.length (wrd j).data.toList.length with h | h
  · exact key i j hi hj (List.prefix_of_prefix_length_le h1 h2 h)
  · exact (key j i hj hi (List.prefix_of_prefix_length_le h2 h1 h)).symm
theorem run_uniq : ∀ {D E z y : List UInt8}, D ++ z = E ++ y → (∀ b ∈ D, 48 ≤ b.toNat ∧ b.toNat ≤ 57) → (∀ b ∈ E, 48 ≤ b.toNat ∧ b.toNat ≤ 57) → (∀ c r, z = c :: r → ¬ (48 ≤ c.toNat ∧ c.toNat ≤ 57)) → (∀ c r, y = c :: r → ¬ (48 ≤ c.toNat ∧ c.toNat ≤ 57)) → D = E ∧ z = y
  | [], [], z, y, h, _, _, _, _ => ⟨rfl, h⟩
  | [], e :: E, z, y, h, _, hE, hz, _ => absurd (hE e (by simp)) (hz e (E ++ y) h)
  | d :: D, [], z, y, h, hD, _, _, hy => absurd (hD d (by simp)) (hy d (D ++ z) h.symm)
  | d :: D, e :: E, z, y, h, hD, hE, hz, hy => by
    simp only [List.cons_append, List.cons.injEq] at h
    obtain ⟨h1, h2⟩ := run_uniq h.2 (fun b hb => hD b (by simp [hb])) (fun b hb => hE b (by simp [hb])) hz hy
    exact ⟨by rw [h.1, h1], h2⟩
theorem HdB_uniq {L : List UInt8} {k n k' n' : Int} {z z' : List UInt8} (h : HdB L k n z) (h' : HdB L k' n' z') : k = k' ∧ n = n' ∧ z = z' := by
  obtain ⟨⟨hk, h0, h9⟩, e, hz⟩ := h
  obtain ⟨⟨hk', h0', h9'⟩, e', hz'⟩ := h'
  unfold hdB at e e'
  obtain rfl := wrd_front hk hk' (L := L) ⟨_, by rw [e, List.append_assoc]⟩ ⟨_, by rw [e', List.append_assoc]⟩
  rw [e, List.append_assoc, List.append_assoc, List.append_cancel_left_eq] at e'
  obtain ⟨h1, h2⟩ := run_uniq e' (dec_dig _) (dec_dig _) hz hz'
  have := congrArg vlL h1
  rw [dec_val, dec_val] at this
  exact ⟨rfl, by omega, h2⟩
open Classical in
noncomputable def HB (L : List UInt8) : Option (Int × Int × List UInt8) := if h : ∃ x : Int × Int × List UInt8, HdB L x.1 x.2.1 x.2.2 then some h.choose else none
theorem HB_yes {L : List UInt8} {k n : Int} {z : List UInt8} (h : HdB L k n z) : HB L = some (k, n, z) := by
  have hx : ∃ x : Int × Int × List UInt8, HdB L x.1 x.2.1 x.2.2 := ⟨(k, n, z), h⟩
  unfold HB
  rw [dif_pos hx]
  have := HdB_uniq hx.choose_spec h
  congr 1
  exact Prod.ext this.1 (Prod.ext this.2.1 this.2.2)
theorem HB_no {L : List UInt8} (h : ∀ k n z, ¬ HdB L k n z) : HB L = none := by
  unfold HB
  rw [dif_neg]
  rintro ⟨x, hx⟩
  exact h _ _ _ hx
theorem HB_parts {L : List UInt8} {k n : Int} {z : List UInt8} (h : HB L = some (k, n, z)) : HdB L k n z := by
  unfold HB at h
  split at h
  · rename_i hc
    have := hc.choose_spec
    rw [Option.some.inj h] at this
    exact this
  · cases h
theorem wrd_len {k : Int} (h : 1 ≤ k ∧ k ≤ 7) : 0 < (wrd k).data.toList.length := by
  have hk : k = 1 ∨ k = 2 ∨ k = 3 ∨ k = 4 ∨ k = 5 ∨ k = 6 ∨ k = 7 := by omega
  rcases hk with rfl | rfl | rfl | rfl | rfl | rfl | rfl <;> decide
theorem hdB_len (k n : Int) (h : okT1 k n) : 0 < (hdB k n).length := by
  have := wrd_len h.1
  unfold hdB; rw [List.length_append]; omega
theorem HB_less (L : List UInt8) (k n : Int) (z : List UInt8) (h : HB L = some (k, n, z)) : z.length < L.length := by
  obtain ⟨ho, rfl, -⟩ := HB_parts h
  have := hdB_len k n ho
  rw [List.length_append]; omega
theorem HB_sound (L : List UInt8) (k n : Int) (z : List UInt8) (h : HB L = some (k, n, z)) : L = hdB k n ++ z ∧ okT1 k n := ⟨(HB_parts h).2.1, (HB_parts h).1⟩
theorem HB_all (k n : Int) (z : List UInt8) (h : okT1 k n) (hz : z = [] ∨ ∃ c y, z = c :: y ∧ (c = 40 ∨ c = 41 ∨ c = 44)) : HB (hdB k n ++ z) = some (k, n, z) := by
  refine HB_yes ⟨h, rfl, fun c y e => ?_⟩
  rcases hz with rfl | ⟨c', y', rfl, hc⟩
  · cases e
  · simp only [List.cons.injEq] at e
    obtain ⟨rfl, -⟩ := e
    rcases hc with rfl | rfl | rfl <;> decide

/-- The texts. -/
def opB : ByteArray := ⟨#[40]⟩
def clB : ByteArray := ⟨#[41]⟩
def cmB : ByteArray := ⟨#[44]⟩
def txB (x : Fo) : List UInt8 := Gr.tx hdB 40 41 44 x
def txT (x : Fo) : List ByteArray := Gr.tx hdT opB clB cmB x
noncomputable def NB (L : List UInt8) := Gr.N HB 40 41 44 L
noncomputable def NT (ts : List ByteArray) := Gr.N HT opB clB cmB ts
noncomputable def SB (L : List UInt8) := Gr.S HB 40 41 44 L
noncomputable def ST (ts : List ByteArray) := Gr.S HT opB clB cmB ts
def flat (l : List ByteArray) : List UInt8 := l.flatMap fun t => t.data.toList
theorem flat_app (a b : List ByteArray) : flat (a ++ b) = flat a ++ flat b := by unfold flat; rw [List.flatMap_append]
theorem txT_flat : ∀ x : Fo, flat (txT x) = txB x := by
  intro x
  induction x with
  | nil => rfl
  | cons k n ks r ihk ihr =>
    unfold txT txB at ihk ihr ⊢
    rw [Gr.tx, Gr.tx, flat_app, flat_app]
    have h1 : flat (hdT k n) = hdB k n := by simp [flat, hdT, hdB]
    rw [h1]
    congr 1
    congr 1
    · by_cases h : ks.len = 0
      · rw [if_pos h, if_pos h]; rfl
      · rw [if_neg h, if_neg h]
        show flat ([opB] ++ (_ ++ [clB])) = _
        rw [flat_app, flat_app, ihk]
        rfl
    · by_cases h : r.len = 0
      · rw [if_pos h, if_pos h]; rfl
      · rw [if_neg h, if_neg h]
        show flat ([cmB] ++ _) = _
        rw [flat_app, ihr]
        rfl
theorem tx_cnt {σ : Type} {hd : Int → Int → List σ} {op cl cm : σ} (hL : ∀ k n, okT1 k n → 0 < (hd k n).length) : ∀ x : Fo, x.okT → x.cnt ≤ (Gr.tx hd op cl cm x).length := by
  intro x
  induction x with
  | nil => intro _; simp [Fo.cnt]
  | cons k n ks r ihk ihr =>
    intro h
    have h1 := hL k n h.1
    have h2 := ihk h.2.1
    have h3 := ihr h.2.2
    rw [Gr.tx, Fo.cnt, List.length_append, List.length_append]
    have h4 : ks.cnt ≤ (if ks.len = 0 then [] else op :: (Gr.tx hd op cl cm ks ++ [cl])).length := by
      by_cases hk : ks.len = 0
      · rw [Fo.len_zero hk]; simp [Fo.cnt]
      · rw [if_neg hk]; simp only [List.length_cons, List.length_append]; omega
    have h5 : r.cnt ≤ (if r.len = 0 then [] else cm :: Gr.tx hd op cl cm r).length := by
      by_cases hk : r.len = 0
      · rw [Fo.len_zero hk]; simp [Fo.cnt]
      · rw [if_neg hk]; simp only [List.length_cons]; omega
    omega
theorem NB_what (L : List UInt8) (k n : Int) (ks : Fo) : NB L = some ((k, n, ks), []) ↔ (Fo.cons k n ks .nil).okT ∧ L = txB (.cons k n ks .nil) := by
  constructor
  · intro h
    have := Gr.N_sound HB_sound HB_less h
    exact ⟨this.2, this.1⟩
  · rintro ⟨h, rfl⟩
    exact Gr.N_all (by decide) (by decide) (by decide) HB_all hdB_len HB_less h
theorem txB_inj {k n k' n' : Int} {ks ks' : Fo} (h : (Fo.cons k n ks .nil).okT) (h' : (Fo.cons k' n' ks' .nil).okT) (e : txB (.cons k n ks .nil) = txB (.cons k' n' ks' .nil)) : k = k' ∧ n = n' ∧ ks = ks' := by
  have h1 := (NB_what _ _ _ _).2 ⟨h, rfl⟩
  have h2 := (NB_what _ _ _ _).2 ⟨h', rfl⟩
  rw [e, h2] at h1
  simp only [Option.some.injEq, Prod.mk.injEq, and_true] at h1
  exact ⟨h1.1.symm, h1.2.1.symm, h1.2.2.symm⟩
theorem NT_sound {ts : List ByteArray} {k n : Int} {ks : Fo} (h : NT ts = some ((k, n, ks), [])) : (Fo.cons k n ks .nil).okT ∧ ts = txT (.cons k n ks .nil) := by
  have := Gr.N_sound HT_sound HT_less h
  exact ⟨this.2, this.1⟩
theorem NT_all {k n : Int} {ks : Fo} (h : (Fo.cons k n ks .nil).okT) : NT (txT (.cons k n ks .nil)) = some ((k, n, ks), []) :=
  Gr.N_all (by decide) (by decide) (by decide) (fun k n z h _ => HT_all k n z h) (fun k n _ => by simp [hdT]) HT_less h
end Go.Proofs.YtafmiilkdhdngaaGreatDoor
