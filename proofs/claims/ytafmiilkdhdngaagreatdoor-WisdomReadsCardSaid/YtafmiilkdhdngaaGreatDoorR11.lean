/- Put together by program (merge2.py): Lexdd Lexnd Sheld Lexed. -/
import Derived.Lib.Strings
import Derived.Lib.ItoaNum
import Derived.Shelf.Strconv.Itoa3
import Derived.Shelf.LaysM
import Derived.Lib.Split
import Derived.Test.YtafmiilkdhdngaaGreatDoorR10
/- Reference 22's Tokens: one run behind the other. -/
namespace Go.Proofs.YtafmiilkdhdngaaGreatDoor
open Go.ChangeShapes Go.WideShapes Go.ChangeAt Go.RowKit
set_option linter.unusedVariables false
set_option linter.unusedSimpArgs false

theorem idx_at (s : ByteArray) (i : Nat) (h : i < s.size) (wx : World) : (Instr.index 9 (.string s) (.int .i64 (i : Int))).run Tryz.prog wx = .ok (.int .u8 (bt s i)) wx := by
  rw [run_index_string wx _ s .i64 i Tryz.underlying9, dif_pos ⟨by omega, by omega⟩]
  simp [bt_eq]
theorem sub_at (s : ByteArray) (a b : Nat) (h1 : a ≤ b) (h2 : b ≤ s.size) (wx : World) : (Instr.slice 9 (.string s) (some (.int .i64 (a : Int))) (some (.int .i64 (b : Int))) none).run Tryz.prog wx = .ok (.string (s.extract a b)) wx := by
  have := run_slice_string (P := Tryz.prog) wx 9 s .i64 .i64 (a : Int) (b : Int) Tryz.underlying9 (by omega) (by omega) (by omega)
  simpa using this

theorem tk_push {s : ByteArray} {i : Nat} {l : List (Int × Nat × Nat)} (h : tk s i = some l) (h0 : kd (bt s i) ≠ 0) (hb : ∀ k a b, l.getLast? = some (k, a, b) → kd (bt s i) = 3 ∨ k ≠ kd (bt s i)) : tk s (i + 1) = some (l ++ [(kd (bt s i), i, i + 1)]) := by
  simp only [tk, h, h0, if_false]
  rcases hl : l.getLast? with _ | ⟨k, a, b⟩
  · rfl
  · simp only
    rw [if_neg (by have := hb k a b hl; intro e; rcases this with h | h
                   · exact e.1 h
                   · exact h e.2)]
theorem tk_more {s : ByteArray} {i a : Nat} {k : Int} {l : List (Int × Nat × Nat)} (h : tk s i = some (l ++ [(k, a, i)])) (h0 : k ≠ 0) (h3 : k < 3) (hk : kd (bt s i) = k) : tk s (i + 1) = some (l ++ [(k, a, i + 1)]) := by
  simp only [tk, h, hk, h0, if_false, List.getLast?_concat]
  rw [if_pos (by constructor <;> first | omega | trivial)]
  simp

end Go.Proofs.YtafmiilkdhdngaaGreatDoor
/- lex.Num and the reference's; digits as numbers. -/
namespace Go.Proofs.YtafmiilkdhdngaaGreatDoor
open Go.ChangeShapes Go.WideShapes Go.ChangeAt Go.RowKit
set_option linter.unusedVariables false
set_option linter.unusedSimpArgs false

theorem bt_list (s : ByteArray) (i : Nat) (h : i < s.size) : s.data.toList[i]? = some (s[i]'h) ∧ bt s i = (s[i]'h).toNat := ⟨by simp [ByteArray.getElem_eq_getElem_data, h], (bt_eq s i h).symm⟩
/-- The number of digits. -/
def vlL (l : List UInt8) : Nat := l.foldl (fun a b => a * 10 + (b.toNat - 48)) 0
theorem vlL_snoc (l : List UInt8) (b : UInt8) : vlL (l ++ [b]) = vlL l * 10 + (b.toNat - 48) := by unfold vlL; rw [List.foldl_append]; rfl
def vl (s : ByteArray) (i : Nat) : Nat := vlL (s.data.toList.take i)
theorem vl_zero (s : ByteArray) : vl s 0 = 0 := rfl
theorem vl_succ (s : ByteArray) (i : Nat) (h : i < s.size) : vl s (i + 1) = vl s i * 10 + (bt s i - 48) := by
  unfold vl
  have h' : i < s.data.toList.length := by rw [← Lib.size_eq]; exact h
  rw [List.take_succ_eq_append_getElem h', vlL_snoc, (bt_list s i h).2]
  simp [ByteArray.getElem_eq_getElem_data]
def Dg (s : ByteArray) (i : Nat) : Prop := ∀ j, j < i → 48 ≤ bt s j ∧ bt s j ≤ 57
theorem vl_lt {s : ByteArray} : ∀ {i : Nat}, i ≤ s.size → Dg s i → vl s i < 10 ^ i
  | 0, _, _ => by rw [vl_zero]; decide
  | i + 1, hi, hd => by
    have h1 := vl_lt (s := s) (i := i) (by omega) (fun j hj => hd j (by omega))
    have h2 := hd i (by omega)
    rw [vl_succ s i (by omega), Nat.pow_succ]
    omega
theorem vl_small {s : ByteArray} {i : Nat} (hi : i ≤ s.size) (h9 : s.size ≤ 9) (hd : Dg s i) : vl s i < 1000000000 :=
  Nat.lt_of_lt_of_le (vl_lt hi hd) (by
    have : 10 ^ i ≤ 10 ^ 9 := Nat.pow_le_pow_right (by decide) (by omega)
    simpa using this)
/-- A number's text. -/
def IsN (s : ByteArray) : Prop := (1 ≤ s.size ∧ s.size ≤ 9 ∧ ¬ (bt s 0 = 48 ∧ 1 < s.size)) ∧ Dg s s.size

theorem idx_0 (s : ByteArray) (h : 0 < s.size) (wx : World) : (Instr.index 9 (.string s) (.int .i64 0)).run Tryz.prog wx = .ok (.int .u8 (bt s 0)) wx := idx_at s 0 h wx

/-- The four ways past the head of Num. -/
theorem heads (s : ByteArray) : s.size = 0 ∨ 9 < s.size ∨ (1 ≤ s.size ∧ s.size ≤ 9 ∧ bt s 0 = 48 ∧ 1 < s.size) ∨ (1 ≤ s.size ∧ s.size ≤ 9 ∧ ¬ (bt s 0 = 48 ∧ 1 < s.size)) := by
  by_cases h1 : s.size = 0
  · exact .inl h1
  · by_cases h2 : 9 < s.size
    · exact .inr (.inl h2)
    · by_cases h3 : bt s 0 = 48 ∧ 1 < s.size
      · exact .inr (.inr (.inl ⟨by omega, by omega, h3⟩))
      · exact .inr (.inr (.inr ⟨by omega, by omega, h3⟩))

set_option maxRecDepth 100000 in
set_option maxHeartbeats 4000000 in
theorem ref_num (s : ByteArray) (hs : s.size ≤ 5000) (w : World) :
    Calls Tryz.prog 53 #[.string s] w fun e w' => w = w' ∧ ((¬ IsN s ∧ e = .returned (.int .i64 (-1))) ∨ (IsN s ∧ e = .returned (.int .i64 (vl s s.size)))) := by
  rcases heads s with h | h | ⟨h1, h2, h3, h4⟩ | hok
  · have d1 : ((s.size : Int) == 0) = true := by simp [h]
    have d1' : (s.size == 0) = true := by simp [h]
    have hn : ¬ IsN s := fun x => by have := x.1.1; omega
    go_enter Tryz.func53, Tryz.ntmps53
    go_wp2
    all_goals go_ret
    all_goals exact ⟨rfl, .inl ⟨hn, rfl⟩⟩
  · have d1 : ((s.size : Int) == 0) = false := by rw [beq_eq_false_iff_ne]; omega
    have d2 : decide ((s.size : Int) > 9) = true := decide_eq_true (by omega)
    have d2' : decide (9 < s.size) = true := decide_eq_true (by omega)
    have hn : ¬ IsN s := fun x => by have := x.1.2.1; omega
    go_enter Tryz.func53, Tryz.ntmps53
    go_wp2
    all_goals go_ret
    all_goals exact ⟨rfl, .inl ⟨hn, rfl⟩⟩
  · have d1 : ((s.size : Int) == 0) = false := by rw [beq_eq_false_iff_ne]; omega
    have d2 : decide ((s.size : Int) > 9) = false := decide_eq_false (by omega)
    have d2' : decide (9 < s.size) = false := decide_eq_false (by omega)
    have d3 : decide ((s.size : Int) > 1) = true := decide_eq_true (by omega)
    have d3' : decide (1 < s.size) = true := decide_eq_true (by omega)
    have hix := idx_0 s (by omega)
    rw [h3] at hix
    have hn : ¬ IsN s := fun x => x.1.2.2 ⟨h3, h4⟩
    go_enter Tryz.func53, Tryz.ntmps53
    go_wp2
    all_goals go_ret
    all_goals exact ⟨rfl, .inl ⟨hn, rfl⟩⟩
  · obtain ⟨h1, h2, h3⟩ := hok
    have d1 : ((s.size : Int) == 0) = false := by rw [beq_eq_false_iff_ne]; omega
    have d2 : decide ((s.size : Int) > 9) = false := decide_eq_false (by omega)
    have d2' : decide (9 < s.size) = false := decide_eq_false (by omega)
    have hix := idx_0 s (by omega)
    have h3' := h3
    by_cases hb : bt s 0 = 48
    · have d3 : decide ((s.size : Int) > 1) = false := decide_eq_false (by omega)
      have d3' : decide (1 < s.size) = false := decide_eq_false (by omega)
      rw [hb] at hix
      go_enter Tryz.func53, Tryz.ntmps53
      go_wp2
      go_loopw [3, 4] (fun x y wi => ∃ i : Nat, x = .int .i64 (vl s i) ∧ y = .int .i64 i ∧ i ≤ s.size ∧ Hid (Dg s i) ∧ w = wi) (fun _ y _ => s.size - (intOf y).toNat)
      case atStart => exact ⟨0, rfl, rfl, by omega, Lib.hid (fun j hj => absurd hj (Nat.not_lt_zero _)), rfl⟩
      case round =>
        obtain ⟨i, rfl, rfl, hi, HD, rfl⟩ := hrel
        by_cases hlt : i < s.size
        · have d4 : decide ((i : Int) < (s.size : Int)) = true := decide_eq_true (by omega)
          have d4' : decide (i < s.size) = true := decide_eq_true hlt
          have hixi := idx_at s i hlt
          have hv := vl_small hi h2 HD.out
          have hvs := vl_succ s i hlt
          obtain ⟨V, hV⟩ : ∃ V, vl s i = V := ⟨_, rfl⟩
          obtain ⟨V2, hV2⟩ : ∃ V2, vl s (i + 1) = V2 := ⟨_, rfl⟩
          rw [hV] at hv hvs
          rw [hV2] at hvs
          rw [hV]
          have hbt := bt_lt s i
          obtain ⟨c, hc⟩ : ∃ c, bt s i = c := ⟨_, rfl⟩
          rw [hc] at hixi hvs hbt
          by_cases hd : 48 ≤ c ∧ c ≤ 57
          · have d5 : decide ((c : Int) < 48) = false := decide_eq_false (by omega)
            have d6 : decide ((c : Int) > 57) = false := decide_eq_false (by omega)
            have d5' : decide (c < 48) = false := decide_eq_false (by omega)
            have d6' : decide (57 < c) = false := decide_eq_false (by omega)
            have HD2 : Hid (Dg s (i + 1)) := Lib.hid (fun j hj => by
              by_cases e : j = i
              · rw [e, hc]; exact hd
              · exact HD.out j (by omega))
            clear HD hix hb h3 h3'
            go_wp2
            go_roundw
            case rel => exact ⟨i + 1, by rw [hV2]; congr 1; omega, rfl, by omega, HD2, by first | rfl | trivial⟩
            case measure => (first | (simp [intOf]; done) | (simp [intOf]; omega) | (simp only [intOf]; omega))
          · have hn : ¬ IsN s := fun x => hd (by rw [← hc]; exact x.2 i hlt)
            clear HD hix hb h3 h3'
            by_cases h48 : c < 48
            · have d5 : decide ((c : Int) < 48) = true := decide_eq_true (by omega)
              have d5' : decide (c < 48) = true := decide_eq_true (by omega)
              go_wp2
              go_ret
              exact ⟨rfl, .inl ⟨hn, rfl⟩⟩
            · have d5 : decide ((c : Int) < 48) = false := decide_eq_false (by omega)
              have d5' : decide (c < 48) = false := decide_eq_false (by omega)
              have d6 : decide ((c : Int) > 57) = true := decide_eq_true (by omega)
              have d6' : decide (57 < c) = true := decide_eq_true (by omega)
              go_wp2
              go_ret
              exact ⟨rfl, .inl ⟨hn, rfl⟩⟩
        · obtain rfl : i = s.size := by omega
          have d4 : decide ((s.size : Int) < (s.size : Int)) = false := decide_eq_false (by omega)
          have hy : IsN s := ⟨⟨h1, h2, h3'⟩, HD.out⟩
          clear HD hix hb h3 h3'
          go_wp2
          go_ret
          exact ⟨rfl, .inr ⟨hy, rfl⟩⟩
    · have e0 : ((bt s 0 : Int) == 48) = false := by rw [beq_eq_false_iff_ne]; omega
      have e0' : (bt s 0 == 48) = false := by rw [beq_eq_false_iff_ne]; exact hb
      go_enter Tryz.func53, Tryz.ntmps53
      go_wp2
      go_loopw [3, 4] (fun x y wi => ∃ i : Nat, x = .int .i64 (vl s i) ∧ y = .int .i64 i ∧ i ≤ s.size ∧ Hid (Dg s i) ∧ w = wi) (fun _ y _ => s.size - (intOf y).toNat)
      case atStart => exact ⟨0, rfl, rfl, by omega, Lib.hid (fun j hj => absurd hj (Nat.not_lt_zero _)), rfl⟩
      case round =>
        obtain ⟨i, rfl, rfl, hi, HD, rfl⟩ := hrel
        by_cases hlt : i < s.size
        · have d4 : decide ((i : Int) < (s.size : Int)) = true := decide_eq_true (by omega)
          have d4' : decide (i < s.size) = true := decide_eq_true hlt
          have hixi := idx_at s i hlt
          have hv := vl_small hi h2 HD.out
          have hvs := vl_succ s i hlt
          obtain ⟨V, hV⟩ : ∃ V, vl s i = V := ⟨_, rfl⟩
          obtain ⟨V2, hV2⟩ : ∃ V2, vl s (i + 1) = V2 := ⟨_, rfl⟩
          rw [hV] at hv hvs
          rw [hV2] at hvs
          rw [hV]
          have hbt := bt_lt s i
          obtain ⟨c, hc⟩ : ∃ c, bt s i = c := ⟨_, rfl⟩
          rw [hc] at hixi hvs hbt
          by_cases hd : 48 ≤ c ∧ c ≤ 57
          · have d5 : decide ((c : Int) < 48) = false := decide_eq_false (by omega)
            have d6 : decide ((c : Int) > 57) = false := decide_eq_false (by omega)
            have d5' : decide (c < 48) = false := decide_eq_false (by omega)
            have d6' : decide (57 < c) = false := decide_eq_false (by omega)
            have HD2 : Hid (Dg s (i + 1)) := Lib.hid (fun j hj => by
              by_cases e : j = i
              · rw [e, hc]; exact hd
              · exact HD.out j (by omega))
            clear HD hix e0 e0' hb h3 h3'
            go_wp2
            go_roundw
            case rel => exact ⟨i + 1, by rw [hV2]; congr 1; omega, rfl, by omega, HD2, by first | rfl | trivial⟩
            case measure => (first | (simp [intOf]; done) | (simp [intOf]; omega) | (simp only [intOf]; omega))
          · have hn : ¬ IsN s := fun x => hd (by rw [← hc]; exact x.2 i hlt)
            clear HD hix e0 e0' hb h3 h3'
            by_cases h48 : c < 48
            · have d5 : decide ((c : Int) < 48) = true := decide_eq_true (by omega)
              have d5' : decide (c < 48) = true := decide_eq_true (by omega)
              go_wp2
              go_ret
              exact ⟨rfl, .inl ⟨hn, rfl⟩⟩
            · have d5 : decide ((c : Int) < 48) = false := decide_eq_false (by omega)
              have d5' : decide (c < 48) = false := decide_eq_false (by omega)
              have d6 : decide ((c : Int) > 57) = true := decide_eq_true (by omega)
              have d6' : decide (57 < c) = true := decide_eq_true (by omega)
              go_wp2
              go_ret
              exact ⟨rfl, .inl ⟨hn, rfl⟩⟩
        · obtain rfl : i = s.size := by omega
          have d4 : decide ((s.size : Int) < (s.size : Int)) = false := decide_eq_false (by omega)
          have hy : IsN s := ⟨⟨h1, h2, h3'⟩, HD.out⟩
          clear HD hix e0 e0' hb h3 h3'
          go_wp2
          go_ret
          exact ⟨rfl, .inr ⟨hy, rfl⟩⟩

set_option maxRecDepth 100000 in
set_option maxHeartbeats 4000000 in
theorem lex_numw (s : ByteArray) (hs : s.size ≤ 70000) (w : World) :
    Calls Tryz.prog 47 #[.string s] w fun e w' => Below w.heap.size w w' ∧ ((¬ IsN s ∧ e = .returned (.tuple #[.int .i64 0, .int .i64 10])) ∨ (IsN s ∧ e = .returned (.tuple #[.int .i64 (vl s s.size), .int .i64 0]))) := by
  rcases heads s with h | h | ⟨h1, h2, h3, h4⟩ | hok
  · have d1 : decide ((s.size : Int) < 1) = true := decide_eq_true (by omega)
    have d1' : decide (s.size < 1) = true := decide_eq_true (by omega)
    have hn : ¬ IsN s := fun x => by have := x.1.1; omega
    go_enter Tryz.func47, Tryz.ntmps47
    go_wp2
    all_goals go_ret2
    all_goals exact ⟨Below.refl _ _, .inl ⟨hn, rfl⟩⟩
  · have d1 : decide ((s.size : Int) < 1) = false := decide_eq_false (by omega)
    have d1' : decide (s.size < 1) = false := decide_eq_false (by omega)
    have d2 : decide ((s.size : Int) > 9) = true := decide_eq_true (by omega)
    have d2' : decide (9 < s.size) = true := decide_eq_true (by omega)
    have hn : ¬ IsN s := fun x => by have := x.1.2.1; omega
    go_enter Tryz.func47, Tryz.ntmps47
    go_wp2
    all_goals go_ret2
    all_goals exact ⟨Below.refl _ _, .inl ⟨hn, rfl⟩⟩
  · have d1 : decide ((s.size : Int) < 1) = false := decide_eq_false (by omega)
    have d1' : decide (s.size < 1) = false := decide_eq_false (by omega)
    have d2 : decide ((s.size : Int) > 9) = false := decide_eq_false (by omega)
    have d2' : decide (9 < s.size) = false := decide_eq_false (by omega)
    have d3 : decide ((s.size : Int) > 1) = true := decide_eq_true (by omega)
    have d3' : decide (1 < s.size) = true := decide_eq_true (by omega)
    have hix := idx_0 s (by omega)
    rw [h3] at hix
    have hn : ¬ IsN s := fun x => x.1.2.2 ⟨h3, h4⟩
    go_enter Tryz.func47, Tryz.ntmps47
    go_wp2
    all_goals go_ret2
    all_goals exact ⟨Below.refl _ _, .inl ⟨hn, rfl⟩⟩
  · obtain ⟨h1, h2, h3⟩ := hok
    have d1 : decide ((s.size : Int) < 1) = false := decide_eq_false (by omega)
    have d1' : decide (s.size < 1) = false := decide_eq_false (by omega)
    have d2 : decide ((s.size : Int) > 9) = false := decide_eq_false (by omega)
    have d2' : decide (9 < s.size) = false := decide_eq_false (by omega)
    have hix := idx_0 s (by omega)
    have h3' := h3
    by_cases hb : bt s 0 = 48
    · have d3 : decide ((s.size : Int) > 1) = false := decide_eq_false (by omega)
      have d3' : decide (1 < s.size) = false := decide_eq_false (by omega)
      rw [hb] at hix
      go_enter Tryz.func47, Tryz.ntmps47
      go_wp2
      go_loopw [4] (fun x wr => ∃ (pos : Nat) (wx : World), x = .int .i64 (vl s pos) ∧ wx = wr ∧ pos ≤ s.size ∧ Hid (Dg s pos) ∧ wr.heap[w.heap.size]? = some (.stringIter s pos) ∧ Below w.heap.size w wr) (fun _ wr => s.size - wr.iterPos w.heap.size)
      case atStart => exact ⟨0, _, rfl, rfl, by omega, Lib.hid (fun j hj => absurd hj (Nat.not_lt_zero _)), World.iter_heap _ _ _, (Below.refl _ _).alloc (Nat.le_refl _) _⟩
      case round =>
        obtain ⟨pos, wr, rfl, rfl, hp, HD, hit, hB⟩ := hrel
        by_cases hlt : pos < s.size
        · obtain ⟨C, hC⟩ : ∃ C : Int, C = (Utf8.decode s pos).1 := ⟨_, rfl⟩
          obtain ⟨q, hq⟩ : ∃ q : Nat, q = pos + (Utf8.decode s pos).2 := ⟨_, rfl⟩
          have hCb : ((bt s pos : Int) = C ∧ q = pos + 1) ∨ (128 ≤ C ∧ 128 ≤ bt s pos) := by
            by_cases ha : bt s pos < 128
            · have hd := decode_ascii s pos hlt (by rw [bt_eq]; exact ha)
              rw [bt_eq] at hd
              rw [hC, hq, hd]
              exact .inl ⟨rfl, rfl⟩
            · have hd := decode_high s pos hlt (by rw [bt_eq]; omega)
              exact .inr ⟨by rw [hC]; omega, by omega⟩
          have hCr : 0 ≤ C ∧ C ≤ 2147483647 := by
            rw [hC]; exact ⟨by omega, by have := decode_le s pos; omega⟩
          obtain ⟨wn, hwn⟩ : ∃ wn, wn = wr.iterAt w.heap.size s q := ⟨_, rfl⟩
          have hnx : ∀ ty, (Instr.next (.pointer (some ⟨w.heap.size, 0, none⟩)) true ty).run Tryz.prog wr = .ok (.tuple #[.bool true, .int .i64 pos, .int .i32 C]) wn := fun ty => by
            rw [hwn, hC, hq]; exact Lib.run_next_any_at wr w.heap.size s pos ty hit hlt
          have hit' : wn.heap[w.heap.size]? = some (.stringIter s q) := by rw [hwn]; exact Lib.iterAt_heap _ _ _ _ _ hit
          have hB' : Below w.heap.size w wn := by rw [hwn]; exact Lib.below_iterAt hB (Nat.le_refl _) s q
          have hip : wr.iterPos w.heap.size = pos := iterPos_of hit
          have hip' : wn.iterPos w.heap.size = q := iterPos_of hit'
          have hv := vl_small hp h2 HD.out
          have hvs := vl_succ s pos hlt
          obtain ⟨V, hV⟩ : ∃ V, vl s pos = V := ⟨_, rfl⟩
          rw [hV] at hv hvs
          rw [hV]
          clear hwn hit hB hC hq
          by_cases hd : 48 ≤ C ∧ C ≤ 57
          · obtain ⟨c, rfl⟩ : ∃ c : Nat, C = c := ⟨C.toNat, by omega⟩
            have hc : bt s pos = c ∧ q = pos + 1 := by
              rcases hCb with h | h
              · exact ⟨by omega, h.2⟩
              · omega
            obtain ⟨hc, rfl⟩ := hc
            have d5 : decide ((c : Int) < 48) = false := decide_eq_false (by omega)
            have d6 : decide ((c : Int) > 57) = false := decide_eq_false (by omega)
            have d5' : decide (c < 48) = false := decide_eq_false (by omega)
            have d6' : decide (57 < c) = false := decide_eq_false (by omega)
            have HD2 : Hid (Dg s (pos + 1)) := Lib.hid (fun j hj => by
              by_cases e : j = pos
              · rw [e, hc]; omega
              · exact HD.out j (by omega))
            have HV : Hid (vl s (pos + 1) = V * 10 + (c - 48)) := Lib.hid (by rw [hvs, hc])
            clear HD hix hb h3 h3' hCb hvs hc
            go_wp2
            go_roundw
            case rel => exact ⟨pos + 1, _, by rw [HV.out]; congr 1; omega, rfl, by omega, HD2, hit', hB'⟩
            case measure => rw [hip, hip']; omega
          · have hn : ¬ IsN s := fun x => hd (by
              have := x.2 pos hlt
              rcases hCb with h | h
              · omega
              · omega)
            clear HD hix hb h3 h3' hCb hvs
            by_cases h48 : C < 48
            · have d5 : decide (C < 48) = true := decide_eq_true h48
              go_wp2
              go_ret2
              first | exact ⟨hB', .inl ⟨hn, rfl⟩⟩ | exact ⟨hB', rfl⟩
            · have d5 : decide (C < 48) = false := decide_eq_false h48
              have d6 : decide (C > 57) = true := decide_eq_true (by omega)
              have d6' : decide (57 < C) = true := decide_eq_true (by omega)
              go_wp2
              go_ret2
              first | exact ⟨hB', .inl ⟨hn, rfl⟩⟩ | exact ⟨hB', rfl⟩
        · have hnx : ∀ ty, (Instr.next (.pointer (some ⟨w.heap.size, 0, none⟩)) true ty).run Tryz.prog wr = .ok (.tuple #[.bool false]) wr := fun ty => Lib.run_next_end_at wr w.heap.size s pos ty hit hlt
          obtain rfl : pos = s.size := by omega
          have hy : IsN s := ⟨⟨h1, h2, h3'⟩, HD.out⟩
          clear HD hix hb h3 h3'
          go_wp2
          go_ret2
          exact ⟨hB, .inr ⟨hy, rfl⟩⟩
    · have e0 : ((bt s 0 : Int) == 48) = false := by rw [beq_eq_false_iff_ne]; omega
      have e0' : (bt s 0 == 48) = false := by rw [beq_eq_false_iff_ne]; exact hb
      go_enter Tryz.func47, Tryz.ntmps47
      go_wp2
      go_loopw [4] (fun x wr => ∃ (pos : Nat) (wx : World), x = .int .i64 (vl s pos) ∧ wx = wr ∧ pos ≤ s.size ∧ Hid (Dg s pos) ∧ wr.heap[w.heap.size]? = some (.stringIter s pos) ∧ Below w.heap.size w wr) (fun _ wr => s.size - wr.iterPos w.heap.size)
      case atStart => exact ⟨0, _, rfl, rfl, by omega, Lib.hid (fun j hj => absurd hj (Nat.not_lt_zero _)), World.iter_heap _ _ _, (Below.refl _ _).alloc (Nat.le_refl _) _⟩
      case round =>
        obtain ⟨pos, wr, rfl, rfl, hp, HD, hit, hB⟩ := hrel
        by_cases hlt : pos < s.size
        · obtain ⟨C, hC⟩ : ∃ C : Int, C = (Utf8.decode s pos).1 := ⟨_, rfl⟩
          obtain ⟨q, hq⟩ : ∃ q : Nat, q = pos + (Utf8.decode s pos).2 := ⟨_, rfl⟩
          have hCb : ((bt s pos : Int) = C ∧ q = pos + 1) ∨ (128 ≤ C ∧ 128 ≤ bt s pos) := by
            by_cases ha : bt s pos < 128
            · have hd := decode_ascii s pos hlt (by rw [bt_eq]; exact ha)
              rw [bt_eq] at hd
              rw [hC, hq, hd]
              exact .inl ⟨rfl, rfl⟩
            · have hd := decode_high s pos hlt (by rw [bt_eq]; omega)
              exact .inr ⟨by rw [hC]; omega, by omega⟩
          have hCr : 0 ≤ C ∧ C ≤ 2147483647 := by
            rw [hC]; exact ⟨by omega, by have := decode_le s pos; omega⟩
          obtain ⟨wn, hwn⟩ : ∃ wn, wn = wr.iterAt w.heap.size s q := ⟨_, rfl⟩
          have hnx : ∀ ty, (Instr.next (.pointer (some ⟨w.heap.size, 0, none⟩)) true ty).run Tryz.prog wr = .ok (.tuple #[.bool true, .int .i64 pos, .int .i32 C]) wn := fun ty => by
            rw [hwn, hC, hq]; exact Lib.run_next_any_at wr w.heap.size s pos ty hit hlt
          have hit' : wn.heap[w.heap.size]? = some (.stringIter s q) := by rw [hwn]; exact Lib.iterAt_heap _ _ _ _ _ hit
          have hB' : Below w.heap.size w wn := by rw [hwn]; exact Lib.below_iterAt hB (Nat.le_refl _) s q
          have hip : wr.iterPos w.heap.size = pos := iterPos_of hit
          have hip' : wn.iterPos w.heap.size = q := iterPos_of hit'
          have hv := vl_small hp h2 HD.out
          have hvs := vl_succ s pos hlt
          obtain ⟨V, hV⟩ : ∃ V, vl s pos = V := ⟨_, rfl⟩
          rw [hV] at hv hvs
          rw [hV]
          clear hwn hit hB hC hq
          by_cases hd : 48 ≤ C ∧ C ≤ 57
          · obtain ⟨c, rfl⟩ : ∃ c : Nat, C = c := ⟨C.toNat, by omega⟩
            have hc : bt s pos = c ∧ q = pos + 1 := by
              rcases hCb with h | h
              · exact ⟨by omega, h.2⟩
              · omega
            obtain ⟨hc, rfl⟩ := hc
            have d5 : decide ((c : Int) < 48) = false := decide_eq_false (by omega)
            have d6 : decide ((c : Int) > 57) = false := decide_eq_false (by omega)
            have d5' : decide (c < 48) = false := decide_eq_false (by omega)
            have d6' : decide (57 < c) = false := decide_eq_false (by omega)
            have HD2 : Hid (Dg s (pos + 1)) := Lib.hid (fun j hj => by
              by_cases e : j = pos
              · rw [e, hc]; omega
              · exact HD.out j (by omega))
            have HV : Hid (vl s (pos + 1) = V * 10 + (c - 48)) := Lib.hid (by rw [hvs, hc])
            clear HD hix e0 e0' hb h3 h3' hCb hvs hc
            go_wp2
            go_roundw
            case rel => exact ⟨pos + 1, _, by rw [HV.out]; congr 1; omega, rfl, by omega, HD2, hit', hB'⟩
            case measure => rw [hip, hip']; omega
          · have hn : ¬ IsN s := fun x => hd (by
              have := x.2 pos hlt
              rcases hCb with h | h
              · omega
              · omega)
            clear HD hix e0 e0' hb h3 h3' hCb hvs
            by_cases h48 : C < 48
            · have d5 : decide (C < 48) = true := decide_eq_true h48
              go_wp2
              go_ret2
              first | exact ⟨hB', .inl ⟨hn, rfl⟩⟩ | exact ⟨hB', rfl⟩
            · have d5 : decide (C < 48) = false := decide_eq_false h48
              have d6 : decide (C > 57) = true := decide_eq_true (by omega)
              have d6' : decide (57 < C) = true := decide_eq_true (by omega)
              go_wp2
              go_ret2
              first | exact ⟨hB', .inl ⟨hn, rfl⟩⟩ | exact ⟨hB', rfl⟩
        · have hnx : ∀ ty, (Instr.next (.pointer (some ⟨w.heap.size, 0, none⟩)) true ty).run Tryz.prog wr = .ok (.tuple #[.bool false]) wr := fun ty => Lib.run_next_end_at wr w.heap.size s pos ty hit hlt
          obtain rfl : pos = s.size := by omega
          have hy : IsN s := ⟨⟨h1, h2, h3'⟩, HD.out⟩
          clear HD hix e0 e0' hb h3 h3'
          go_wp2
          go_ret2
          exact ⟨hB, .inr ⟨hy, rfl⟩⟩
theorem lex_num (s : ByteArray) (hs : s.size ≤ 5000) (w : World) :
    Calls Tryz.prog 47 #[.string s] w fun e w' => Below w.heap.size w w' ∧ ((¬ IsN s ∧ e = .returned (.tuple #[.int .i64 0, .int .i64 10])) ∨ (IsN s ∧ e = .returned (.tuple #[.int .i64 (vl s s.size), .int .i64 0]))) := lex_numw s (Nat.le_trans hs (by decide)) w
end Go.Proofs.YtafmiilkdhdngaaGreatDoor
/- The library's contracts at this program (this seat alone: its numbers; written by gensheld.py). -/
namespace Go.Proofs.YtafmiilkdhdngaaGreatDoor
open Go.Shelf Go.ChangeShapes Go.WideShapes Go.ChangeAt Go.RowKit
def laysM171_ren : Go.Shelf.Ren := ⟨fun | 171 => 63 | 243 => 83 | 246 => 100 | 283 => 112 | 284 => 113 | 285 => 114 | 286 => 115 | 129 => 131 | 317 => 130 | 318 => 132 | 319 => 133 | 320 => 134 | 337 => 139 | 338 => 140 | n => n, fun | 3 => 3 | 9 => 9 | 2 => 2 | 4 => 4 | 171 => 157 | 0 => 0 | 53 => 128 | 37 => 49 | 5 => 5 | 173 => 160 | 212 => 168 | 51 => 169 | 20 => 20 | 213 => 170 | 46 => 156 | 232 => 184 | 233 => 185 | n => n, fun | 17 => 1 | 18 => 4 | 19 => 5 | n => n⟩
theorem laysM171 : Go.Proofs.LaysM.n171 Tryz.prog laysM171_ren := {
  mixed := by kernel_rfl
  f129 := Tryz.func131.trans (congrArg some (by kernel_rfl))
  f171 := Tryz.func63.trans (congrArg some (by kernel_rfl))
  f243 := Tryz.func83.trans (congrArg some (by kernel_rfl))
  f246 := Tryz.func100.trans (congrArg some (by kernel_rfl))
  f283 := Tryz.func112.trans (congrArg some (by kernel_rfl))
  f284 := Tryz.func113.trans (congrArg some (by kernel_rfl))
  f285 := Tryz.func114.trans (congrArg some (by kernel_rfl))
  f286 := Tryz.func115.trans (congrArg some (by kernel_rfl))
  f317 := Tryz.func130.trans (congrArg some (by kernel_rfl))
  f318 := Tryz.func132.trans (congrArg some (by kernel_rfl))
  f319 := Tryz.func133.trans (congrArg some (by kernel_rfl))
  f320 := Tryz.func134.trans (congrArg some (by kernel_rfl))
  f337 := Tryz.func139.trans (congrArg some (by kernel_rfl))
  f338 := Tryz.func140.trans (congrArg some (by kernel_rfl))
  t0 := Tryz.underlying0
  a0 := Tryz.isAgg0
  z0 := Tryz.sizeOf0
  v0 := Tryz.zeroValue0
  t2 := Tryz.underlying2
  a2 := Tryz.isAgg2
  z2 := Tryz.sizeOf2
  v2 := Tryz.zeroValue2
  t3 := Tryz.underlying3
  a3 := Tryz.isAgg3
  z3 := Tryz.sizeOf3
  v3 := Tryz.zeroValue3
  t4 := Tryz.underlying4
  a4 := Tryz.isAgg4
  z4 := Tryz.sizeOf4
  v4 := Tryz.zeroValue4
  t5 := Tryz.underlying5
  a5 := Tryz.isAgg5
  z5 := Tryz.sizeOf5
  v5 := Tryz.zeroValue5
  t9 := Tryz.underlying9
  a9 := Tryz.isAgg9
  z9 := Tryz.sizeOf9
  v9 := Tryz.zeroValue9
  t20 := Tryz.underlying20
  a20 := Tryz.isAgg20
  z20 := Tryz.sizeOf20
  v20 := Tryz.zeroValue20
  t37 := Tryz.underlying49
  a37 := Tryz.isAgg49
  z37 := Tryz.sizeOf49
  v37 := Tryz.zeroValue49
  t46 := Tryz.underlying156
  a46 := Tryz.isAgg156
  z46 := Tryz.sizeOf156
  v46 := Tryz.zeroValue156
  t51 := Tryz.underlying169
  a51 := Tryz.isAgg169
  z51 := Tryz.sizeOf169
  v51 := Tryz.zeroValue169
  t53 := Tryz.underlying128
  a53 := Tryz.isAgg128
  z53 := Tryz.sizeOf128
  v53 := Tryz.zeroValue128
  t171 := Tryz.underlying157
  a171 := Tryz.isAgg157
  z171 := Tryz.sizeOf157
  v171 := Tryz.zeroValue157
  t173 := Tryz.underlying160
  a173 := Tryz.isAgg160
  z173 := Tryz.sizeOf160
  v173 := Tryz.zeroValue160
  t212 := Tryz.underlying168
  a212 := Tryz.isAgg168
  z212 := Tryz.sizeOf168
  v212 := Tryz.zeroValue168
  t213 := Tryz.underlying170
  a213 := Tryz.isAgg170
  z213 := Tryz.sizeOf170
  t232 := Tryz.underlying184
  a232 := Tryz.isAgg184
  z232 := Tryz.sizeOf184
  v232 := Tryz.zeroValue184
  t233 := Tryz.underlying185
  a233 := Tryz.isAgg185
  z233 := Tryz.sizeOf185
  v233 := Tryz.zeroValue185
  g17 := by kernel_rfl
  g18 := by kernel_rfl
  g19 := by kernel_rfl
  i0 := by kernel_rfl
  i2 := by kernel_rfl
  i3 := by kernel_rfl
  i4 := by kernel_rfl
  i5 := by kernel_rfl
  i9 := by kernel_rfl
  i20 := by kernel_rfl
  i37 := by kernel_rfl
  i46 := by kernel_rfl
  i51 := by kernel_rfl
  i53 := by kernel_rfl
  i171 := by kernel_rfl
  i173 := by kernel_rfl
  i212 := by kernel_rfl
  i232 := by kernel_rfl
  i233 := by kernel_rfl
  m17 := by kernel_rfl
  m18 := by kernel_rfl
  m19 := by kernel_rfl }
open Go.RowKit Go.Sort Go.Lib in
theorem c_strconv_Itoa (n : Int) (h0 : -9223372036854775808 ≤ n) (h1 : n ≤ 9223372036854775807) (w : World) (htab : Lib.TabIs Tryz.prog w "internal/strconv.uint64pow10" .u64 Lib.pow10Tab) :
    Calls Tryz.prog 63 #[.int .i64 n] w fun e w' => e = .returned (.string ⟨(Lib.itoa n).toArray⟩) ∧ ∃ k os, w' = grow (w.drewN k) os := Any.strconv_Itoa laysM171 n h0 h1 w htab
end Go.Proofs.YtafmiilkdhdngaaGreatDoor
/- Words of a line, in numbers: cut at blanks. -/
namespace Go.Proofs.YtafmiilkdhdngaaGreatDoor
open Go.ChangeShapes Go.WideShapes Go.ChangeAt Go.RowKit
set_option linter.unusedVariables false
set_option linter.unusedSimpArgs false

/-- Cut at blanks; cur: what stands of the first piece already. -/
def splA (cur : List UInt8) : List UInt8 → List (List UInt8)
  | [] => [cur]
  | b :: l => if b = 32 then cur :: splA [] l else splA (cur ++ [b]) l
def hcons (p : List UInt8) : List (List UInt8) → List (List UInt8)
  | [] => []
  | x :: r => (p ++ x) :: r
theorem splA_head (l : List UInt8) : ∀ p cur, splA (p ++ cur) l = hcons p (splA cur l) := by
  induction l with
  | nil => intro p cur; rfl
  | cons b l ih =>
    intro p cur
    unfold splA
    split
    · rfl
    · rw [List.append_assoc]; exact ih _ _
theorem index_one (b : UInt8) (l : List UInt8) : Lib.index (b :: l) [32] = if b = 32 then 0 else if Lib.index l [32] = -1 then -1 else Lib.index l [32] + 1 := by
  rw [Lib.index]
  by_cases h : b = 32
  · subst h; simp [List.isPrefixOf]
  · have : ¬ (32 : UInt8) = b := fun e => h e.symm
    simp [List.isPrefixOf, h, this]
theorem splitK_head (b : UInt8) (hb : b ≠ 32) (l : List UInt8) (k : Nat) : Lib.splitK [32] 0 k (b :: l) = hcons [b] (Lib.splitK [32] 0 k l) := by
  cases k with
  | zero => rfl
  | succ k =>
    unfold Lib.splitK
    rw [index_one, if_neg hb]
    by_cases h : Lib.index l [32] = -1
    · simp [h, hcons]
    · have hge := Lib.index_ge l [32]
      obtain ⟨i, hi⟩ : ∃ i : Nat, Lib.index l [32] = i := ⟨(Lib.index l [32]).toNat, by omega⟩
      rw [if_neg h, hi]
      have e1 : ¬ (((i : Int) + 1 == -1) = true) := by rw [beq_iff_eq]; omega
      have e2 : ¬ (((i : Int) == -1) = true) := by rw [beq_iff_eq]; omega
      rw [if_neg e1, if_neg e2]
      have e3 : ((i : Int) + 1).toNat = i + 1 := by omega
      simp [e3, hcons]
theorem count_one (l : List UInt8) : Lib.count l [32] = l.count 32 := by
  induction l with
  | nil => rfl
  | cons b l ih =>
    by_cases hb : b = 32
    · subst hb
      rw [List.count_cons_self, Lib.count_hit (i := 0) (by simp) (by rw [index_one, if_pos rfl]; rfl), ← ih, Nat.add_comm]
      rfl
    · rw [List.count_cons_of_ne (by simpa using hb), ← ih]
      have hge := Lib.index_ge l [32]
      by_cases h : Lib.index l [32] = -1
      · rw [Lib.count_miss h, Lib.count_miss (by rw [index_one, if_neg hb, if_pos h])]
      · obtain ⟨i, hi⟩ : ∃ i : Nat, Lib.index l [32] = i := ⟨(Lib.index l [32]).toNat, by omega⟩
        rw [Lib.count_hit (s := l) (i := i) (by simp) hi, Lib.count_hit (s := b :: l) (i := i + 1) (by simp) (by rw [index_one, if_neg hb, if_neg h, hi]; rfl)]
        rfl
theorem splitK_all (l : List UInt8) : Lib.splitK [32] 0 (l.count 32) l = splA [] l := by
  induction l with
  | nil => rfl
  | cons b l ih =>
    by_cases hb : b = 32
    · subst hb
      rw [List.count_cons_self, Lib.splitK, index_one, if_pos rfl]
      simp [splA, ih]
    · rw [List.count_cons_of_ne (by simpa using hb), splitK_head b hb, ih, splA, if_neg hb]
      exact (splA_head l [b] []).symm

theorem ba_of {l : List UInt8} {x : ByteArray} (h : x.data.toList = l) : x = ⟨l.toArray⟩ := by
  subst h; cases x; simp
theorem splitB_all (s : ByteArray) : Lib.splitB ⟨#[32]⟩ 0 (Lib.countB s ⟨#[32]⟩) s = (splA [] s.data.toList).map (fun l => ⟨l.toArray⟩) := by
  have h := Lib.splitB_data ⟨#[32]⟩ 0 (Lib.countB s ⟨#[32]⟩) s
  have e : Lib.countB s ⟨#[32]⟩ = s.data.toList.count 32 := count_one s.data.toList
  rw [e] at h ⊢
  rw [← splitK_all]
  have h2 : (Lib.splitB ⟨#[32]⟩ 0 (s.data.toList.count 32) s).map (·.data.toList) = Lib.splitK [32] 0 (s.data.toList.count 32) s.data.toList := h
  rw [← h2, List.map_map]
  conv => lhs; rw [← List.map_id (Lib.splitB ⟨#[32]⟩ 0 (s.data.toList.count 32) s)]
  refine List.map_congr_left fun x _ => ?_
  exact ba_of rfl
theorem splA_count (l : List UInt8) : ∀ cur, (splA cur l).length = l.count 32 + 1 := by
  induction l with
  | nil => intro cur; rfl
  | cons b l ih =>
    intro cur
    unfold splA
    split
    · rename_i h; subst h; rw [List.length_cons, ih, List.count_cons_self]
    · rename_i h; rw [ih, List.count_cons_of_ne (by simpa using h)]

/-- A line's words: none where a byte is none of a line's, or a word is empty. -/
def okB (b : UInt8) : Bool := decide (32 ≤ b.toNat ∧ b.toNat ≤ 126)
def wds (l : List UInt8) : Option (List (List UInt8)) := if l = [] then some [] else if l.all okB && (splA [] l).all (fun p => decide (p ≠ [])) then some (splA [] l) else none

end Go.Proofs.YtafmiilkdhdngaaGreatDoor
