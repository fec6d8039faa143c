/- lex.Num and the reference's; digits as numbers. -/
import Derived.Test.YtakhgjhnljbfiaaGreatDoorLexdd
import Derived.Lib.Strings
import Derived.Lib.ItoaNum
namespace Go.Proofs.YtakhgjhnljbfiaaGreatDoor
open Go.ChangeShapes Go.WideShapes Go.ChangeAt Go.RowKit
set_option linter.unusedVariables false
set_option linter.unusedSimpArgs false

theorem bt_list (s : ByteArray) (i : Nat) (h : i < s.size) : s.data.toList[i]? = some (s[i]'h) ∧ bt s i = (s[i]'h).toNat := ⟨by simp [ByteArray.getElem_eq_getElem_data, h], (bt_eq s i h).symm⟩
/-- The number of digits. -/
def vlL (l : List UInt8) : Nat := l.foldl (fun a b => a * 10 + (b.toNat - 48)) 0
theorem vlL_snoc (l : List UInt8) (b : UInt8) : vlL (l ++ [b]) = vlL l * 10 + (b.toNat - 48) := by unfold vlL; rw [List.foldl_append]; rfl
def vl (s : ByteArray) (i : Nat) : Nat := vlL (s.data.toList.take i)
theorem vl_zero (s : ByteArray) : vl s 0 = 0 := rfl
theorem vl_succ (s : ByteArray) (i : Nat) (h : i < s.size) : vl s (i + 1) = vl s i * 10 + (bt s i - 48) := by
  unfold vl
  have h' : i < s.data.toList.length := by rw [← Lib.size_eq]; exact h
  rw [List.take_succ_eq_append_getElem h', vlL_snoc, (bt_list s i h).2]
  simp [ByteArray.getElem_eq_getElem_data]
def Dg (s : ByteArray) (i : Nat) : Prop := ∀ j, j < i → 48 ≤ bt s j ∧ bt s j ≤ 57
theorem vl_lt {s : ByteArray} : ∀ {i : Nat}, i ≤ s.size → Dg s i → vl s i < 10 ^ i
  | 0, _, _ => by rw [vl_zero]; decide
  | i + 1, hi, hd => by
    have h1 := vl_lt (s := s) (i := i) (by omega) (fun j hj => hd j (by omega))
    have h2 := hd i (by omega)
    rw [vl_succ s i (by omega), Nat.pow_succ]
    omega
theorem vl_small {s : ByteArray} {i : Nat} (hi : i ≤ s.size) (h9 : s.size ≤ 9) (hd : Dg s i) : vl s i < 1000000000 :=
  Nat.lt_of_lt_of_le (vl_lt hi hd) (by
    have : 10 ^ i ≤ 10 ^ 9 := Nat.pow_le_pow_right (by decide) (by omega)
    simpa using this)
/-- A number's text. -/
def IsN (s : ByteArray) : Prop := (1 ≤ s.size ∧ s.size ≤ 9 ∧ ¬ (bt s 0 = 48 ∧ 1 < s.size)) ∧ Dg s s.size

theorem idx_0 (s : ByteArray) (h : 0 < s.size) (wx : World) : (Instr.index 9 (.string s) (.int .i64 0)).run Tryz.prog wx = .ok (.int .u8 (bt s 0)) wx := idx_at s 0 h wx

/-- The four ways past the head of Num. -/
theorem heads (s : ByteArray) : s.size = 0 ∨ 9 < s.size ∨ (1 ≤ s.size ∧ s.size ≤ 9 ∧ bt s 0 = 48 ∧ 1 < s.size) ∨ (1 ≤ s.size ∧ s.size ≤ 9 ∧ ¬ (bt s 0 = 48 ∧ 1 < s.size)) := by
  by_cases h1 : s.size = 0
  · exact .inl h1
  · by_cases h2 : 9 < s.size
    · exact .inr (.inl h2)
    · by_cases h3 : bt s 0 = 48 ∧ 1 < s.size
      · exact .inr (.inr (.inl ⟨by omega, by omega, h3⟩))
      · exact .inr (.inr (.inr ⟨by omega, by omega, h3⟩))

set_option maxRecDepth 100000 in
set_option maxHeartbeats 4000000 in
theorem ref_num (s : ByteArray) (hs : s.size ≤ 5000) (w : World) :
    Calls Tryz.prog 71 #[.string s] w fun e w' => w = w' ∧ ((¬ IsN s ∧ e = .returned (.int .i64 (-1))) ∨ (IsN s ∧ e = .returned (.int .i64 (vl s s.size)))) := by
  rcases heads s with h | h | ⟨h1, h2, h3, h4⟩ | hok
  · have d1 : ((s.size : Int) == 0) = true := by simp [h]
    have d1' : (s.size == 0) = true := by simp [h]
    have hn : ¬ IsN s := fun x => by have := x.1.1; omega
    go_enter Tryz.func71, Tryz.ntmps71
    go_wp2
    all_goals go_ret
    all_goals exact ⟨rfl, .inl ⟨hn, rfl⟩⟩
  · have d1 : ((s.size : Int) == 0) = false := by rw [beq_eq_false_iff_ne]; omega
    have d2 : decide ((s.size : Int) > 9) = true := decide_eq_true (by omega)
    have d2' : decide (9 < s.size) = true := decide_eq_true (by omega)
    have hn : ¬ IsN s := fun x => by have := x.1.2.1; omega
    go_enter Tryz.func71, Tryz.ntmps71
    go_wp2
    all_goals go_ret
    all_goals exact ⟨rfl, .inl ⟨hn, rfl⟩⟩
  · have d1 : ((s.size : Int) == 0) = false := by rw [beq_eq_false_iff_ne]; omega
    have d2 : decide ((s.size : Int) > 9) = false := decide_eq_false (by omega)
    have d2' : decide (9 < s.size) = false := decide_eq_false (by omega)
    have d3 : decide ((s.size : Int) > 1) = true := decide_eq_true (by omega)
    have d3' : decide (1 < s.size) = true := decide_eq_true (by omega)
    have hix := idx_0 s (by omega)
    rw [h3] at hix
    have hn : ¬ IsN s := fun x => x.1.2.2 ⟨h3, h4⟩
    go_enter Tryz.func71, Tryz.ntmps71
    go_wp2
    all_goals go_ret
    all_goals exact ⟨rfl, .inl ⟨hn, rfl⟩⟩
  · obtain ⟨h1, h2, h3⟩ := hok
    have d1 : ((s.size : Int) == 0) = false := by rw [beq_eq_false_iff_ne]; omega
    have d2 : decide ((s.size : Int) > 9) = false := decide_eq_false (by omega)
    have d2' : decide (9 < s.size) = false := decide_eq_false (by omega)
    have hix := idx_0 s (by omega)
    have h3' := h3
    by_cases hb : bt s 0 = 48
    · have d3 : decide ((s.size : Int) > 1) = false := decide_eq_false (by omega)
      have d3' : decide (1 < s.size) = false := decide_eq_false (by omega)
      rw [hb] at hix
      go_enter Tryz.func71, Tryz.ntmps71
      go_wp2
      go_loopw [3, 4] (fun x y wi => ∃ i : Nat, x = .int .i64 (vl s i) ∧ y = .int .i64 i ∧ i ≤ s.size ∧ Hid (Dg s i) ∧ w = wi) (fun _ y _ => s.size - (intOf y).toNat)
      case atStart => exact ⟨0, rfl, rfl, by omega, Lib.hid (fun j hj => absurd hj (Nat.not_lt_zero _)), rfl⟩
      case round =>
        obtain ⟨i, rfl, rfl, hi, HD, rfl⟩ := hrel
        by_cases hlt : i < s.size
        · have d4 : decide ((i : Int) < (s.size : Int)) = true := decide_eq_true (by omega)
          have d4' : decide (i < s.size) = true := decide_eq_true hlt
          have hixi := idx_at s i hlt
          have hv := vl_small hi h2 HD.out
          have hvs := vl_succ s i hlt
          obtain ⟨V, hV⟩ : ∃ V, vl s i = V := ⟨_, rfl⟩
          obtain ⟨V2, hV2⟩ : ∃ V2, vl s (i + 1) = V2 := ⟨_, rfl⟩
          rw [hV] at hv hvs
          rw [hV2] at hvs
          rw [hV]
          have hbt := bt_lt s i
          obtain ⟨c, hc⟩ : ∃ c, bt s i = c := ⟨_, rfl⟩
          rw [hc] at hixi hvs hbt
          by_cases hd : 48 ≤ c ∧ c ≤ 57
          · have d5 : decide ((c : Int) < 48) = false := decide_eq_false (by omega)
            have d6 : decide ((c : Int) > 57) = false := decide_eq_false (by omega)
            have d5' : decide (c < 48) = false := decide_eq_false (by omega)
            have d6' : decide (57 < c) = false := decide_eq_false (by omega)
            have HD2 : Hid (Dg s (i + 1)) := Lib.hid (fun j hj => by
              by_cases e : j = i
              · rw [e, hc]; exact hd
              · exact HD.out j (by omega))
            clear HD hix hb h3 h3'
            go_wp2
            go_roundw
            case rel => exact ⟨i + 1, by rw [hV2]; congr 1; omega, rfl, by omega, HD2, by first | rfl | trivial⟩
            case measure => (first | (simp [intOf]; done) | (simp [intOf]; omega) | (simp only [intOf]; omega))
          · have hn : ¬ IsN s := fun x => hd (by rw [← hc]; exact x.2 i hlt)
            clear HD hix hb h3 h3'
            by_cases h48 : c < 48
            · have d5 : decide ((c : Int) < 48) = true := decide_eq_true (by omega)
              have d5' : decide (c < 48) = true := decide_eq_true (by omega)
              go_wp2
              go_ret
              exact ⟨rfl, .inl ⟨hn, rfl⟩⟩
            · have d5 : decide ((c : Int) < 48) = false := decide_eq_false (by omega)
              have d5' : decide (c < 48) = false := decide_eq_false (by omega)
              have d6 : decide ((c : Int) > 57) = true := decide_eq_true (by omega)
              have d6' : decide (57 < c) = true := decide_eq_true (by omega)
              go_wp2
              go_ret
              exact ⟨rfl, .inl ⟨hn, rfl⟩⟩
        · obtain rfl : i = s.size := by omega
          have d4 : decide ((s.size : Int) < (s.size : Int)) = false := decide_eq_false (by omega)
          have hy : IsN s := ⟨⟨h1, h2, h3'⟩, HD.out⟩
          clear HD hix hb h3 h3'
          go_wp2
          go_ret
          exact ⟨rfl, .inr ⟨hy, rfl⟩⟩
    · have e0 : ((bt s 0 : Int) == 48) = false := by rw [beq_eq_false_iff_ne]; omega
      have e0' : (bt s 0 == 48) = false := by rw [beq_eq_false_iff_ne]; exact hb
      go_enter Tryz.func71, Tryz.ntmps71
      go_wp2
      go_loopw [3, 4] (fun x y wi => ∃ i : Nat, x = .int .i64 (vl s i) ∧ y = .int .i64 i ∧ i ≤ s.size ∧ Hid (Dg s i) ∧ w = wi) (fun _ y _ => s.size - (intOf y).toNat)
      case atStart => exact ⟨0, rfl, rfl, by omega, Lib.hid (fun j hj => absurd hj (Nat.not_lt_zero _)), rfl⟩
      case round =>
        obtain ⟨i, rfl, rfl, hi, HD, rfl⟩ := hrel
        by_cases hlt : i < s.size
        · have d4 : decide ((i : Int) < (s.size : Int)) = true := decide_eq_true (by omega)
          have d4' : decide (i < s.size) = true := decide_eq_true hlt
          have hixi := idx_at s i hlt
          have hv := vl_small hi h2 HD.out
          have hvs := vl_succ s i hlt
          obtain ⟨V, hV⟩ : ∃ V, vl s i = V := ⟨_, rfl⟩
          obtain ⟨V2, hV2⟩ : ∃ V2, vl s (i + 1) = V2 := ⟨_, rfl⟩
          rw [hV] at hv hvs
          rw [hV2] at hvs
          rw [hV]
          have hbt := bt_lt s i
          obtain ⟨c, hc⟩ : ∃ c, bt s i = c := ⟨_, rfl⟩
          rw [hc] at hixi hvs hbt
          by_cases hd : 48 ≤ c ∧ c ≤ 57
          · have d5 : decide ((c : Int) < 48) = false := decide_eq_false (by omega)
            have d6 : decide ((c : Int) > 57) = false := decide_eq_false (by omega)
            have d5' : decide (c < 48) = false := decide_eq_false (by omega)
            have d6' : decide (57 < c) = false := decide_eq_false (by omega)
            have HD2 : Hid (Dg s (i + 1)) := Lib.hid (fun j hj => by
              by_cases e : j = i
              · rw [e, hc]; exact hd
              · exact HD.out j (by omega))
            clear HD hix e0 e0' hb h3 h3'
            go_wp2
            go_roundw
            case rel => exact ⟨i + 1, by rw [hV2]; congr 1; omega, rfl, by omega, HD2, by first | rfl | trivial⟩
            case measure => (first | (simp [intOf]; done) | (simp [intOf]; omega) | (simp only [intOf]; omega))
          · have hn : ¬ IsN s := fun x => hd (by rw [← hc]; exact x.2 i hlt)
            clear HD hix e0 e0' hb h3 h3'
            by_cases h48 : c < 48
            · have d5 : decide ((c : Int) < 48) = true := decide_eq_true (by omega)
              have d5' : decide (c < 48) = true := decide_eq_true (by omega)
              go_wp2
              go_ret
              exact ⟨rfl, .inl ⟨hn, rfl⟩⟩
            · have d5 : decide ((c : Int) < 48) = false := decide_eq_false (by omega)
              have d5' : decide (c < 48) = false := decide_eq_false (by omega)
              have d6 : decide ((c : Int) > 57) = true := decide_eq_true (by omega)
              have d6' : decide (57 < c) = true := decide_eq_true (by omega)
              go_wp2
              go_ret
              exact ⟨rfl, .inl ⟨hn, rfl⟩⟩
        · obtain rfl : i = s.size := by omega
          have d4 : decide ((s.size : Int) < (s.size : Int)) = false := decide_eq_false (by omega)
          have hy : IsN s := ⟨⟨h1, h2, h3'⟩, HD.out⟩
          clear HD hix e0 e0' hb h3 h3'
          go_wp2
          go_ret
          exact ⟨rfl, .inr ⟨hy, rfl⟩⟩

set_option maxRecDepth 100000 in
set_option maxHeartbeats 4000000 in
theorem lex_num (s : ByteArray) (hs : s.size ≤ 5000) (w : World) :
    Calls Tryz.prog 34 #[.string s] w fun e w' => Below w.heap.size w w' ∧ ((¬ IsN s ∧ e = .returned (.tuple #[.int .i64 0, .int .i64 10])) ∨ (IsN s ∧ e = .returned (.tuple #[.int .i64 (vl s s.size), .int .i64 0]))) := by
  rcases heads s with h | h | ⟨h1, h2, h3, h4⟩ | hok
  · have d1 : decide ((s.size : Int) < 1) = true := decide_eq_true (by omega)
    have d1' : decide (s.size < 1) = true := decide_eq_true (by omega)
    have hn : ¬ IsN s := fun x => by have := x.1.1; omega
    go_enter Tryz.func34, Tryz.ntmps34
    go_wp2
    all_goals go_ret2
    all_goals exact ⟨Below.refl _ _, .inl ⟨hn, rfl⟩⟩
  · have d1 : decide ((s.size : Int) < 1) = false := decide_eq_false (by omega)
    have d1' : decide (s.size < 1) = false := decide_eq_false (by omega)
    have d2 : decide ((s.size : Int) > 9) = true := decide_eq_true (by omega)
    have d2' : decide (9 < s.size) = true := decide_eq_true (by omega)
    have hn : ¬ IsN s := fun x => by have := x.1.2.1; omega
    go_enter Tryz.func34, Tryz.ntmps34
    go_wp2
    all_goals go_ret2
    all_goals exact ⟨Below.refl _ _, .inl ⟨hn, rfl⟩⟩
  · have d1 : decide ((s.size : Int) < 1) = false := decide_eq_false (by omega)
    have d1' : decide (s.size < 1) = false := decide_eq_false (by omega)
    have d2 : decide ((s.size : Int) > 9) = false := decide_eq_false (by omega)
    have d2' : decide (9 < s.size) = false := decide_eq_false (by omega)
    have d3 : decide ((s.size : Int) > 1) = true := decide_eq_true (by omega)
    have d3' : decide (1 < s.size) = true := decide_eq_true (by omega)
    have hix := idx_0 s (by omega)
    rw [h3] at hix
    have hn : ¬ IsN s := fun x => x.1.2.2 ⟨h3, h4⟩
    go_enter Tryz.func34, Tryz.ntmps34
    go_wp2
    all_goals go_ret2
    all_goals exact ⟨Below.refl _ _, .inl ⟨hn, rfl⟩⟩
  · obtain ⟨h1, h2, h3⟩ := hok
    have d1 : decide ((s.size : Int) < 1) = false := decide_eq_false (by omega)
    have d1' : decide (s.size < 1) = false := decide_eq_false (by omega)
    have d2 : decide ((s.size : Int) > 9) = false := decide_eq_false (by omega)
    have d2' : decide (9 < s.size) = false := decide_eq_false (by omega)
    have hix := idx_0 s (by omega)
    have h3' := h3
    by_cases hb : bt s 0 = 48
    · have d3 : decide ((s.size : Int) > 1) = false := decide_eq_false (by omega)
      have d3' : decide (1 < s.size) = false := decide_eq_false (by omega)
      rw [hb] at hix
      go_enter Tryz.func34, Tryz.ntmps34
      go_wp2
      go_loopw [4] (fun x wr => ∃ (pos : Nat) (wx : World), x = .int .i64 (vl s pos) ∧ wx = wr ∧ pos ≤ s.size ∧ Hid (Dg s pos) ∧ wr.heap[w.heap.size]? = some (.stringIter s pos) ∧ Below w.heap.size w wr) (fun _ wr => s.size - wr.iterPos w.heap.size)
      case atStart => exact ⟨0, _, rfl, rfl, by omega, Lib.hid (fun j hj => absurd hj (Nat.not_lt_zero _)), World.iter_heap _ _ _, (Below.refl _ _).alloc (Nat.le_refl _) _⟩
      case round =>
        obtain ⟨pos, wr, rfl, rfl, hp, HD, hit, hB⟩ := hrel
        by_cases hlt : pos < s.size
        · obtain ⟨C, hC⟩ : ∃ C : Int, C = (Utf8.decode s pos).1 := ⟨_, rfl⟩
          obtain ⟨q, hq⟩ : ∃ q : Nat, q = pos + (Utf8.decode s pos).2 := ⟨_, rfl⟩
          have hCb : ((bt s pos : Int) = C ∧ q = pos + 1) ∨ (128 ≤ C ∧ 128 ≤ bt s pos) := by
            by_cases ha : bt s pos < 128
            · have hd := decode_ascii s pos hlt (by rw [bt_eq]; exact ha)
              rw [bt_eq] at hd
              rw [hC, hq, hd]
              exact .inl ⟨rfl, rfl⟩
            · have hd := decode_high s pos hlt (by rw [bt_eq]; omega)
              exact .inr ⟨by rw [hC]; omega, by omega⟩
          have hCr : 0 ≤ C ∧ C ≤ 2147483647 := by
            rw [hC]; exact ⟨by omega, by have := decode_le s pos; omega⟩
          obtain ⟨wn, hwn⟩ : ∃ wn, wn = wr.iterAt w.heap.size s q := ⟨_, rfl⟩
          have hnx : ∀ ty, (Instr.next (.pointer (some ⟨w.heap.size, 0, none⟩)) true ty).run Tryz.prog wr = .ok (.tuple #[.bool true, .int .i64 pos, .int .i32 C]) wn := fun ty => by
            rw [hwn, hC, hq]; exact Lib.run_next_any_at wr w.heap.size s pos ty hit hlt
          have hit' : wn.heap[w.heap.size]? = some (.stringIter s q) := by rw [hwn]; exact Lib.iterAt_heap _ _ _ _ _ hit
          have hB' : Below w.heap.size w wn := by rw [hwn]; exact Lib.below_iterAt hB (Nat.le_refl _) s q
          have hip : wr.iterPos w.heap.size = pos := iterPos_of hit
          have hip' : wn.iterPos w.heap.size = q := iterPos_of hit'
          have hv := vl_small hp h2 HD.out
          have hvs := vl_succ s pos hlt
          obtain ⟨V, hV⟩ : ∃ V, vl s pos = V := ⟨_, rfl⟩
          rw [hV] at hv hvs
          rw [hV]
          clear hwn hit hB hC hq
          by_cases hd : 48 ≤ C ∧ C ≤ 57
          · obtain ⟨c, rfl⟩ : ∃ c : Nat, C = c := ⟨C.toNat, by omega⟩
            have hc : bt s pos = c ∧ q = pos + 1 := by
              rcases hCb with h | h
              · exact ⟨by omega, h.2⟩
              · omega
            obtain ⟨hc, rfl⟩ := hc
            have d5 : decide ((c : Int) < 48) = false := decide_eq_false (by omega)
            have d6 : decide ((c : Int) > 57) = false := decide_eq_false (by omega)
            have d5' : decide (c < 48) = false := decide_eq_false (by omega)
            have d6' : decide (57 < c) = false := decide_eq_false (by omega)
            have HD2 : Hid (Dg s (pos + 1)) := Lib.hid (fun j hj => by
              by_cases e : j = pos
              · rw [e, hc]; omega
              · exact HD.out j (by omega))
            have HV : Hid (vl s (pos + 1) = V * 10 + (c - 48)) := Lib.hid (by rw [hvs, hc])
            clear HD hix hb h3 h3' hCb hvs hc
            go_wp2
            go_roundw
            case rel => exact ⟨pos + 1, _, by rw [HV.out]; congr 1; omega, rfl, by omega, HD2, hit', hB'⟩
            case measure => rw [hip, hip']; omega
          · have hn : ¬ IsN s := fun x => hd (by
              have := x.2 pos hlt
              rcases hCb with h | h
              · omega
              · omega)
            clear HD hix hb h3 h3' hCb hvs
            by_cases h48 : C < 48
            · have d5 : decide (C < 48) = true := decide_eq_true h48
              go_wp2
              go_ret2
              first | exact ⟨hB', .inl ⟨hn, rfl⟩⟩ | exact ⟨hB', rfl⟩
            · have d5 : decide (C < 48) = false := decide_eq_false h48
              have d6 : decide (C > 57) = true := decide_eq_true (by omega)
              have d6' : decide (57 < C) = true := decide_eq_true (by omega)
              go_wp2
              go_ret2
              first | exact ⟨hB', .inl ⟨hn, rfl⟩⟩ | exact ⟨hB', rfl⟩
        · have hnx : ∀ ty, (Instr.next (.pointer (some ⟨w.heap.size, 0, none⟩)) true ty).run Tryz.prog wr = .ok (.tuple #[.bool false]) wr := fun ty => Lib.run_next_end_at wr w.heap.size s pos ty hit hlt
          obtain rfl : pos = s.size := by omega
          have hy : IsN s := ⟨⟨h1, h2, h3'⟩, HD.out⟩
          clear HD hix hb h3 h3'
          go_wp2
          go_ret2
          exact ⟨hB, .inr ⟨hy, rfl⟩⟩
    · have e0 : ((bt s 0 : Int) == 48) = false := by rw [beq_eq_false_iff_ne]; omega
      have e0' : (bt s 0 == 48) = false := by rw [beq_eq_false_iff_ne]; exact hb
      go_enter Tryz.func34, Tryz.ntmps34
      go_wp2
      go_loopw [4] (fun x wr => ∃ (pos : Nat) (wx : World), x = .int .i64 (vl s pos) ∧ wx = wr ∧ pos ≤ s.size ∧ Hid (Dg s pos) ∧ wr.heap[w.heap.size]? = some (.stringIter s pos) ∧ Below w.heap.size w wr) (fun _ wr => s.size - wr.iterPos w.heap.size)
      case atStart => exact ⟨0, _, rfl, rfl, by omega, Lib.hid (fun j hj => absurd hj (Nat.not_lt_zero _)), World.iter_heap _ _ _, (Below.refl _ _).alloc (Nat.le_refl _) _⟩
      case round =>
        obtain ⟨pos, wr, rfl, rfl, hp, HD, hit, hB⟩ := hrel
        by_cases hlt : pos < s.size
        · obtain ⟨C, hC⟩ : ∃ C : Int, C = (Utf8.decode s pos).1 := ⟨_, rfl⟩
          obtain ⟨q, hq⟩ : ∃ q : Nat, q = pos + (Utf8.decode s pos).2 := ⟨_, rfl⟩
          have hCb : ((bt s pos : Int) = C ∧ q = pos + 1) ∨ (128 ≤ C ∧ 128 ≤ bt s pos) := by
            by_cases ha : bt s pos < 128
            · have hd := decode_ascii s pos hlt (by rw [bt_eq]; exact ha)
              rw [bt_eq] at hd
              rw [hC, hq, hd]
              exact .inl ⟨rfl, rfl⟩
            · have hd := decode_high s pos hlt (by rw [bt_eq]; omega)
              exact .inr ⟨by rw [hC]; omega, by omega⟩
          have hCr : 0 ≤ C ∧ C ≤ 2147483647 := by
            rw [hC]; exact ⟨by omega, by have := decode_le s pos; omega⟩
          obtain ⟨wn, hwn⟩ : ∃ wn, wn = wr.iterAt w.heap.size s q := ⟨_, rfl⟩
          have hnx : ∀ ty, (Instr.next (.pointer (some ⟨w.heap.size, 0, none⟩)) true ty).run Tryz.prog wr = .ok (.tuple #[.bool true, .int .i64 pos, .int .i32 C]) wn := fun ty => by
            rw [hwn, hC, hq]; exact Lib.run_next_any_at wr w.heap.size s pos ty hit hlt
          have hit' : wn.heap[w.heap.size]? = some (.stringIter s q) := by rw [hwn]; exact Lib.iterAt_heap _ _ _ _ _ hit
          have hB' : Below w.heap.size w wn := by rw [hwn]; exact Lib.below_iterAt hB (Nat.le_refl _) s q
          have hip : wr.iterPos w.heap.size = pos := iterPos_of hit
          have hip' : wn.iterPos w.heap.size = q := iterPos_of hit'
          have hv := vl_small hp h2 HD.out
          have hvs := vl_succ s pos hlt
          obtain ⟨V, hV⟩ : ∃ V, vl s pos = V := ⟨_, rfl⟩
          rw [hV] at hv hvs
          rw [hV]
          clear hwn hit hB hC hq
          by_cases hd : 48 ≤ C ∧ C ≤ 57
          · obtain ⟨c, rfl⟩ : ∃ c : Nat, C = c := ⟨C.toNat, by omega⟩
            have hc : bt s pos = c ∧ q = pos + 1 := by
              rcases hCb with h | h
              · exact ⟨by omega, h.2⟩
              · omega
            obtain ⟨hc, rfl⟩ := hc
            have d5 : decide ((c : Int) < 48) = false := decide_eq_false (by omega)
            have d6 : decide ((c : Int) > 57) = false := decide_eq_false (by omega)
            have d5' : decide (c < 48) = false := decide_eq_false (by omega)
            have d6' : decide (57 < c) = false := decide_eq_false (by omega)
            have HD2 : Hid (Dg s (pos + 1)) := Lib.hid (fun j hj => by
              by_cases e : j = pos
              · rw [e, hc]; omega
              · exact HD.out j (by omega))
            have HV : Hid (vl s (pos + 1) = V * 10 + (c - 48)) := Lib.hid (by rw [hvs, hc])
            clear HD hix e0 e0' hb h3 h3' hCb hvs hc
            go_wp2
            go_roundw
            case rel => exact ⟨pos + 1, _, by rw [HV.out]; congr 1; omega, rfl, by omega, HD2, hit', hB'⟩
            case measure => rw [hip, hip']; omega
          · have hn : ¬ IsN s := fun x => hd (by
              have := x.2 pos hlt
              rcases hCb with h | h
              · omega
              · omega)
            clear HD hix e0 e0' hb h3 h3' hCb hvs
            by_cases h48 : C < 48
            · have d5 : decide (C < 48) = true := decide_eq_true h48
              go_wp2
              go_ret2
              first | exact ⟨hB', .inl ⟨hn, rfl⟩⟩ | exact ⟨hB', rfl⟩
            · have d5 : decide (C < 48) = false := decide_eq_false h48
              have d6 : decide (C > 57) = true := decide_eq_true (by omega)
              have d6' : decide (57 < C) = true := decide_eq_true (by omega)
              go_wp2
              go_ret2
              first | exact ⟨hB', .inl ⟨hn, rfl⟩⟩ | exact ⟨hB', rfl⟩
        · have hnx : ∀ ty, (Instr.next (.pointer (some ⟨w.heap.size, 0, none⟩)) true ty).run Tryz.prog wr = .ok (.tuple #[.bool false]) wr := fun ty => Lib.run_next_end_at wr w.heap.size s pos ty hit hlt
          obtain rfl : pos = s.size := by omega
          have hy : IsN s := ⟨⟨h1, h2, h3'⟩, HD.out⟩
          clear HD hix e0 e0' hb h3 h3'
          go_wp2
          go_ret2
          exact ⟨hB, .inr ⟨hy, rfl⟩⟩
end Go.Proofs.YtakhgjhnljbfiaaGreatDoor
