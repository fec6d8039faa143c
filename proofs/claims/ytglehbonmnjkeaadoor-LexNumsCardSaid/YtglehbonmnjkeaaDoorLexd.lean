/- Reference 22's Tokens: one run behind the other. -/
import Derived.Test.YtglehbonmnjkeaaDoorLexc
namespace Go.Proofs.YtglehbonmnjkeaaDoor
open Go.ChangeShapes Go.WideShapes Go.ChangeAt Go.RowKit
set_option linter.unusedVariables false
set_option linter.unusedSimpArgs false

theorem idx_at (s : ByteArray) (i : Nat) (h : i < s.size) (wx : World) : (Instr.index 9 (.string s) (.int .i64 (i : Int))).run Tryd.prog wx = .ok (.int .u8 (bt s i)) wx := by
  rw [run_index_string wx _ s .i64 i Tryd.underlying9, dif_pos ⟨by omega, by omega⟩]
  simp [bt_eq]
theorem sub_at (s : ByteArray) (a b : Nat) (h1 : a ≤ b) (h2 : b ≤ s.size) (wx : World) : (Instr.slice 9 (.string s) (some (.int .i64 (a : Int))) (some (.int .i64 (b : Int))) none).run Tryd.prog wx = .ok (.string (s.extract a b)) wx := by
  have := run_slice_string (P := Tryd.prog) wx 9 s .i64 .i64 (a : Int) (b : Int) Tryd.underlying9 (by omega) (by omega) (by omega)
  simpa using this

theorem tk_push {s : ByteArray} {i : Nat} {l : List (Int × Nat × Nat)} (h : tk s i = some l) (h0 : kd (bt s i) ≠ 0) (hb : ∀ k a b, l.getLast? = some (k, a, b) → kd (bt s i) = 3 ∨ k ≠ kd (bt s i)) : tk s (i + 1) = some (l ++ [(kd (bt s i), i, i + 1)]) := by
  simp only [tk, h, h0, if_false]
  rcases hl : l.getLast? with _ | ⟨k, a, b⟩
  · rfl
  · simp only
    rw [if_neg (by have := hb k a b hl; intro e; rcases this with h | h
                   · exact e.1 h
                   · exact h e.2)]
theorem tk_more {s : ByteArray} {i a : Nat} {k : Int} {l : List (Int × Nat × Nat)} (h : tk s i = some (l ++ [(k, a, i)])) (h0 : k ≠ 0) (h3 : k < 3) (hk : kd (bt s i) = k) : tk s (i + 1) = some (l ++ [(k, a, i + 1)]) := by
  simp only [tk, h, hk, h0, if_false, List.getLast?_concat]
  rw [if_pos (by constructor <;> first | omega | trivial)]
  simp

set_option maxRecDepth 100000 in
set_option maxHeartbeats 8000000 in
theorem ref_tokens (s : ByteArray) (hs : s.size ≤ 900) (w : World) :
    Calls Tryd.prog 17 #[.string s] w fun e w' => Below w.heap.size w w' ∧ ((tk s s.size = none ∧ e = .returned (.tuple #[.slice none 0 0, .bool false])) ∨
      ∃ l v, tk s s.size = some l ∧ e = .returned (.tuple #[v, .bool true]) ∧ w'.ownsRow w.heap.size 47 3 v l.length (encT s l)) := by
  go_enter Tryd.func17, Tryd.ntmps17
  go_wp2
  go_loopw [4, 5] (fun v i wr => ∃ (pos : Nat) (l : List (Int × Nat × Nat)) (sv : Value) (wx : World), sv = v ∧ wx = wr ∧ i = .int .i64 pos ∧ tk s pos = some l ∧ pos ≤ s.size ∧ Hid (∀ k a b, l.getLast? = some (k, a, b) → pos < s.size → kd (bt s pos) = 3 ∨ k ≠ kd (bt s pos)) ∧ Hid (wr.ownsRow w.heap.size 47 3 v l.length (encT s l)) ∧ Below w.heap.size w wr) (fun _ i _ => s.size - (intOf i).toNat)
  case atStart =>
    exact ⟨0, [], _, _, rfl, rfl, rfl, rfl, by omega, Lib.hid (by simp), Lib.hid (World.ownsRow_nil _ _ _ _), Below.refl _ _⟩
  case round =>
    obtain ⟨pos, l, v, wr, rfl, rfl, rfl, ht, hp, HB, ho, hB⟩ := hrel
    by_cases hlt : pos < s.size
    · have hd : decide ((pos : Int) < (s.size : Int)) = true := decide_eq_true (by omega)
      have hd' : decide (pos < s.size) = true := decide_eq_true hlt
      have hix := idx_at s pos hlt
      obtain ⟨k, hk⟩ : ∃ k, kd (bt s pos) = k := ⟨_, rfl⟩
      have hkb := kd_le (bt s pos)
      rw [hk] at hkb
      by_cases h0 : k = 0
      · have hst : tk s s.size = none := tk_stop (by rw [hk]; exact h0) hlt
        subst h0
        go_wp2_with (go_at_call 22; (with_reducible refine (c_kind _ _).mono ?_); rintro e w' ⟨rfl, rfl⟩)
        go_ret2
        exact ⟨hB, .inl ⟨hst, rfl⟩⟩
      · have h1 := tk_push ht (by rw [hk]; exact h0) (fun k' a b hl => HB.out k' a b hl hlt)
        rw [hk] at h1
        have hl := (tk_len ht).1
        have hlen : l.length < 1000 := by omega
        have hz : (k == 0) = false := by simp [h0]
        clear HB
        go_wp2_with (go_at_call 22; (with_reducible refine (c_kind _ _).mono ?_); rintro e w' ⟨rfl, rfl⟩)
        obtain ⟨w1, rfl⟩ : ∃ w1, w1 = wr := ⟨_, rfl⟩
        have HO := ho
        have hB1 := hB
        clear ho hB
        go_loopw [7] (fun x wi => ∃ (to : Nat), x = .int .i64 to ∧ pos < to ∧ to ≤ s.size ∧ Hid (tk s to = some (l ++ [(k, pos, to)])) ∧ w1 = wi) (fun x _ => s.size - (intOf x).toNat)
        case atStart => exact ⟨pos + 1, rfl, by omega, by omega, Lib.hid h1, rfl⟩
        case round =>
          obtain ⟨to, rfl, hpt, hts, HT, rfl⟩ := hrel
          have hout : ∀ (v' : Value) (w' : World), Hid (∀ k' a b, (l ++ [(k, pos, to)]).getLast? = some (k', a, b) → to < s.size → kd (bt s to) = 3 ∨ k' ≠ kd (bt s to)) → w'.ownsRow w.heap.size 47 3 v' (l.length + 1) (encT s l ++ [.int .i64 k, .string (s.extract pos to), .int .i64 pos]) → Below w.heap.size w1 w' → _ := fun v' w' hbd h hb =>
            (⟨to, l ++ [(k, pos, to)], v', w', rfl, rfl, rfl, HT.out, hts, hbd, Lib.hid (by rw [encT_append]; simpa [encT] using h), hB1.trans hb⟩ : ∃ (pos : Nat) (l : List (Int × Nat × Nat)) (sv : Value) (wx : World), sv = v' ∧ wx = w' ∧ (Value.int .i64 (to : Int)) = .int .i64 pos ∧ tk s pos = some l ∧ pos ≤ s.size ∧ Hid (∀ k a b, l.getLast? = some (k, a, b) → pos < s.size → kd (bt s pos) = 3 ∨ k ≠ kd (bt s pos)) ∧ Hid (w'.ownsRow w.heap.size 47 3 v' l.length (encT s l)) ∧ Below w.heap.size w w')
          have hsub := sub_at s pos to (by omega) hts
          by_cases k3 : k < 3
          · have e3 : decide (k < 3) = true := decide_eq_true k3
            by_cases ht2 : to < s.size
            · have e4 : decide ((to : Int) < (s.size : Int)) = true := decide_eq_true (by omega)
              have e4' : decide (to < s.size) = true := decide_eq_true ht2
              have hix2 := idx_at s to ht2
              obtain ⟨j, hj⟩ : ∃ j, kd (bt s to) = j := ⟨_, rfl⟩
              by_cases hjk : j = k
              · have e5 : (j == k) = true := by simp [hjk]
                have hT2 := Lib.hid (tk_more HT.out h0 k3 (by rw [hj]; exact hjk))
                clear HT hout
                go_wp2_with (go_at_call 22; (with_reducible refine (c_kind _ _).mono ?_); rintro e w' ⟨rfl, rfl⟩)
                go_roundw
                case rel => exact ⟨to + 1, rfl, by omega, by omega, hT2, by first | rfl | trivial⟩
                case measure => (first | (simp [intOf]; done) | (simp [intOf]; omega) | (simp only [intOf]; omega))
              · have e5 : (j == k) = false := by simp [hjk]
                have hbd : Hid (∀ k' a b, (l ++ [(k, pos, to)]).getLast? = some (k', a, b) → to < s.size → kd (bt s to) = 3 ∨ k' ≠ kd (bt s to)) := Lib.hid fun k' a b h _ => by
                  rw [List.getLast?_concat] at h
                  simp only [Option.some.injEq, Prod.mk.injEq] at h
                  rw [hj, ← h.1]; exact .inr (fun e => hjk e.symm)
                go_wp2_with (first | (go_at_call 22; (with_reducible refine (c_kind _ _).mono ?_); rintro e w' ⟨rfl, rfl⟩) | (at_builtin; refine append_g Tryd.underlying42 info_tok22 (by decide) (by decide) rfl _ _ rfl rfl HO.out rfl hB1.size hlen rfl (by simp [Value.oneCell']) ?_; intro v' w' hO hb'))
                go_roundw
                case rel => exact hout _ _ hbd hO hb'
                case measure => (first | (simp [intOf]; done) | (simp [intOf]; omega) | (simp only [intOf]; omega))
            · have e4 : decide ((to : Int) < (s.size : Int)) = false := decide_eq_false (by omega)
              have e4' : decide (to < s.size) = false := decide_eq_false ht2
              have hbd : Hid (∀ k' a b, (l ++ [(k, pos, to)]).getLast? = some (k', a, b) → to < s.size → kd (bt s to) = 3 ∨ k' ≠ kd (bt s to)) := Lib.hid fun k' a b h h2 => absurd h2 ht2
              go_wp2_with (at_builtin; refine append_g Tryd.underlying42 info_tok22 (by decide) (by decide) rfl _ _ rfl rfl HO.out rfl hB1.size hlen rfl (by simp [Value.oneCell']) ?_; intro v' w' hO hb')
              go_roundw
              case rel => exact hout _ _ hbd hO hb'
              case measure => (first | (simp [intOf]; done) | (simp [intOf]; omega) | (simp only [intOf]; omega))
          · obtain rfl : k = 3 := by omega
            have hbd : Hid (∀ k' a b, (l ++ [((3 : Int), pos, to)]).getLast? = some (k', a, b) → to < s.size → kd (bt s to) = 3 ∨ k' ≠ kd (bt s to)) := Lib.hid fun k' a b h _ => by
              rw [List.getLast?_concat] at h
              simp only [Option.some.injEq, Prod.mk.injEq] at h
              rw [← h.1]
              by_cases e : kd (bt s to) = 3
              · exact .inl e
              · exact .inr (fun x => e x.symm)
            go_wp2_with (at_builtin; refine append_g Tryd.underlying42 info_tok22 (by decide) (by decide) rfl _ _ rfl rfl HO.out rfl hB1.size hlen rfl (by simp [Value.oneCell']) ?_; intro v' w' hO hb')
            go_roundw
            case rel => exact hout _ _ hbd hO hb'
            case measure => (first | (simp [intOf]; done) | (simp [intOf]; omega) | (simp only [intOf]; omega))
    · obtain rfl : pos = s.size := by omega
      have hd : decide ((s.size : Int) < (s.size : Int)) = false := decide_eq_false (by omega)
      go_wp2
      go_ret2
      exact ⟨hB, .inr ⟨l, v, ht, rfl, ho.out⟩⟩
end Go.Proofs.YtglehbonmnjkeaaDoor
