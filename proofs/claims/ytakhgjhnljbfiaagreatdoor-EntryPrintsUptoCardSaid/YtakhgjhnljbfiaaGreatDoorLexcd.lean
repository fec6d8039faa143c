/- lex.Tokens: byte by byte. -/
import Derived.Test.YtakhgjhnljbfiaaGreatDoorLexbd
namespace Go.Proofs.YtakhgjhnljbfiaaGreatDoor
open Go.ChangeShapes Go.WideShapes Go.ChangeAt Go.RowKit
set_option linter.unusedVariables false
set_option linter.unusedSimpArgs false

theorem tk_len {s : ByteArray} : ∀ {i : Nat} {l : List (Int × Nat × Nat)}, tk s i = some l → l.length ≤ i ∧ ∀ k a b, l.getLast? = some (k, a, b) → a < i ∧ b = i ∧ k = kd (bt s (i - 1)) ∧ k ≠ 0 := by
  intro i
  induction i with
  | zero => intro l h; simp [tk] at h; subst h; simp
  | succ i ih =>
    intro l h
    simp only [tk] at h
    cases hp : tk s i with
    | none => simp [hp] at h
    | some m =>
      simp only [hp] at h
      by_cases h0 : kd (bt s i) = 0
      · simp [h0] at h
      · simp only [h0, if_false] at h
        have hm := ih hp
        rcases hl : m.getLast? with _ | ⟨k, a, b⟩
        · simp only [hl, Option.some.injEq] at h
          subst h
          refine ⟨by simp; omega, fun k a b h => ?_⟩
          rw [List.getLast?_concat] at h
          simp only [Option.some.injEq, Prod.mk.injEq] at h
          obtain ⟨rfl, rfl, rfl⟩ := h
          exact ⟨by omega, rfl, rfl, h0⟩
        · simp only [hl] at h
          have hml := hm.2 k a b hl
          have hne : m ≠ [] := by intro e; simp [e] at hl
          split at h
          · rename_i hc
            simp only [Option.some.injEq] at h; subst h
            have : 0 < m.length := List.length_pos_iff.2 hne
            refine ⟨by simp; omega, fun k' a' b' h => ?_⟩
            rw [List.getLast?_concat] at h
            simp only [Option.some.injEq, Prod.mk.injEq] at h
            obtain ⟨rfl, rfl, rfl⟩ := h
            exact ⟨by omega, rfl, hc.2, hml.2.2.2⟩
          · simp only [Option.some.injEq] at h; subst h
            refine ⟨by simp; omega, fun k' a' b' h => ?_⟩
            rw [List.getLast?_concat] at h
            simp only [Option.some.injEq, Prod.mk.injEq] at h
            obtain ⟨rfl, rfl, rfl⟩ := h
            exact ⟨by omega, rfl, rfl, h0⟩

theorem encT_set (s : ByteArray) (m : List (Int × Nat × Nat)) (k : Int) (a b b' : Nat) : (encT s (m ++ [(k, a, b)])).set (m.length * 3 + 1) (.string (s.extract a b')) = encT s (m ++ [(k, a, b')]) := by
  rw [encT_append, encT_append, List.set_append_right _ _ (by rw [encT_len]; omega), encT_len]
  simp [encT]
theorem iterPos_of {w : World} {k p : Nat} {s : ByteArray} (h : w.heap[k]? = some (.stringIter s p)) : w.iterPos k = p := by
  unfold World.iterPos; rw [h]

set_option maxRecDepth 100000 in
set_option maxHeartbeats 8000000 in
theorem lex_tokens (s : ByteArray) (hs : s.size ≤ 5000) (w : World) :
    Calls Tryz.prog 61 #[.string s] w fun e w' => Below w.heap.size w w' ∧ ((tk s s.size = none ∧ e = .returned (.tuple #[.slice none 0 0, .int .i64 10])) ∨
      ∃ l v, tk s s.size = some l ∧ e = .returned (.tuple #[v, .int .i64 0]) ∧ w'.ownsRow (w.heap.size + 1) 128 3 v l.length (encT s l)) := by
  go_enter Tryz.func61, Tryz.ntmps61
  go_wp2
  go_loopw [4] (fun v wr => ∃ (pos : Nat) (l : List (Int × Nat × Nat)) (sv : Value) (wx : World), sv = v ∧ wx = wr ∧ tk s pos = some l ∧ pos ≤ s.size ∧ wr.ownsRow (w.heap.size + 1) 128 3 v l.length (encT s l) ∧ wr.heap[w.heap.size]? = some (.stringIter s pos) ∧ Below w.heap.size w wr ∧ w.heap.size + 1 ≤ wr.heap.size) (fun _ wr => s.size - wr.iterPos w.heap.size)
  case atStart =>
    refine ⟨0, [], _, _, rfl, rfl, rfl, by omega, World.ownsRow_nil _ _ _ _, World.iter_heap _ _ _, (Below.refl _ _).alloc (Nat.le_refl _) _, by simp [World.iter]⟩
  case round =>
    obtain ⟨pos, l, v, wr, rfl, rfl, ht, hp, ho, hit, hB, hsz⟩ := hrel
    by_cases hlt : pos < s.size
    · obtain ⟨C, hC⟩ : ∃ C : Int, C = (Utf8.decode s pos).1 := ⟨_, rfl⟩
      obtain ⟨q, hq⟩ : ∃ q : Nat, q = pos + (Utf8.decode s pos).2 := ⟨_, rfl⟩
      have hCb : kd C = kd (bt s pos) ∧ (kd C ≠ 0 → q = pos + 1) := by
        by_cases ha : bt s pos < 128
        · have hd := decode_ascii s pos hlt (by rw [bt_eq]; exact ha)
          rw [bt_eq] at hd
          rw [hC, hq, hd]
          exact ⟨rfl, fun _ => rfl⟩
        · have hd := decode_high s pos hlt (by rw [bt_eq]; omega)
          rw [hC, kd_high (by omega), kd_high (by omega)]
          exact ⟨rfl, fun h => absurd rfl h⟩
      obtain ⟨wn, hwn⟩ : ∃ wn, wn = wr.iterAt w.heap.size s q := ⟨_, rfl⟩
      have hnx : ∀ ty, (Instr.next (.pointer (some ⟨w.heap.size, 0, none⟩)) true ty).run Tryz.prog wr = .ok (.tuple #[.bool true, .int .i64 pos, .int .i32 C]) wn := fun ty => by
        rw [hwn, hC, hq]; exact Lib.run_next_any_at wr w.heap.size s pos ty hit hlt
      have ho' : wn.ownsRow (w.heap.size + 1) 128 3 v l.length (encT s l) := by rw [hwn]; exact own_iter ho (by omega) s q
      have hit' : wn.heap[w.heap.size]? = some (.stringIter s q) := by rw [hwn]; exact Lib.iterAt_heap _ _ _ _ _ hit
      have hB' : Below w.heap.size w wn := by rw [hwn]; exact Lib.below_iterAt hB (Nat.le_refl _) s q
      have hsz' : w.heap.size + 1 ≤ wn.heap.size := by rw [hwn, Lib.iterAt_size]; exact hsz
      have hl := tk_len ht
      have hCr : 0 ≤ C ∧ C ≤ 2147483647 := by
        rw [hC]; exact ⟨by omega, by have := decode_le s pos; omega⟩
      have hip : wr.iterPos w.heap.size = pos := iterPos_of hit
      clear hwn ho hit hB hsz hC hq
      by_cases hk : kd C = 0
      · go_wp2_with (go_at_call 83; (with_reducible refine (c_kindOf _ _).mono ?_); rintro e w' ⟨rfl, rfl⟩)
        go_ret2
        exact ⟨hB', .inl ⟨tk_stop (by rw [← hCb.1]; exact hk) hlt, rfl⟩⟩
      · obtain rfl := hCb.2 hk
        have hkb : kd (bt s pos) = kd C := hCb.1.symm
        have hlen : l.length < 100000 := by omega
        have hstr : ∀ wx, (Instr.slice 9 (.string s) (some (.int .i64 (pos : Int))) (some (.int .i64 ((pos : Int) + 1))) none).run Tryz.prog wx = .ok (.string (s.extract pos (pos + 1))) wx := fun wx => by
          have := run_slice_string (P := Tryz.prog) wx 9 s .i64 .i64 (pos : Int) ((pos : Int) + 1) Tryz.underlying9 (by omega) (by omega) (by omega)
          simpa using this
        have fin : ∀ (l' : List (Int × Nat × Nat)) (v' : Value) (w' : World), tk s (pos + 1) = some l' → w'.ownsRow (w.heap.size + 1) 128 3 v' l'.length (encT s l') → Below (w.heap.size + 1) wn w' → (∃ (pos : Nat) (l : List (Int × Nat × Nat)) (sv : Value) (wx : World), sv = v' ∧ wx = w' ∧ tk s pos = some l ∧ pos ≤ s.size ∧ w'.ownsRow (w.heap.size + 1) 128 3 v' l.length (encT s l) ∧ w'.heap[w.heap.size]? = some (.stringIter s pos) ∧ Below w.heap.size w w' ∧ w.heap.size + 1 ≤ w'.heap.size) ∧ s.size - w'.iterPos w.heap.size < s.size - wr.iterPos w.heap.size := fun l' v' w' htn h hb => by
          have hit2 : w'.heap[w.heap.size]? = some (.stringIter s (pos + 1)) := by rw [hb.block _ (Nat.lt_succ_self _)]; exact hit'
          refine ⟨⟨pos + 1, l', _, _, rfl, rfl, htn, by omega, h, hit2, hB'.trans (hb.mono (Nat.le_succ _)), by have := hb.size; omega⟩, ?_⟩
          rw [iterPos_of hit2, hip]; omega
        have hdone : ∀ (v' : Value) (w' : World), w'.ownsRow (w.heap.size + 1) 128 3 v' (l.length + 1) (encT s l ++ [.int .i64 (kd C), .string (s.extract pos (pos + 1)), .int .i64 pos]) → w'.ownsRow (w.heap.size + 1) 128 3 v' (l ++ [(kd C, pos, pos + 1)]).length (encT s (l ++ [(kd C, pos, pos + 1)])) := fun v' w' h => by
          rw [encT_append]; simpa [encT] using h
        clear hCb
        rcases List.eq_nil_or_concat l with hnil | ⟨m, ⟨k, a, b⟩, hcon⟩
        · have htn : tk s (pos + 1) = some (l ++ [(kd C, pos, pos + 1)]) := by subst hnil; simp [tk, ht, hkb, hk]
          obtain ⟨a0, c0, rfl⟩ : ∃ a0 c0, v = .slice a0 0 c0 := by
            subst hnil
            rcases own_form ho' with ⟨h, _⟩ | ⟨g, c, h, _⟩
            · exact ⟨_, _, h⟩
            · exact ⟨_, _, h⟩
          have hd3 := hdone
          clear hdone
          by_cases h3 : kd C = 3
          · go_wp2_with (first | (go_at_call 83; (with_reducible refine (c_kindOf _ _).mono ?_); rintro e w' ⟨rfl, rfl⟩) | (at_builtin; refine append_g Tryz.underlying100 info_tok (by decide) (by decide) rfl _ _ rfl rfl ho' rfl hsz' hlen rfl (by simp [Value.oneCell']) ?_; intro v' w' hO hb'))
            exact fin _ _ _ htn (hd3 _ _ (by rw [h3]; exact hO)) hb'
          · subst hnil
            go_wp2_with (first | (go_at_call 83; (with_reducible refine (c_kindOf _ _).mono ?_); rintro e w' ⟨rfl, rfl⟩) | (at_builtin; refine append_g Tryz.underlying100 info_tok (by decide) (by decide) rfl _ _ rfl rfl ho' rfl hsz' hlen rfl (by simp [Value.oneCell']) ?_; intro v' w' hO hb'))
            exact fin _ _ _ htn (hd3 _ _ hO) hb'
        · rw [List.concat_eq_append] at hcon
          have hll : l.length = m.length + 1 := by rw [hcon]; simp
          have hlast : a < pos := (hl.2 k a b (by rw [hcon]; simp)).1
          have hget : l[m.length]? = some (k, a, b) := by rw [hcon]; simp
          have hc := encT_at s l hget
          rw [Nat.mul_comm] at hc
          rcases own_form ho' with ⟨-, h, -⟩ | ⟨g, c, hv, hg1, hg2, hg3, hg4, hcell⟩
          · omega
          subst hv
          have c0 : wn.cell? ⟨g, m.length * 3, none⟩ = some (.int .i64 k) := by
            obtain ⟨u, h1, h2, _⟩ := hcell (m.length * 3) (by omega)
            rw [hc.1] at h1; rw [h2, h1]
          have c1 : wn.cell? ⟨g, m.length * 3 + 1, none⟩ = some (.string (s.extract a b)) := by
            obtain ⟨u, h1, h2, _⟩ := hcell (m.length * 3 + 1) (by omega)
            rw [hc.2.1] at h1; rw [h2, h1]
          have c2 : wn.cell? ⟨g, m.length * 3 + 2, none⟩ = some (.int .i64 a) := by
            obtain ⟨u, h1, h2, _⟩ := hcell (m.length * 3 + 2) (by omega)
            rw [hc.2.2] at h1; rw [h2, h1]
          have f1 : wn.frozen? ⟨g, m.length * 3 + 1, none⟩ = false := by
            obtain ⟨u, _, _, h⟩ := hcell (m.length * 3 + 1) (by omega)
            exact h
          clear hcell hget
          obtain ⟨n, hn⟩ : ∃ n, m.length = n := ⟨_, rfl⟩
          rw [hn] at c0 c1 c2 f1 hll
          have ho2 := ho'
          rw [hll] at ho2 hlen
          have hstr2 : ∀ wx, (Instr.slice 9 (.string s) (some (.int .i64 (a : Int))) (some (.int .i64 ((pos : Int) + 1))) none).run Tryz.prog wx = .ok (.string (s.extract a (pos + 1))) wx := fun wx => by
            have := run_slice_string (P := Tryz.prog) wx 9 s .i64 .i64 (a : Int) ((pos : Int) + 1) Tryz.underlying9 (by omega) (by omega) (by omega)
            simpa using this
          have hset : ∀ (w' : World), tk s (pos + 1) = some (m ++ [(k, a, pos + 1)]) → w' = wn.setCell ⟨g, n * 3 + 1, none⟩ (.string (s.extract a (pos + 1))) → _ := fun w' htn hw => fin (m ++ [(k, a, pos + 1)]) (.slice (some ⟨g, 0, none⟩) (n + 1) c) w' htn (by
              rw [hw, ← encT_set s m k a b (pos + 1), ← hcon, hn, show (m ++ [(k, a, pos + 1)]).length = n + 1 by simp [hn]]
              exact own_set ho2 _ _) (by rw [hw]; exact (Below.refl _ _).setCell hg1 _)
          have hap : ∀ (v' : Value) (w' : World), tk s (pos + 1) = some (l ++ [(kd C, pos, pos + 1)]) → w'.ownsRow (w.heap.size + 1) 128 3 v' (n + 1 + 1) (encT s l ++ [.int .i64 (kd C), .string (s.extract pos (pos + 1)), .int .i64 pos]) → Below (w.heap.size + 1) wn w' → _ := fun v' w' htn hO hb' => fin _ v' w' htn (hdone _ _ (by rw [hll]; exact hO)) hb'
          have htk : tk s (pos + 1) = if kd C ≠ 3 ∧ k = kd C then some (m ++ [(k, a, pos + 1)]) else some (l ++ [(kd C, pos, pos + 1)]) := by
            rw [hcon] at ht ⊢
            simp [tk, ht, hkb, hk]
          rw [hll]
          clear hdone hcon ho' hc
          by_cases h3 : kd C = 3
          · rw [if_neg (by simp [h3])] at htk
            go_wp2_with (first | (go_at_call 83; (with_reducible refine (c_kindOf _ _).mono ?_); rintro e w' ⟨rfl, rfl⟩) | (at_builtin; refine append_g Tryz.underlying100 info_tok (by decide) (by decide) rfl _ _ rfl rfl ho2 rfl hsz' hlen rfl (by simp [Value.oneCell']) ?_; intro v' w' hO hb'))
            exact hap _ _ htk (by rw [h3]; exact hO) hb'
          by_cases hkk : k = kd C
          · rw [if_pos ⟨h3, hkk⟩] at htk
            have e1 : ((k == kd C) : Bool) = true := by simp [hkk]
            have e3 : ((kd C != 3) : Bool) = true := by simp [h3]
            clear ho2 hap fin
            go_wp2_with (go_at_call 83; (with_reducible refine (c_kindOf _ _).mono ?_); rintro e w' ⟨rfl, rfl⟩)
            exact hset _ htk rfl
          · rw [if_neg (by simp [hkk])] at htk
            have e1 : ((k == kd C) : Bool) = false := by simp [hkk]
            have e3 : ((kd C != 3) : Bool) = true := by simp [h3]
            clear hset fin
            go_wp2_with (first | (go_at_call 83; (with_reducible refine (c_kindOf _ _).mono ?_); rintro e w' ⟨rfl, rfl⟩) | (at_builtin; refine append_g Tryz.underlying100 info_tok (by decide) (by decide) rfl _ _ rfl rfl ho2 rfl hsz' hlen rfl (by simp [Value.oneCell']) ?_; intro v' w' hO hb'))
            exact hap _ _ htk hO hb'
    · have hnx : ∀ ty, (Instr.next (.pointer (some ⟨w.heap.size, 0, none⟩)) true ty).run Tryz.prog wr = .ok (.tuple #[.bool false]) wr := fun ty => Lib.run_next_end_at wr w.heap.size s pos ty hit hlt
      obtain rfl : pos = s.size := by omega
      go_wp2
      go_ret2
      exact ⟨hB, .inr ⟨l, v, ht, rfl, ho⟩⟩
end Go.Proofs.YtakhgjhnljbfiaaGreatDoor
