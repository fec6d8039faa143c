/- Package tick: a clock by a script. -/
import Derived.Test.YtlbkmheggdgfoaaOwni
namespace Go.Proofs.Ytlbkmheggdgfoaa
open Go.ChangeShapes Go.WideShapes Go.ChangeAt Go.RowKit
set_option linter.unusedVariables false
/-- Where a clock stands that stood at s, and has x ahead. -/
def stp (s x : Int) : Int := if 1152921504606846976 - s < x then 1152921504606846976 else if 0 < x then s + x else s
theorem stp_rng (s x : Int) (h0 : 0 ≤ s) (h1 : s ≤ 1152921504606846976) : s ≤ stp s x ∧ stp s x ≤ 1152921504606846976 := by
  unfold stp; split
  · omega
  · split <;> omega
def nw (xs : List Int) (k : Nat) : Int := (xs.take k).foldl stp 0
theorem nw_zero (xs : List Int) : nw xs 0 = 0 := rfl
theorem nw_succ (xs : List Int) (k : Nat) (h : k < xs.length) : nw xs (k + 1) = stp (nw xs k) (xs.getD k 0) := by
  unfold nw
  rw [List.take_succ_eq_append_getElem h, List.foldl_append]
  simp [List.getD, h]
theorem nw_over (xs : List Int) (k : Nat) (h : xs.length ≤ k) : nw xs (k + 1) = nw xs k := by
  unfold nw
  rw [List.take_of_length_le h, List.take_of_length_le (by omega)]
theorem nw_rng (xs : List Int) : ∀ k, 0 ≤ nw xs k ∧ nw xs k ≤ 1152921504606846976
  | 0 => by rw [nw_zero]; omega
  | k + 1 => by
    have i := nw_rng xs k
    by_cases h : k < xs.length
    · rw [nw_succ xs k h]
      have := stp_rng (nw xs k) (xs.getD k 0) i.1 i.2
      omega
    · rw [nw_over xs k (by omega)]; exact i
theorem nw_mono1 (xs : List Int) (k : Nat) : nw xs k ≤ nw xs (k + 1) := by
  have i := nw_rng xs k
  by_cases h : k < xs.length
  · rw [nw_succ xs k h]; exact (stp_rng _ _ i.1 i.2).1
  · rw [nw_over xs k (by omega)]; exact Int.le_refl _
theorem nw_mono (xs : List Int) (k : Nat) : ∀ d, nw xs k ≤ nw xs (k + d)
  | 0 => Int.le_refl _
  | d + 1 => Int.le_trans (nw_mono xs k d) (nw_mono1 xs (k + d))
theorem nw_len (xs : List Int) (k : Nat) : nw xs k ≤ nw xs xs.length := by
  by_cases h : k ≤ xs.length
  · have := nw_mono xs k (xs.length - k)
    rwa [show k + (xs.length - k) = xs.length by omega] at this
  · have : nw xs k = nw xs xs.length := by unfold nw; rw [List.take_of_length_le (by omega), List.take_of_length_le (Nat.le_refl _)]
    omega

/-- Block C is a clock that stands at s, has rest ahead, and was asked q times. -/
structure Clk (w : World) (C : Nat) (rest : List Int) (s q : Int) : Prop where
  ex : ∃ a m c, w.heap[C]? = some (.cells #[.slice a m c, .int .i64 s, .int .i64 q] 82 (0, 0)) ∧ rest.length = m ∧ m ≤ c ∧ c ≤ maxLen ∧ Reads .i64 w a rest ∧ (∀ x, a = some x → x.block ≠ C)
  wf : ∀ x ∈ rest, (Lit.int .i64 x).wf = true
  s0 : 0 ≤ s
  s1 : s ≤ 1152921504606846976
theorem Clk.lt {w : World} {C : Nat} {rest : List Int} {s q : Int} (h : Clk w C rest s q) : C < w.heap.size := by
  obtain ⟨a, m, c, hh, _⟩ := h.ex
  by_cases hlt : C < w.heap.size
  · exact hlt
  · have : w.heap[C]? = none := by simp; omega
    rw [this] at hh; simp at hh
theorem Reads.below {k : IntKind} {w w' : World} {a : Option Addr} {xs : List Int} (h : Reads k w a xs) (hb : Below w.heap.size w w') : Reads k w' a xs := by
  rcases h with h | ⟨b, off, rfl, hlt, hc⟩
  · exact .inl h
  · exact .inr ⟨b, off, rfl, by have := hb.size; omega, fun i hi => by rw [hb.cell (p := ⟨b, off + i, none⟩) hlt]; exact hc i hi⟩
theorem Clk.below {w w' : World} {C : Nat} {rest : List Int} {s q : Int} (h : Clk w C rest s q) (hb : Below w.heap.size w w') : Clk w' C rest s q := by
  have hl := h.lt
  obtain ⟨⟨a, m, c, hh, h1, h2, h3, h4, h5⟩, h6, h7, h8⟩ := h
  exact ⟨⟨a, m, c, by rw [hb.block C hl]; exact hh, h1, h2, h3, h4.below hb, h5⟩, h6, h7, h8⟩
theorem now_nil (w : World) : Calls Try.prog 14 #[.pointer none] w fun e w' => e = .returned (.int .i64 0) ∧ w = w' := by
  go_enter Try.func14, Try.ntmps14
  go_wp2_with fail
  go_ret
  exact ⟨rfl, rfl⟩
theorem asked_nil (w : World) : Calls Try.prog 16 #[.pointer none] w fun e w' => e = .returned (.int .i64 0) ∧ w = w' := by
  go_enter Try.func16, Try.ntmps16
  go_wp2_with fail
  go_ret
  exact ⟨rfl, rfl⟩
theorem asked (C : Nat) (rest : List Int) (s q : Int) (w : World) (h : Clk w C rest s q) : Calls Try.prog 16 #[.pointer (some ⟨C, 0, none⟩)] w fun e w' => e = .returned (.int .i64 q) ∧ w = w' := by
  obtain ⟨⟨a, m, c, hh, h1, h2, h3, h4, h5⟩, h6, h7, h8⟩ := h
  have c2 : w.cell? ⟨C, 2, none⟩ = some (.int .i64 q) := by rw [cell_of_row w C 2 _ _ _ hh]; rfl
  clear hh h1 h4 h5 h6
  go_enter Try.func16, Try.ntmps16
  go_wp2_with fail
  go_ret
  exact ⟨rfl, rfl⟩
/-- What Now leaves. -/
def Went (w : World) (B C : Nat) (rest : List Int) (s q : Int) (e : Ending) (w' : World) : Prop := e = .returned (.int .i64 s) ∧ Clk w' C rest s q ∧ Below B w w'
theorem now_over (B C : Nat) (s : Int) (q : Nat) (w : World) (hB : B ≤ C) (hq : q ≤ 1000) (h : Clk w C [] s q) : Calls Try.prog 14 #[.pointer (some ⟨C, 0, none⟩)] w (Went w B C [] s ((q + 1 : Nat) : Int)) := by
  have hC := h.lt
  obtain ⟨⟨a, m, c, hh, h1, h2, h3, h4, h5⟩, h6, h7, h8⟩ := h
  obtain rfl : m = 0 := by simpa using h1.symm
  have c0 : w.cell? ⟨C, 0, none⟩ = some (.slice a 0 c) := by rw [cell_of_row w C 0 _ _ _ hh]; rfl
  have c1 : w.cell? ⟨C, 1, none⟩ = some (.int .i64 s) := by rw [cell_of_row w C 1 _ _ _ hh]; rfl
  have c2 : w.cell? ⟨C, 2, none⟩ = some (.int .i64 q) := by rw [cell_of_row w C 2 _ _ _ hh]; rfl
  have hf : ∀ k, w.frozen? ⟨C, k, none⟩ = false := fun k => frozen_of_row w C k _ _ hh
  have HH := Lib.hid hh
  have H5 := Lib.hid h5
  clear hh h1 h4 h5 h6
  go_enter Try.func14, Try.ntmps14
  go_wp2_with fail
  go_ret
  have e2 := heap_setCell_same w C 2 _ _ (.int .i64 ((q : Int) + 1)) HH.out
  exact ⟨rfl, ⟨⟨a, 0, c, by simpa using e2, rfl, h2, h3, .inl rfl, H5.out⟩, by simp, h7, h8⟩, (Below.refl _ _).setCell hB _⟩
theorem clk_end {w : World} {B C : Nat} {v v' : Value} {s q s' q' : Int} {T : TypeId} (h : w.heap[C]? = some (.cells #[v, .int .i64 s, .int .i64 q] T (0, 0))) (hB : B ≤ C) :
    (((w.setCell ⟨C, 2, none⟩ (.int .i64 q')).setCell ⟨C, 0, none⟩ v').setCell ⟨C, 1, none⟩ (.int .i64 s')).heap[C]? = some (.cells #[v', .int .i64 s', .int .i64 q'] T (0, 0)) ∧ Below B w (((w.setCell ⟨C, 2, none⟩ (.int .i64 q')).setCell ⟨C, 0, none⟩ v').setCell ⟨C, 1, none⟩ (.int .i64 s')) := by
  have e1 := heap_setCell_same w C 2 _ _ (.int .i64 q') h
  have e2 := heap_setCell_same _ C 0 _ _ v' e1
  have e3 := heap_setCell_same _ C 1 _ _ (.int .i64 s') e2
  exact ⟨by simpa using e3, (((Below.refl _ _).setCell hB _).setCell hB _).setCell hB _⟩
theorem reads_tail {w : World} {b off : Nat} {x : Int} {rest : List Int} (hb : b < w.heap.size) (hc : ∀ i, i < (x :: rest).length → w.cell? ⟨b, off + i, none⟩ = some (.int .i64 ((x :: rest).getD i 0))) : Reads .i64 w (some ⟨b, off + 1, none⟩) rest :=
  .inr ⟨b, off + 1, rfl, hb, fun i hi => by
    have := hc (i + 1) (by simpa using hi)
    rw [show off + 1 + i = off + (i + 1) by omega, this]; rfl⟩
theorem went_on {w : World} {B C b off : Nat} {a : Option Addr} {m c : Nat} {s s' : Int} {q : Nat} {x : Int} {rest : List Int} {v : Value} {q0 : Int} {e : Ending} (h : w.heap[C]? = some (.cells #[v, .int .i64 s, .int .i64 q0] 82 (0, 0))) (hB : B ≤ C) (hs : s' = stp s x) (h7 : 0 ≤ s) (h8 : s ≤ 1152921504606846976) (hwf : ∀ x ∈ rest, (Lit.int .i64 x).wf = true) (hl : rest.length = m) (hmc : m ≤ c) (hm : c ≤ maxLen) (hb : b < w.heap.size) (hbC : b ≠ C)
    (hc : ∀ i, i < (x :: rest).length → w.cell? ⟨b, off + i, none⟩ = some (.int .i64 ((x :: rest).getD i 0))) (ha : a = some ⟨b, off + 1, none⟩ ∨ (a = some ⟨b, off, none⟩ ∧ c = 0)) (he : e = .returned (.int .i64 s')) :
    Went w B C rest (stp s x) ((q + 1 : Nat) : Int) e (((w.setCell ⟨C, 2, none⟩ (.int .i64 ((q : Int) + 1))).setCell ⟨C, 0, none⟩ (.slice a m c)).setCell ⟨C, 1, none⟩ (.int .i64 s')) := by
  obtain ⟨e1, e2⟩ := clk_end (q' := (q : Int) + 1) (s' := s') (v' := .slice a m c) h hB
  subst hs
  have hr := stp_rng s x h7 h8
  refine ⟨he, ⟨⟨a, m, c, e1, hl, hmc, hm, ?_, ?_⟩, hwf, by omega, hr.2⟩, e2⟩
  · rcases ha with rfl | ⟨rfl, rfl⟩
    · have hk : ∀ (w : World) (k : Nat) (u : Value), Reads .i64 w (some ⟨b, off + 1, none⟩) rest → Reads .i64 (w.setCell ⟨C, k, none⟩ u) (some ⟨b, off + 1, none⟩) rest := by
        intro w k u h
        rcases h with h | ⟨b', off', hh, hlt, hcc⟩
        · exact .inl h
        · cases hh
          refine .inr ⟨b, off + 1, rfl, by simpa using hlt, fun i hi => ?_⟩
          rw [World.cell?_setCell_other _ _ _ _ (by intro e; cases e; exact hbC rfl)]
          exact hcc i hi
      exact hk _ _ _ (hk _ _ _ (hk _ _ _ (reads_tail hb hc)))
    · left
      have : m = 0 := by omega
      rw [this] at hl
      exact List.length_eq_zero_iff.1 hl
  · intro y hy
    rcases ha with rfl | ⟨rfl, _⟩
    · cases hy; exact hbC
    · cases hy; exact hbC
set_option maxHeartbeats 4000000 in
theorem now_on (B C : Nat) (s x : Int) (rest : List Int) (q : Nat) (w : World) (hB : B ≤ C) (hq : q ≤ 1000) (h : Clk w C (x :: rest) s q) : Calls Try.prog 14 #[.pointer (some ⟨C, 0, none⟩)] w (Went w B C rest (stp s x) ((q + 1 : Nat) : Int)) := by
  have hC := h.lt
  obtain ⟨⟨a, m, c, hh, h1, h2, h3, h4, h5⟩, h6, h7, h8⟩ := h
  obtain ⟨m, rfl⟩ : ∃ k, m = k + 1 := ⟨rest.length, by simpa using h1.symm⟩
  have h1 : rest.length = m := by simpa using h1
  rcases h4 with h4 | ⟨b, off, rfl, hb, hc⟩
  · cases h4
  have hbC : b ≠ C := h5 _ rfl
  have hx := bounds_i64 (h6 x (by simp))
  have HW := Lib.hid (fun y (hy : y ∈ rest) => h6 y (List.mem_cons_of_mem x hy))
  have cx : w.cell? ⟨b, off, none⟩ = some (.int .i64 x) := hc 0 (by simp)
  have c0 : w.cell? ⟨C, 0, none⟩ = some (.slice (some ⟨b, off, none⟩) (m + 1) c) := by rw [cell_of_row w C 0 _ _ _ hh]; rfl
  have c1 : w.cell? ⟨C, 1, none⟩ = some (.int .i64 s) := by rw [cell_of_row w C 1 _ _ _ hh]; rfl
  have c2 : w.cell? ⟨C, 2, none⟩ = some (.int .i64 q) := by rw [cell_of_row w C 2 _ _ _ hh]; rfl
  have hf : ∀ k, w.frozen? ⟨C, k, none⟩ = false := fun k => frozen_of_row w C k _ _ hh
  have HH := Lib.hid hh
  have HC := Lib.hid hc
  have HL := Lib.hid h1
  have H3 := Lib.hid h3
  have H2 := Lib.hid h2
  have hm1 : 0 < m + 1 := by omega
  unfold maxLen at h3
  have hcase : (x < 0 ∧ stp s x = s) ∨ (x = 0 ∧ stp s x = s) ∨ (0 < x ∧ s + x ≤ 1152921504606846976 ∧ stp s x = s + x) ∨ (0 < x ∧ x ≤ 1152921504606846976 ∧ 1152921504606846976 < s + x ∧ stp s x = 1152921504606846976) ∨ (1152921504606846976 < x ∧ 0 < s ∧ stp s x = 1152921504606846976) ∨ (1152921504606846976 < x ∧ s = 0 ∧ stp s x = 1152921504606846976) := by
    unfold stp; split
    · omega
    · split <;> omega
  have hcp : (c = 1 ∧ m = 0) ∨ 1 < c := by omega
  clear hh h1 h5 h6 hc
  rcases hcase with ⟨k1, k2⟩ | ⟨rfl, k2⟩ | ⟨k1, k3, k2⟩ | ⟨k1, k3, k4, k2⟩ | ⟨k1, k3, k2⟩ | ⟨k1, rfl, k2⟩
  all_goals
    have K2 := Lib.hid k2
    clear k2
    rcases hcp with ⟨rfl, rfl⟩ | hcp
  all_goals
    go_enter Try.func14, Try.ntmps14
    go_wp2_with fail
    go_ret
    first
    | exact went_on HH.out hB K2.out.symm h7 h8 HW.out HL.out (by omega) (by unfold maxLen; omega) hb hbC HC.out (.inr ⟨rfl, rfl⟩) rfl
    | exact went_on HH.out hB K2.out.symm h7 h8 HW.out HL.out (by omega) (by unfold maxLen; omega) hb hbC HC.out (.inl rfl) rfl
end Go.Proofs.Ytlbkmheggdgfoaa
