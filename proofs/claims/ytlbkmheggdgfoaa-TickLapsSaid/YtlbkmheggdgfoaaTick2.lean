/- Package tick: New; the page's example; the document's own clock. -/
import Derived.Test.YtlbkmheggdgfoaaTick
namespace Go.Proofs.Ytlbkmheggdgfoaa
open Go.ChangeShapes Go.WideShapes Go.ChangeAt Go.RowKit
set_option linter.unusedVariables false
def Made (w : World) (xs : List Int) (e : Ending) (w' : World) : Prop := ∃ C, e = .returned (.pointer (some ⟨C, 0, none⟩)) ∧ w.heap.size ≤ C ∧ Clk w' C xs 0 0 ∧ Below w.heap.size w w'
theorem made_end {w w1 : World} {v : Value} {xs : List Int} (h : Owns w1 w.heap.size 3 .i64 v xs) (hb : Below w.heap.size w w1) (hwf : ∀ x ∈ xs, (Lit.int .i64 x).wf = true) {e : Ending} (he : e = .returned (.pointer (some ⟨w1.heap.size, 0, none⟩))) : Made w xs e (w1.alloc (.cells #[v, .int .i64 0, .int .i64 0] 82)) := by
  obtain ⟨a, c, rfl, hr, hc, hm⟩ := h.shape
  refine ⟨w1.heap.size, he, hb.size, ⟨⟨a, _, c, heap_alloc_new _ _, rfl, hc, hm, hr.below ((Below.refl _ _).alloc (Nat.le_refl _) _), ?_⟩, hwf, by omega, by omega⟩, hb.alloc hb.size _⟩
  intro x hx
  subst hx
  have := (World.ownsRow.lt h x.block rfl).2
  omega
theorem tick_new (p : Option Addr) (n c : Nat) (xs : List Int) (w : World) (hl : xs.length = n) (hr : Reads .i64 w p xs) (hwf : ∀ x ∈ xs, (Lit.int .i64 x).wf = true) (hn : n ≤ 1000) : Calls Try.prog 13 #[.slice p n c] w (Made w xs) := by
  have HR := Lib.hid hr
  have HL := Lib.hid hl
  have HW := Lib.hid hwf
  clear hr hl hwf
  go_enter Try.func13, Try.ntmps13
  go_wp2_with (at_builtin; refine append_all (ys := []) (zs := xs) Try.underlying22 info_i64 rfl _ _ rfl rfl (Owns.nil _ _ _ _) rfl HL.out HR.out (Nat.le_refl _) (by simp; omega) ?_; intro v w1 hO hb; obtain ⟨q, d, hv, _⟩ := hO.shape; subst hv)
  have HO := Lib.hid hO
  clear hO
  go_wp2_with fail
  go_ret
  exact made_end (by simpa using HO.out) hb HW.out rfl
theorem live20 (w : World) : Calls Try.prog 12 #[] w fun e w' => e = .returned (.bool true) ∧ Below w.heap.size w w' := by
  have hr : Reads .i64 (w.alloc (.cells #[.int .i64 5, .int .i64 7] 3)) (some ⟨w.heap.size, 0, none⟩) [5, 7] :=
    .inr ⟨w.heap.size, 0, rfl, by simp, fun i hi => by
      rw [cell_of_row _ w.heap.size (0 + i) _ _ _ (heap_alloc_new _ _)]
      have : i = 0 ∨ i = 1 := by simp at hi; omega
      rcases this with rfl | rfl <;> rfl⟩
  have M := Lib.hid (fun c => tick_new (some ⟨w.heap.size, 0, none⟩) 2 c [5, 7] (w.alloc (.cells #[.int .i64 5, .int .i64 7] 3)) rfl hr (by decide) (by omega))
  have hB : Below w.heap.size w (w.alloc (.cells #[.int .i64 5, .int .i64 7] 3)) := (Below.refl _ _).alloc (Nat.le_refl _) _
  clear hr
  go_enter Try.func12, Try.ntmps12
  go_wp2_with fail
  generalize w.alloc (.cells #[.int .i64 5, .int .i64 7] 3) = W1 at *
  refine (M.out _).mono ?_
  rintro e w1 ⟨C, rfl, hC, hk, b1⟩
  have K := Lib.hid hk
  have hz := hB.size
  replace hB := hB.trans (b1.mono hB.size)
  clear hk b1 M
  go_wp2_with fail
  refine (now_on w.heap.size C 0 5 [7] 0 _ (by omega) (by omega) K.out).mono ?_
  rintro e w1 ⟨rfl, hk, b1⟩
  have K2 := Lib.hid hk
  replace hB := hB.trans b1
  clear hk b1 K
  rw [show stp 0 5 = 5 from by decide] at K2 ⊢
  go_wp2_with fail
  refine (now_on w.heap.size C 5 7 [] 1 _ (by omega) (by omega) K2.out).mono ?_
  rintro e w1 ⟨rfl, hk, b1⟩
  have K3 := Lib.hid hk
  replace hB := hB.trans b1
  clear hk b1 K2
  rw [show stp 5 7 = 12 from by decide] at K3 ⊢
  go_wp2_with fail
  refine (now_over w.heap.size C 12 2 _ (by omega) (by omega) K3.out).mono ?_
  rintro e w1 ⟨rfl, hk, b1⟩
  have K4 := Lib.hid hk
  replace hB := hB.trans b1
  clear hk b1 K3
  go_wp2_with fail
  refine (asked C [] 12 3 _ K4.out).mono ?_
  rintro e w1 ⟨rfl, rfl⟩
  go_wp2_with fail
  go_ret
  exact ⟨rfl, hB⟩
theorem r20_now (p : Option Addr) (n c : Nat) (xs : List Int) (j : Nat) (w : World) (hl : xs.length = n) (hr : Reads .i64 w p xs) (hwf : ∀ x ∈ xs, (Lit.int .i64 x).wf = true) (hn : n ≤ 1000) (hj : j ≤ 1000) : Calls Try.prog 15 #[.slice p n c, .int .i64 j] w fun e w' => e = .returned (.int .i64 (nw xs j)) ∧ w = w' := by
  have HR := Lib.hid hr
  have HL := Lib.hid hl
  have HW := Lib.hid hwf
  have HN := Lib.hid (show ∀ k, n ≤ k → nw xs k = nw xs n by
    intro k hk
    unfold nw
    rw [List.take_of_length_le (by omega), List.take_of_length_le (by omega)])
  clear hr hl hwf
  go_enter Try.func15, Try.ntmps15
  go_wp2_with fail
  go_loop [5, 6] (fun s i => ∃ k : Nat, k ≤ j ∧ k ≤ n ∧ i = .int .i64 k ∧ s = .int .i64 (nw xs k)) (fun _ i => j - (intOf i).toNat)
  case atStart => exact ⟨0, by omega, by omega, rfl, rfl⟩
  case round =>
    obtain ⟨k, hk, hkn, rfl, rfl⟩ := hrel
    by_cases h1 : k < j
    · by_cases h2 : k < n
      · rcases HR.out with h | ⟨b, off, rfl, hb, hcell⟩
        · have := HL.out; rw [h] at this; simp at this; omega
        have hc := hcell k (by rw [HL.out]; exact h2)
        have hx : -9223372036854775808 ≤ xs.getD k 0 ∧ xs.getD k 0 ≤ 9223372036854775807 := by
          have e : xs.getD k 0 = xs[k]'(by rw [HL.out]; exact h2) := by simp [List.getD, HL.out, h2]
          rw [e]; exact bounds_i64 (HW.out _ (List.getElem_mem _))
        have hs := nw_rng xs k
        have hn := nw_succ xs k (by rw [HL.out]; exact h2)
        generalize xs.getD k 0 = x at *
        generalize nw xs k = s at *
        have hq : (1152921504606846976 - s < x ∧ stp s x = 1152921504606846976) ∨ (¬ 1152921504606846976 - s < x ∧ 0 < x ∧ stp s x = s + x) ∨ (¬ 1152921504606846976 - s < x ∧ ¬ 0 < x ∧ stp s x = s) := by
          unfold stp; split
          · omega
          · split <;> omega
        rcases hq with ⟨k1, k2⟩ | ⟨k1, k3, k2⟩ | ⟨k1, k3, k2⟩
        all_goals
          rw [k2] at hn
          have HN2 := Lib.hid hn
          clear k2 hn hcell
          obtain ⟨s0, s1⟩ := hs
          obtain ⟨x0, x1⟩ := hx
          go_wp2_with fail
          go_round
          case rel => exact ⟨k + 1, by omega, by omega, by go_num, by rw [HN2.out]⟩
          case measure => (first | (simp [intOf]; done) | (simp [intOf]; omega) | (simp only [intOf]; omega))
      · have h3 := HN.out j (by omega)
        obtain rfl : k = n := by omega
        have H3 := Lib.hid h3
        go_wp2_with fail
        go_ret
        exact ⟨rfl, rfl⟩
    · obtain rfl : k = j := by omega
      go_wp2_with fail
      go_ret
      exact ⟨rfl, rfl⟩
end Go.Proofs.Ytlbkmheggdgfoaa
