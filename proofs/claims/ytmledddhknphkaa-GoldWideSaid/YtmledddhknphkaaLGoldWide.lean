/- GoldWide: numbers of 128 bits, sums of many. -/
import Derived.Test.YtmledddhknphkaaSum
import Derived.Test.YtmledddhknphkaaLGoldTells
namespace Go.Proofs.Ytmledddhknphkaa
open Go.ChangeShapes Go.WideShapes Go.ChangeAt Go.RowKit
set_option linter.unusedVariables false
namespace goldWide
theorem walk (W : World) (a0_0 : Int) (w0_0 : 0 ≤ a0_0 ∧ a0_0 ≤ 18446744073709551615) (a0_1 : Int) (w0_1 : 0 ≤ a0_1 ∧ a0_1 ≤ 18446744073709551615) (a1 : Option Addr) (n1 c1 : Nat) (w1 : IsRow .u64 W a1 n1 c1) :
    Calls Try.prog 8 #[.agg #[.int .u64 a0_0, .int .u64 a0_1], .slice a1 n1 c1] W fun e W' => e = .returned (.bool true) ∧ Below W.heap.size W W' := by
  obtain ⟨xs, hn, hnc, hmax, hr, hwf⟩ := w1
  obtain ⟨h0, h1⟩ := w0_0
  obtain ⟨l0, l1⟩ := w0_1
  by_cases hbig : 100 < n1
  · have hd : decide (100 < (n1 : Int)) = true := decide_eq_true (by omega)
    have HN := Lib.hid hn
    clear hn
    have hB : Below W.heap.size W (W.alloc (.cells #[.int .u64 a0_0, .int .u64 a0_1] 23)) := (Below.refl _ _).alloc (Nat.le_refl _) _
    go_enter Try.func8, Try.ntmps8
    go_wp2_with (first | (go_at_call 43; (with_reducible refine (live2 _).mono ?_); rintro e w' ⟨rfl, hb⟩))
    go_ret
    exact ⟨rfl, hB.trans (hb.mono hB.size)⟩
  · have hd : decide (100 < (n1 : Int)) = false := decide_eq_false (by omega)
    have HN := Lib.hid hn
    have HW := Lib.hid hwf
    have HR := Lib.hid hr
    have HZ := Lib.hid (fsum_zero xs)
    clear hn hwf hr
    have hB : Below W.heap.size W (W.alloc (.cells #[.int .u64 a0_0, .int .u64 a0_1] 23)) := (Below.refl _ _).alloc (Nat.le_refl _) _
    go_enter Try.func8, Try.ntmps8
    go_wp2_with fail
    go_loop [5, 6] (fun s i => ∃ k : Nat, k ≤ n1 ∧ i = .int .i64 k ∧ s = .int .u64 (fsum xs k)) (fun _ i => n1 - (intOf i).toNat)
    case atStart => exact ⟨0, Nat.zero_le _, rfl, by rw [HZ.out]⟩
    case round =>
      obtain ⟨k, hk, rfl, rfl⟩ := hrel
      by_cases hlt : k < n1
      · rcases HR.out with hnil | ⟨b, off, rfl, hb, hcell⟩
        · have := HN.out; rw [hnil] at this; simp at this; omega
        · have hc := hcell k (by rw [HN.out]; exact hlt)
          obtain ⟨g0, g1⟩ := words_at HW.out k (by rw [HN.out]; exact hlt)
          have HS := Lib.hid (fsum_succ' xs k (by rw [HN.out]; exact hlt))
          have s0 := fsum_lo xs k
          have s1 := fsum_hi xs k
          clear hcell
          generalize xs.getD k 0 = x at *
          go_wp2_with fail
          refine (r2_red _ _ g0 g1).mono ?_
          rintro e w1 ⟨rfl, rfl⟩
          go_wp2_with fail
          refine (r2_add _ _ _ s0 s1 (fm_lo _) (fm_hi _)).mono ?_
          rintro e w1 ⟨rfl, rfl⟩
          go_wp2_with fail
          go_round
          case rel => exact ⟨k + 1, by omega, by go_num, by rw [HS.out]⟩
          case measure => (first | (simp [intOf]; done) | (simp [intOf]; omega) | (simp only [intOf]; omega))
      · obtain rfl : k = n1 := by omega
        have sm : ∀ w, Below W.heap.size W w → Calls Try.prog 49 #[.slice a1 k c1] w fun e w' => e = .returned (.int .u64 (fsum xs k)) ∧ w = w' := fun w hw => by
          have := gold_sum a1 c1 xs w (HR.out.below hw) HW.out (by rw [HN.out]; exact hmax)
          rwa [HN.out] at this
        have SM := Lib.hid sm
        clear sm
        generalize hW1 : W.alloc (.cells #[.int .u64 a0_0, .int .u64 a0_1] 23) = W1 at *
        have k0 : W1.cell? ⟨W.heap.size, 0, none⟩ = some (.int .u64 a0_0) := by rw [← hW1]; simp [go_sem]
        have k1 : W1.cell? ⟨W.heap.size, 1, none⟩ = some (.int .u64 a0_1) := by rw [← hW1]; simp [go_sem]
        clear hW1
        go_wp2_with fail
        go_region_held3 (fun w' => w'.cell? ⟨W.heap.size, 0, none⟩ = some (.int .u64 a0_0) ∧ w'.cell? ⟨W.heap.size, 1, none⟩ = some (.int .u64 a0_1) ∧ Below W1.heap.size W1 w') (first | exact ⟨k0, k1, (Below.refl _ _).drew⟩ | (refine ⟨?_, ?_, ?_⟩ <;> assumption) | (refine keep3 k0 k1 ?_ hb; first | assumption | exact ⟨k0, k1, (Below.refl _ _).drew⟩)) (first | (go_at_call 47; refine (gold_wide _ _ _ h0 h1 l0 l1).mono ?_; rintro e w' ⟨rfl, hb⟩) | (go_at_call 48; refine (r2_widez _ _ _ h0 h1 l0 l1).mono ?_; rintro e w' ⟨rfl, rfl⟩) | (go_at_call 49; refine (SM.out _ ?_).mono ?_; (first | exact hB.trans ((by assumption : _ ∧ _ ∧ Below W1.heap.size W1 _).2.2.mono hB.size)); rintro e w' ⟨rfl, rfl⟩) | (go_at_call 43; refine (live2 _).mono ?_; rintro e w' ⟨rfl, hb⟩))
        go_wp2_with fail
        go_ret
        exact ⟨rfl, hB.trans ((by assumption : _ ∧ _ ∧ Below W1.heap.size W1 _).2.2.mono hB.size)⟩
end goldWide
end Go.Proofs.Ytmledddhknphkaa
