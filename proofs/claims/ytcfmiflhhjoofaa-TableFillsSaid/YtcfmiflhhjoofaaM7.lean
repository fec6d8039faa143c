/- Put together by program (merge.py): Vec. -/
import Derived.Test.YtcfmiflhhjoofaaM2
import Derived.Test.YtcfmiflhhjoofaaM6
/- Package vec. -/
namespace Go.Proofs.Ytcfmiflhhjoofaa
open Go.ChangeShapes Go.WideShapes Go.ChangeAt Go.RowKit
set_option linter.unusedVariables false

theorem vec_scale (a : Int) (p : Option Addr) (c : Nat) (xs : List Int) (w : World) (a0 : 0 ≤ a) (a1 : a ≤ 18446744073709551615) (hr : Reads .u64 w p xs) (hwf : ∀ x ∈ xs, (Lit.int .u64 x).wf = true) (hlen : xs.length ≤ 35184372088832) :
    Calls Try.prog 85 #[.slice p xs.length c, .int .u64 a] w fun e w' => e = .returned (.slice (some ⟨w.heap.size, 0, none⟩) xs.length xs.length) ∧ RowAt w' w.heap.size 43 (scl a xs) ∧ Below w.heap.size w w' := by
  obtain ⟨n, hn⟩ : ∃ n, xs.length = n := ⟨_, rfl⟩
  rw [hn] at hlen ⊢
  have HN := Lib.hid hn
  have hmk := make_u64 n hlen
  have HL := Lib.hid ((scl_len a xs).trans hn)
  have HW := Lib.hid hwf
  have HR := Lib.hid hr
  clear hn hwf hr
  go_enter Try.func85, Try.ntmps85
  go_wp2_with fail
  go_loopw [13] (fun i wr => ∃ k : Nat, k ≤ n ∧ i = .int .i64 k ∧ Hid (Filling wr w.heap.size 43 (scl a xs) k n) ∧ Below w.heap.size w wr) (fun i _ => n - (intOf i).toNat)
  case atStart => exact ⟨0, Nat.zero_le _, rfl, Lib.hid (Filling.start w _ _ n), (Below.refl _ _).alloc (Nat.le_refl _) _⟩
  case round =>
    obtain ⟨k, hk, rfl, HFL, hB⟩ := hrel
    have hsz := HFL.out.lt
    by_cases hlt : k < n
    · rcases HR.out with hnil | ⟨b, off, rfl, hb, hcell⟩
      · have := HN.out; rw [hnil] at this; simp at this; omega
      · have hc0 := hcell k (by rw [HN.out]; exact hlt)
        obtain ⟨g0, g1⟩ := words_at HW.out k (by rw [HN.out]; exact hlt)
        have HS := Lib.hid (scl_at a xs k (by rw [HN.out]; exact hlt))
        clear hcell
        generalize xs.getD k 0 = x at *
        have hc : wr.cell? ⟨b, off + k, none⟩ = some (.int .u64 x) := (hB.cell (p := ⟨b, off + k, none⟩) hb).trans hc0
        clear hc0
        go_wp2_with fail
        refine (gold_mul _ _ _ a0 a1 g0 g1).mono ?_
        rintro e w1 ⟨rfl, hb1⟩
        have hfl := HFL.out.below hb1
        obtain ⟨u, hu⟩ := hfl.cell hlt HL.out
        have hfr := hfl.free k
        have HG := Lib.hid (hfl.step hlt HL.out HS.out)
        clear hfl
        go_wp2_with fail
        go_roundw
        case rel => exact ⟨k + 1, by omega, by go_num, HG, (hB.trans (hb1.mono hB.size)).setCell (Nat.le_refl _) _⟩
        case measure => (first | (simp [intOf]; done) | (simp [intOf]; omega) | (simp only [intOf]; omega))
    · obtain rfl : k = n := by omega
      go_wp2_with fail
      go_ret
      exact ⟨rfl, HFL.out.done HL.out, hB⟩

theorem vec_red (p : Option Addr) (c : Nat) (xs : List Int) (w : World) (hr : Reads .u64 w p xs) (hwf : ∀ x ∈ xs, (Lit.int .u64 x).wf = true) (hlen : xs.length ≤ 35184372088832) :
    Calls Try.prog 78 #[.slice p xs.length c] w fun e w' => e = .returned (.slice (some ⟨w.heap.size, 0, none⟩) xs.length xs.length) ∧ RowAt w' w.heap.size 43 (scl 1 xs) ∧ Below w.heap.size w w' := by
  have Z := Lib.hid (vec_scale 1 p c xs w (by decide) (by decide) hr hwf hlen)
  go_enter Try.func78, Try.ntmps78
  go_wp2_with fail
  refine Z.out.mono ?_
  rintro e w1 ⟨rfl, hq⟩
  have HQ := Lib.hid hq
  clear hq
  go_wp2_with fail
  go_ret
  exact ⟨rfl, HQ.out⟩

end Go.Proofs.Ytcfmiflhhjoofaa
