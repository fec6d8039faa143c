/- The document's own answers of layer 5 (dulcimerref05). -/
import Derived.Test.YtkijiljipacfjaaOwn
import Derived.Test.YtkijiljipacfjaaRefb
import Derived.Test.YtkijiljipacfjaaSum
namespace Go.Proofs.Ytkijiljipacfjaa
open Go.ChangeShapes Go.WideShapes Go.ChangeAt Go.RowKit
set_option linter.unusedVariables false

/-- Reduced. -/
def redl (xs : List Int) : List Int := xs.map fm
theorem redl_len (xs : List Int) : (redl xs).length = xs.length := by unfold redl; simp
theorem redl_at (xs : List Int) (k : Nat) (h : k < xs.length) : (redl xs).getD k 0 = fm (xs.getD k 0) := by
  unfold redl; simp [List.getD, h]

theorem r5_red (p : Option Addr) (c : Nat) (xs : List Int) (w : World) (hr : Reads .u64 w p xs) (hwf : ∀ x ∈ xs, (Lit.int .u64 x).wf = true) (hlen : xs.length ≤ 17592186044415) :
    Calls Try.prog 24 #[.slice p xs.length c] w fun e w' => ∃ v, e = .returned v ∧ Owns w' w.heap.size 35 .u64 v (redl xs) ∧ Below w.heap.size w w' := by
  obtain ⟨n, hn⟩ : ∃ n, xs.length = n := ⟨_, rfl⟩
  rw [hn] at hlen ⊢
  have HN := Lib.hid hn
  have HL := Lib.hid ((redl_len xs).trans hn)
  have HW := Lib.hid hwf
  have HR := Lib.hid hr
  clear hn hwf hr
  go_enter Try.func24, Try.ntmps24
  go_wp2_with fail
  go_loopw [3, 4] (fun v i wr => ∃ k : Nat, k ≤ n ∧ i = .int .i64 k ∧ Hid (Owns wr w.heap.size 35 .u64 v (upto (redl xs) k)) ∧ Below w.heap.size w wr) (fun _ i _ => n - (intOf i).toNat)
  case atStart => exact ⟨0, Nat.zero_le _, rfl, Lib.hid (Owns.nil _ _ _ _), Below.refl _ _⟩
  case round =>
    obtain ⟨k, hk, rfl, HO, hB⟩ := hrel
    by_cases hlt : k < n
    · rcases HR.out with hnil | ⟨b, off, rfl, hb, hcell⟩
      · have := HN.out; rw [hnil] at this; simp at this; omega
      · have hc0 := hcell k (by rw [HN.out]; exact hlt)
        obtain ⟨g0, g1⟩ := words_at HW.out k (by rw [HN.out]; exact hlt)
        have HS := Lib.hid (upto_snoc (redl xs) k _ (by rw [HL.out]; exact hlt) (redl_at xs k (by rw [HN.out]; exact hlt)))
        have HK := Lib.hid (upto_len (redl xs) k (by rw [HL.out]; exact hk))
        clear hcell
        generalize xs.getD k 0 = x at *
        have hc : wr.cell? ⟨b, off + k, none⟩ = some (.int .u64 x) := (hB.cell (p := ⟨b, off + k, none⟩) hb).trans hc0
        clear hc0
        go_wp2_with (first | (go_at_call 60; (with_reducible refine (r2_red _ _ g0 g1).mono ?_); rintro e w' ⟨rfl, rfl⟩) | (at_builtin; refine append_one Try.underlying22 info_u64 rfl _ _ rfl rfl HO.out rfl hB.size (by rw [HK.out]; omega) ?_; intro v' w' hO hb'))
        have HO2 := Lib.hid hO
        clear hO
        go_wp2_with fail
        go_roundw
        case rel => exact ⟨k + 1, by omega, by go_num, by rw [← HS.out]; exact HO2, hB.trans hb'⟩
        case measure => (first | (simp [intOf]; done) | (simp [intOf]; omega) | (simp only [intOf]; omega))
    · obtain rfl : k = n := by omega
      go_wp2_with fail
      go_ret
      exact ⟨_, rfl, by rw [← upto_full (redl xs) k HL.out]; exact HO.out, hB⟩

end Go.Proofs.Ytkijiljipacfjaa
