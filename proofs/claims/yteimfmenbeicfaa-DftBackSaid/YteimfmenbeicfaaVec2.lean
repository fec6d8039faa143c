/- vec.Same. -/
import Derived.Test.YteimfmenbeicfaaVec
import Derived.Test.YteimfmenbeicfaaSame
import Derived.Test.YteimfmenbeicfaaRefe
namespace Go.Proofs.Yteimfmenbeicfaa
open Go.ChangeShapes Go.WideShapes Go.ChangeAt Go.RowKit
set_option linter.unusedVariables false

theorem vec_same (p q : Option Addr) (c d : Nat) (xs ys : List Int) (w : World) (hr : Reads .u64 w p xs) (hr2 : Reads .u64 w q ys) (hwf : ∀ x ∈ xs, (Lit.int .u64 x).wf = true) (hwf2 : ∀ x ∈ ys, (Lit.int .u64 x).wf = true) (hl : xs.length ≤ 9223372036854775807) :
    Calls Try.prog 39 #[.slice p xs.length c, .slice q ys.length d] w fun e w' => e = .returned (.bool (decide (redl xs = redl ys))) ∧ Below w.heap.size w w' := by
  by_cases hne : xs.length = ys.length
  · obtain ⟨n, hn⟩ : ∃ n, xs.length = n := ⟨_, rfl⟩
    have hny : ys.length = n := by rw [← hne, hn]
    rw [hn] at hl ⊢
    rw [hny]
    have HN := Lib.hid hn
    have HNY := Lib.hid hny
    have HR := Lib.hid hr
    have HR2 := Lib.hid hr2
    have HW := Lib.hid hwf
    have HW2 := Lib.hid hwf2
    have hq : ((n : Int) != (n : Int)) = false := by simp
    clear hn hny hr hr2 hne hwf hwf2
    go_enter Try.func39, Try.ntmps39
    go_wp2_with fail
    go_loopw [14] (fun i wr => ∃ k : Nat, k ≤ n ∧ i = .int .i64 k ∧ Hid ((redl xs).take k = (redl ys).take k) ∧ Below w.heap.size w wr) (fun i _ => n - (intOf i).toNat)
    case atStart => exact ⟨0, Nat.zero_le _, rfl, Lib.hid rfl, Below.refl _ _⟩
    case round =>
      obtain ⟨k, hk, rfl, HT, hB⟩ := hrel
      by_cases hlt : k < n
      · rcases HR.out with hnil | ⟨b, off, rfl, hb, hcell⟩
        · have := HN.out; rw [hnil] at this; simp at this; omega
        rcases HR2.out with hnil | ⟨b', off', rfl, hb', hcell'⟩
        · have := HNY.out; rw [hnil] at this; simp at this; omega
        have hc0 := hcell k (by rw [HN.out]; exact hlt)
        have hc0' := hcell' k (by rw [HNY.out]; exact hlt)
        obtain ⟨g0, g1⟩ := words_at HW.out k (by rw [HN.out]; exact hlt)
        obtain ⟨g0', g1'⟩ := words_at HW2.out k (by rw [HNY.out]; exact hlt)
        have ex := redl_at xs k (by rw [HN.out]; exact hlt)
        have ey := redl_at ys k (by rw [HNY.out]; exact hlt)
        have HS := Lib.hid (fun e : fm (xs.getD k 0) = fm (ys.getD k 0) => take_eq_step HT.out (by rw [redl_len, HN.out]; exact hlt) (by rw [redl_len, HNY.out]; exact hlt) (by rw [ex, ey, e]))
        have HD := Lib.hid (fun e : fm (xs.getD k 0) ≠ fm (ys.getD k 0) => ne_of_at (xs := redl xs) (ys := redl ys) (k := k) (by rw [ex, ey]; exact e))
        clear hcell hcell' ex ey
        generalize xs.getD k 0 = x at *
        generalize ys.getD k 0 = y at *
        have hc : wr.cell? ⟨b, off + k, none⟩ = some (.int .u64 x) := (hB.cell (p := ⟨b, off + k, none⟩) hb).trans hc0
        have hc' : wr.cell? ⟨b', off' + k, none⟩ = some (.int .u64 y) := (hB.cell (p := ⟨b', off' + k, none⟩) hb').trans hc0'
        clear hc0 hc0'
        by_cases hxy : fm x = fm y
        · have HG := Lib.hid (HS.out hxy)
          have hq2 : (fm x != fm y) = false := by simpa using hxy
          clear hxy
          go_wp2_with fail
          go_region_held3 (fun w' => w'.cell? ⟨b', off' + k, none⟩ = some (.int .u64 y) ∧ Below w.heap.size w w') (first | exact ⟨hc', hB.drew⟩ | assumption) (first | (go_at_call 59; (with_reducible refine (gold_red _ _ (by assumption) (by assumption)).mono ?_); rintro e w' ⟨rfl, rfl⟩))
          have hS2 := Lib.hid (by assumption : _ ∧ Below w.heap.size w _)
          go_wp2_with fail
          go_roundw
          case rel => exact ⟨k + 1, by omega, by go_num, HG, hS2.out.2⟩
          case measure => (first | (simp [intOf]; done) | (simp [intOf]; omega) | (simp only [intOf]; omega))
        · have HG := Lib.hid (HD.out hxy)
          have hq2 : (fm x != fm y) = true := by simpa using hxy
          clear hxy
          go_wp2_with fail
          go_region_held3 (fun w' => w'.cell? ⟨b', off' + k, none⟩ = some (.int .u64 y) ∧ Below w.heap.size w w') (first | exact ⟨hc', hB.drew⟩ | assumption) (first | (go_at_call 59; (with_reducible refine (gold_red _ _ (by assumption) (by assumption)).mono ?_); rintro e w' ⟨rfl, rfl⟩))
          have hS2 := Lib.hid (by assumption : _ ∧ Below w.heap.size w _)
          go_wp2_with fail
          go_ret
          exact ⟨ret_bool (by simp [HG.out]), hS2.out.2⟩
      · obtain rfl : k = n := by omega
        have hfin : redl xs = redl ys := by
          have := HT.out
          rwa [List.take_of_length_le (by rw [redl_len, HN.out]; exact Nat.le_refl _), List.take_of_length_le (by rw [redl_len, HNY.out]; exact Nat.le_refl _)] at this
        have HG := Lib.hid hfin
        clear hfin
        go_wp2_with fail
        go_ret
        exact ⟨ret_bool (by simp [HG.out]), hB⟩
  · have hq : ((xs.length : Int) != (ys.length : Int)) = true := by simp; omega
    have HG := Lib.hid (show redl xs ≠ redl ys from fun e => hne (by rw [← redl_len xs, ← redl_len ys, e]))
    clear hne
    go_enter Try.func39, Try.ntmps39
    go_wp2_with fail
    go_ret
    exact ⟨ret_bool (by simp [HG.out]), Below.refl _ _⟩

end Go.Proofs.Yteimfmenbeicfaa
