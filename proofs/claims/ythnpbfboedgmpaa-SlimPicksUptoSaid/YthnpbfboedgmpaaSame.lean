/- The reference's Same: are two rows one? -/
import Derived.Test.YthnpbfboedgmpaaRowz
namespace Go.Proofs.Ythnpbfboedgmpaa
open Go.ChangeShapes Go.WideShapes Go.ChangeAt Go.RowKit
set_option linter.unusedVariables false

theorem take_eq_step {xs ys : List Int} {k : Nat} (h : xs.take k = ys.take k) (hx : k < xs.length) (hy : k < ys.length) (e : xs.getD k 0 = ys.getD k 0) : xs.take (k + 1) = ys.take (k + 1) := by
  have ex : xs.getD k 0 = xs[k] := by simp [List.getD, hx]
  have ey : ys.getD k 0 = ys[k] := by simp [List.getD, hy]
  rw [List.take_succ_eq_append_getElem hx, List.take_succ_eq_append_getElem hy, h, ← ex, ← ey, e]
theorem ne_of_at {xs ys : List Int} {k : Nat} (h : xs.getD k 0 ≠ ys.getD k 0) : xs ≠ ys := fun e => h (by rw [e])

theorem r2_same (p q : Option Addr) (c d : Nat) (xs ys : List Int) (w : World) (hr : Reads .u64 w p xs) (hr2 : Reads .u64 w q ys) (hl : xs.length ≤ 9223372036854775807) :
    Calls Try.prog 25 #[.slice p xs.length c, .slice q ys.length d] w fun e w' => e = .returned (.bool (decide (xs = ys))) ∧ Below w.heap.size w w' := by
  by_cases hne : xs.length = ys.length
  · obtain ⟨n, hn⟩ : ∃ n, xs.length = n := ⟨_, rfl⟩
    have hny : ys.length = n := by rw [← hne, hn]
    rw [hn] at hl ⊢
    rw [hny]
    have HN := Lib.hid hn
    have HNY := Lib.hid hny
    have HR := Lib.hid hr
    have HR2 := Lib.hid hr2
    have hq : ((n : Int) != (n : Int)) = false := by simp
    clear hn hny hr hr2 hne
    go_enter Try.func25, Try.ntmps25
    go_wp2_with fail
    go_loopw [5] (fun i wr => ∃ k : Nat, k ≤ n ∧ i = .int .i64 k ∧ Hid (xs.take k = ys.take k) ∧ Below w.heap.size w wr) (fun i _ => n - (intOf i).toNat)
    case atStart => exact ⟨0, Nat.zero_le _, rfl, Lib.hid rfl, Below.refl _ _⟩
    case round =>
      obtain ⟨k, hk, rfl, HT, hB⟩ := hrel
      by_cases hlt : k < n
      · rcases HR.out with hnil | ⟨b, off, rfl, hb, hcell⟩
        · have := HN.out; rw [hnil] at this; simp at this; omega
        rcases HR2.out with hnil | ⟨b', off', rfl, hb', hcell'⟩
        · have := HNY.out; rw [hnil] at this; simp at this; omega
        have hc0 := hcell k (by rw [HN.out]; exact hlt)
        have hc0' := hcell' k (by rw [HNY.out]; exact hlt)
        have HS := Lib.hid (fun e => take_eq_step HT.out (by rw [HN.out]; exact hlt) (by rw [HNY.out]; exact hlt) e)
        have HD := Lib.hid (ne_of_at (xs := xs) (ys := ys) (k := k))
        clear hcell hcell'
        generalize xs.getD k 0 = x at *
        generalize ys.getD k 0 = y at *
        have hc : wr.cell? ⟨b, off + k, none⟩ = some (.int .u64 x) := (hB.cell (p := ⟨b, off + k, none⟩) hb).trans hc0
        have hc' : wr.cell? ⟨b', off' + k, none⟩ = some (.int .u64 y) := (hB.cell (p := ⟨b', off' + k, none⟩) hb').trans hc0'
        clear hc0 hc0'
        by_cases hxy : x = y
        · have HG := Lib.hid (HS.out hxy)
          have hq2 : (x != y) = false := by simpa using hxy
          clear hxy
          go_wp2_with fail
          go_quiet (fail)
          go_wp2_with fail
          go_roundw
          case rel => exact ⟨k + 1, by omega, by go_num, HG, below_drewN hB _⟩
          case measure => (first | (simp [intOf]; done) | (simp [intOf]; omega) | (simp only [intOf]; omega))
        · have HG := Lib.hid (HD.out hxy)
          have hq2 : (x != y) = true := by simpa using hxy
          clear hxy
          go_wp2_with fail
          go_quiet (fail)
          go_wp2_with fail
          go_ret
          exact ⟨ret_bool (by simp [HG.out]), below_drewN hB _⟩
      · obtain rfl : k = n := by omega
        have hfin : xs = ys := by
          have := HT.out
          rwa [List.take_of_length_le (by rw [HN.out]; exact Nat.le_refl _), List.take_of_length_le (by rw [HNY.out]; exact Nat.le_refl _)] at this
        have HG := Lib.hid hfin
        clear hfin
        go_wp2_with fail
        go_ret
        exact ⟨ret_bool (by simp [HG.out]), hB⟩
  · have hq : ((xs.length : Int) != (ys.length : Int)) = true := by simp; omega
    have HG := Lib.hid (show xs ≠ ys from fun e => hne (by rw [e]))
    clear hne
    go_enter Try.func25, Try.ntmps25
    go_wp2_with fail
    go_ret
    exact ⟨ret_bool (by simp [HG.out]), Below.refl _ _⟩

end Go.Proofs.Ythnpbfboedgmpaa
