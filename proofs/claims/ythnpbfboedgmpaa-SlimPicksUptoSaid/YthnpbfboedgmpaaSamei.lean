/- The reference's Same of ints: are two rows one? -/
import Derived.Test.YthnpbfboedgmpaaSame
import Derived.Test.YthnpbfboedgmpaaRowset
namespace Go.Proofs.Ythnpbfboedgmpaa
open Go.ChangeShapes Go.WideShapes Go.ChangeAt Go.RowKit
set_option linter.unusedVariables false
theorem r3_samei (p q : Option Addr) (c d : Nat) (xs ys : List Int) (w : World) (hr : Reads .i64 w p xs) (hr2 : Reads .i64 w q ys) (hl : xs.length ≤ 9223372036854775807) :
    Calls Try.prog 9 #[.slice p xs.length c, .slice q ys.length d] w fun e w' => e = .returned (.bool (decide (xs = ys))) ∧ Below w.heap.size w w' := by
  by_cases hne : xs.length = ys.length
  · obtain ⟨n, hn⟩ : ∃ n, xs.length = n := ⟨_, rfl⟩
    have hny : ys.length = n := by rw [← hne, hn]
    rw [hn] at hl ⊢
    rw [hny]
    have HN := Lib.hid hn
    have HNY := Lib.hid hny
    have HR := Lib.hid hr
    have HR2 := Lib.hid hr2
    have hq : ((n : Int) != (n : Int)) = false := by simp
    clear hn hny hr hr2 hne
    go_enter Try.func9, Try.ntmps9
    go_wp2_with fail
    go_loopw [5] (fun i wr => ∃ k : Nat, k ≤ n ∧ i = .int .i64 k ∧ Hid (xs.take k = ys.take k) ∧ Below w.heap.size w wr) (fun i _ => n - (intOf i).toNat)
    case atStart => exact ⟨0, Nat.zero_le _, rfl, Lib.hid rfl, Below.refl _ _⟩
    case round =>
      obtain ⟨k, hk, rfl, HT, hB⟩ := hrel
      by_cases hlt : k < n
      · rcases HR.out with hnil | ⟨b, off, rfl, hb, hcell⟩
        · have := HN.out; rw [hnil] at this; simp at this; omega
        rcases HR2.out with hnil | ⟨b', off', rfl, hb', hcell'⟩
        · have := HNY.out; rw [hnil] at this; simp at this; omega
        have hc0 := hcell k (by rw [HN.out]; exact hlt)
        have hc0' := hcell' k (by rw [HNY.out]; exact hlt)
        have HS := Lib.hid (fun e => take_eq_step HT.out (by rw [HN.out]; exact hlt) (by rw [HNY.out]; exact hlt) e)
        have HD := Lib.hid (ne_of_at (xs := xs) (ys := ys) (k := k))
        clear hcell hcell'
        generalize xs.getD k 0 = x at *
        generalize ys.getD k 0 = y at *
        have hc : wr.cell? ⟨b, off + k, none⟩ = some (.int .i64 x) := (hB.cell (p := ⟨b, off + k, none⟩) hb).trans hc0
        have hc' : wr.cell? ⟨b', off' + k, none⟩ = some (.int .i64 y) := (hB.cell (p := ⟨b', off' + k, none⟩) hb').trans hc0'
        clear hc0 hc0'
        by_cases hxy : x = y
        · have HG := Lib.hid (HS.out hxy)
          have hq2 : (x != y) = false := by simpa using hxy
          clear hxy
          go_wp2_with fail
          go_quiet (fail)
          go_wp2_with fail
          go_roundw
          case rel => exact ⟨k + 1, by omega, by go_num, HG, below_drewN hB _⟩
          case measure => (first | (simp [intOf]; done) | (simp [intOf]; omega) | (simp only [intOf]; omega))
        · have HG := Lib.hid (HD.out hxy)
          have hq2 : (x != y) = true := by simpa using hxy
          clear hxy
          go_wp2_with fail
          go_quiet (fail)
          go_wp2_with fail
          go_ret
          exact ⟨ret_bool (by simp [HG.out]), below_drewN hB _⟩
      · obtain rfl : k = n := by omega
        have hfin : xs = ys := by
          have := HT.out
          rwa [List.take_of_length_le (by rw [HN.out]; exact Nat.le_refl _), List.take_of_length_le (by rw [HNY.out]; exact Nat.le_refl _)] at this
        have HG := Lib.hid hfin
        clear hfin
        go_wp2_with fail
        go_ret
        exact ⟨ret_bool (by simp [HG.out]), hB⟩
  · have hq : ((xs.length : Int) != (ys.length : Int)) = true := by simp; omega
    have HG := Lib.hid (show xs ≠ ys from fun e => hne (by rw [e]))
    clear hne
    go_enter Try.func9, Try.ntmps9
    go_wp2_with fail
    go_ret
    exact ⟨ret_bool (by simp [HG.out]), Below.refl _ _⟩

/-- Two rows of ints. -/
theorem c_samei {w : World} {p q : Option Addr} {n c d : Nat} {xs : List Int} (h : RowI w p n xs) (k : RowI w q n xs) : Calls Try.prog 9 #[.slice p n c, .slice q n d] w fun e w' => e = .returned (.bool true) ∧ Below w.heap.size w w' := by
  obtain ⟨rfl, hr, hw, hs⟩ := h
  obtain ⟨_, kr, kw, _⟩ := k
  have := r3_samei p q c d xs xs w hr kr (by omega)
  rwa [decide_eq_true rfl] at this
end Go.Proofs.Ythnpbfboedgmpaa
