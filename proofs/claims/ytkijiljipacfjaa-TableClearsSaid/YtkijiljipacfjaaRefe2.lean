/- The document's own sums, products of two rows (dulcimerref05). -/
import Derived.Test.YtkijiljipacfjaaRefe
namespace Go.Proofs.Ytkijiljipacfjaa
open Go.ChangeShapes Go.WideShapes Go.ChangeAt Go.RowKit
set_option linter.unusedVariables false

set_option maxRecDepth 100000 in
theorem r5_mul (p q : Option Addr) (c d : Nat) (xs ys : List Int) (w : World) (hr : Reads .u64 w p xs) (hr2 : Reads .u64 w q ys) (hwf : ∀ x ∈ xs, (Lit.int .u64 x).wf = true) (hwf2 : ∀ x ∈ ys, (Lit.int .u64 x).wf = true) (hlen : xs.length ≤ 17592186044415) (heq : xs.length = ys.length) :
    Calls Try.prog 27 #[.slice p xs.length c, .slice q xs.length d] w fun e w' => ∃ v, e = .returned v ∧ Owns w' w.heap.size 35 .u64 v (zmul xs ys) ∧ Below w.heap.size w w' := by
  obtain ⟨n, hn⟩ : ∃ n, xs.length = n := ⟨_, rfl⟩
  have hny : ys.length = n := by rw [← heq, hn]
  rw [hn] at hlen ⊢
  have HN := Lib.hid hn
  have HNY := Lib.hid hny
  have HEQ := Lib.hid heq
  have HL := Lib.hid ((zmul_len xs ys heq).trans hn)
  have HW := Lib.hid hwf
  have HR := Lib.hid hr
  have HW2 := Lib.hid hwf2
  have HR2 := Lib.hid hr2
  clear hn hwf hr hwf2 hr2 heq hny
  go_enter Try.func27, Try.ntmps27
  go_wp2_with fail
  go_loopw [5, 6] (fun v i wr => ∃ k : Nat, k ≤ n ∧ i = .int .i64 k ∧ Hid (Owns wr w.heap.size 35 .u64 v (upto (zmul xs ys) k)) ∧ Below w.heap.size w wr) (fun _ i _ => n - (intOf i).toNat)
  case atStart => exact ⟨0, Nat.zero_le _, rfl, Lib.hid (Owns.nil _ _ _ _), Below.refl _ _⟩
  case round =>
    obtain ⟨k, hk, rfl, HO, hB⟩ := hrel
    by_cases hlt : k < n
    · rcases HR.out with hnil | ⟨b, off, rfl, hb, hcell⟩
      · have := HN.out; rw [hnil] at this; simp at this; omega
      rcases HR2.out with hnil | ⟨b', off', rfl, hb', hcell'⟩
      · have := HNY.out; rw [hnil] at this; simp at this; omega
      have hc0 := hcell k (by rw [HN.out]; exact hlt)
      have hc0' := hcell' k (by rw [HNY.out]; exact hlt)
      obtain ⟨g0, g1⟩ := words_at HW.out k (by rw [HN.out]; exact hlt)
      obtain ⟨g0', g1'⟩ := words_at HW2.out k (by rw [HNY.out]; exact hlt)
      have HS := Lib.hid (upto_snoc (zmul xs ys) k _ (by rw [HL.out]; exact hlt) (zmul_at xs ys k (by rw [HN.out]; exact hlt) HEQ.out))
      have HK := Lib.hid (upto_len (zmul xs ys) k (by rw [HL.out]; exact hk))
      clear hcell hcell'
      generalize xs.getD k 0 = x at *
      generalize ys.getD k 0 = y at *
      have hc : wr.cell? ⟨b, off + k, none⟩ = some (.int .u64 x) := (hB.cell (p := ⟨b, off + k, none⟩) hb).trans hc0
      have hc' : wr.cell? ⟨b', off' + k, none⟩ = some (.int .u64 y) := (hB.cell (p := ⟨b', off' + k, none⟩) hb').trans hc0'
      clear hc0 hc0'
      have hbz : b < wr.heap.size := by have := hB.size; omega
      have hbz' : b' < wr.heap.size := by have := hB.size; omega
      go_wp2_with fail
      go_region_held3 (fun w' => w'.cell? ⟨b, off + k, none⟩ = some (.int .u64 x) ∧ w'.cell? ⟨b', off' + k, none⟩ = some (.int .u64 y) ∧ Below w.heap.size w w') (first | exact ⟨hc, hc', hB.drew⟩ | assumption | exact keepB (p := ⟨b, off + k, none⟩) (q := ⟨b', off' + k, none⟩) hb hb' ⟨hc, hc', hB⟩ ((((Below.refl _ _).alloc hB.size _)).drew) | (refine keepB (p := ⟨b, off + k, none⟩) (q := ⟨b', off' + k, none⟩) hb hb' ?_ hb2; assumption)) (first | (go_at_call 60; (with_reducible refine (r2_red _ _ (by assumption) (by assumption)).mono ?_); rintro e w' ⟨rfl, rfl⟩) | (go_at_call 59; (with_reducible refine (r2_mulf _ _ _).mono ?_); rintro e w' ⟨rfl, rfl⟩) | (refine step_plain ?_ ?_; rfl; apply wp_append_one (y := fm (x * y)) (ys := upto (zmul xs ys) k) (H := wr.heap.size) Try.underlying22 info_u64; rfl; rfl; (refine Owns.below HO.out ?_); (focus (go_grown)); rfl; (focus (simp [go_sem]; done)); (focus (have := hB.size; simp; omega)); (focus (rw [HK.out]; omega)); intro v' w' hO hb2))
      have HO2 := Lib.hid (by assumption : Owns _ _ _ _ _ (upto (zmul xs ys) k ++ _))
      have hS2 := Lib.hid (by assumption : _ ∧ _ ∧ Below w.heap.size w _)
      go_wp2_with fail
      go_roundw
      case rel => exact ⟨k + 1, by omega, by go_num, by rw [← HS.out]; exact HO2, hS2.out.2.2⟩
      case measure => (first | (simp [intOf]; done) | (simp [intOf]; omega) | (simp only [intOf]; omega))
    · obtain rfl : k = n := by omega
      go_wp2_with fail
      go_ret
      exact ⟨_, rfl, by rw [← upto_full (zmul xs ys) k HL.out]; exact HO.out, hB⟩


theorem scl_at' (a : Int) (xs : List Int) (k : Nat) (h : k < xs.length) : (scl a xs).getD k 0 = fm (xs.getD k 0 * a) := by
  rw [scl_at a xs k h, Int.mul_comm]

theorem fsum_dot (xs ys : List Int) (k : Nat) (h : k < xs.length) (h' : xs.length = ys.length) : fm (fsum (zmul xs ys) k + fm (xs.getD k 0 * ys.getD k 0)) = fsum (zmul xs ys) (k + 1) := by
  rw [← zmul_at xs ys k h h', fsum_succ _ _ (by rw [zmul_len xs ys h']; exact h)]

end Go.Proofs.Ytkijiljipacfjaa
