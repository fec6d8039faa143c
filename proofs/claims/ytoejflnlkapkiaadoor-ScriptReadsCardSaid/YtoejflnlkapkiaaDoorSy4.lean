/- Put together by program (merge2.py): Vec Same Refe Vec2 Vec3. -/
import Derived.Test.YtoejflnlkapkiaaDoorSy1
import Derived.Test.YtoejflnlkapkiaaDoorSy3
/- Package vec. -/
namespace Go.Proofs.YtoejflnlkapkiaaDoor
open Go.ChangeShapes Go.WideShapes Go.ChangeAt Go.RowKit
set_option linter.unusedVariables false

end Go.Proofs.YtoejflnlkapkiaaDoor
/- The reference's Same: are two rows one? -/
namespace Go.Proofs.YtoejflnlkapkiaaDoor
open Go.ChangeShapes Go.WideShapes Go.ChangeAt Go.RowKit
set_option linter.unusedVariables false

theorem take_eq_step {xs ys : List Int} {k : Nat} (h : xs.take k = ys.take k) (hx : k < xs.length) (hy : k < ys.length) (e : xs.getD k 0 = ys.getD k 0) : xs.take (k + 1) = ys.take (k + 1) := by
  have ex : xs.getD k 0 = xs[k] := by simp [List.getD, hx]
  have ey : ys.getD k 0 = ys[k] := by simp [List.getD, hy]
  rw [List.take_succ_eq_append_getElem hx, List.take_succ_eq_append_getElem hy, h, ← ex, ← ey, e]
theorem ne_of_at {xs ys : List Int} {k : Nat} (h : xs.getD k 0 ≠ ys.getD k 0) : xs ≠ ys := fun e => h (by rw [e])

theorem r2_same (p q : Option Addr) (c d : Nat) (xs ys : List Int) (w : World) (hr : Reads .u64 w p xs) (hr2 : Reads .u64 w q ys) (hl : xs.length ≤ 9223372036854775807) :
    Calls Tryd.prog 34 #[.slice p xs.length c, .slice q ys.length d] w fun e w' => e = .returned (.bool (decide (xs = ys))) ∧ Below w.heap.size w w' := by
  by_cases hne : xs.length = ys.length
  · obtain ⟨n, hn⟩ : ∃ n, xs.length = n := ⟨_, rfl⟩
    have hny : ys.length = n := by rw [← hne, hn]
    rw [hn] at hl ⊢
    rw [hny]
    have HN := Lib.hid hn
    have HNY := Lib.hid hny
    have HR := Lib.hid hr
    have HR2 := Lib.hid hr2
    have hq : ((n : Int) != (n : Int)) = false := by simp
    clear hn hny hr hr2 hne
    go_enter Tryd.func34, Tryd.ntmps34
    go_wp2_with fail
    go_loopw [5] (fun i wr => ∃ k : Nat, k ≤ n ∧ i = .int .i64 k ∧ Hid (xs.take k = ys.take k) ∧ Below w.heap.size w wr) (fun i _ => n - (intOf i).toNat)
    case atStart => exact ⟨0, Nat.zero_le _, rfl, Lib.hid rfl, Below.refl _ _⟩
    case round =>
      obtain ⟨k, hk, rfl, HT, hB⟩ := hrel
      by_cases hlt : k < n
      · rcases HR.out with hnil | ⟨b, off, rfl, hb, hcell⟩
        · have := HN.out; rw [hnil] at this; simp at this; omega
        rcases HR2.out with hnil | ⟨b', off', rfl, hb', hcell'⟩
        · have := HNY.out; rw [hnil] at this; simp at this; omega
        have hc0 := hcell k (by rw [HN.out]; exact hlt)
        have hc0' := hcell' k (by rw [HNY.out]; exact hlt)
        have HS := Lib.hid (fun e => take_eq_step HT.out (by rw [HN.out]; exact hlt) (by rw [HNY.out]; exact hlt) e)
        have HD := Lib.hid (ne_of_at (xs := xs) (ys := ys) (k := k))
        clear hcell hcell'
        generalize xs.getD k 0 = x at *
        generalize ys.getD k 0 = y at *
        have hc : wr.cell? ⟨b, off + k, none⟩ = some (.int .u64 x) := (hB.cell (p := ⟨b, off + k, none⟩) hb).trans hc0
        have hc' : wr.cell? ⟨b', off' + k, none⟩ = some (.int .u64 y) := (hB.cell (p := ⟨b', off' + k, none⟩) hb').trans hc0'
        clear hc0 hc0'
        by_cases hxy : x = y
        · have HG := Lib.hid (HS.out hxy)
          have hq2 : (x != y) = false := by simpa using hxy
          clear hxy
          go_wp2_with fail
          go_quiet (fail)
          go_wp2_with fail
          go_roundw
          case rel => exact ⟨k + 1, by omega, by go_num, HG, below_drewN hB _⟩
          case measure => (first | (simp [intOf]; done) | (simp [intOf]; omega) | (simp only [intOf]; omega))
        · have HG := Lib.hid (HD.out hxy)
          have hq2 : (x != y) = true := by simpa using hxy
          clear hxy
          go_wp2_with fail
          go_quiet (fail)
          go_wp2_with fail
          go_ret
          exact ⟨ret_bool (by simp [HG.out]), below_drewN hB _⟩
      · obtain rfl : k = n := by omega
        have hfin : xs = ys := by
          have := HT.out
          rwa [List.take_of_length_le (by rw [HN.out]; exact Nat.le_refl _), List.take_of_length_le (by rw [HNY.out]; exact Nat.le_refl _)] at this
        have HG := Lib.hid hfin
        clear hfin
        go_wp2_with fail
        go_ret
        exact ⟨ret_bool (by simp [HG.out]), hB⟩
  · have hq : ((xs.length : Int) != (ys.length : Int)) = true := by simp; omega
    have HG := Lib.hid (show xs ≠ ys from fun e => hne (by rw [e]))
    clear hne
    go_enter Tryd.func34, Tryd.ntmps34
    go_wp2_with fail
    go_ret
    exact ⟨ret_bool (by simp [HG.out]), Below.refl _ _⟩

end Go.Proofs.YtoejflnlkapkiaaDoor
/- The document's own answers of layer 5 (dulcimerref05). -/
namespace Go.Proofs.YtoejflnlkapkiaaDoor
open Go.ChangeShapes Go.WideShapes Go.ChangeAt Go.RowKit
set_option linter.unusedVariables false

/-- Reduced. -/
def redl (xs : List Int) : List Int := xs.map fm
theorem redl_len (xs : List Int) : (redl xs).length = xs.length := by unfold redl; simp
theorem redl_at (xs : List Int) (k : Nat) (h : k < xs.length) : (redl xs).getD k 0 = fm (xs.getD k 0) := by
  unfold redl; simp [List.getD, h]

end Go.Proofs.YtoejflnlkapkiaaDoor
/- vec.Same. -/
namespace Go.Proofs.YtoejflnlkapkiaaDoor
open Go.ChangeShapes Go.WideShapes Go.ChangeAt Go.RowKit
set_option linter.unusedVariables false

end Go.Proofs.YtoejflnlkapkiaaDoor
/- vec.Rev, vec.Turn. -/
namespace Go.Proofs.YtoejflnlkapkiaaDoor
open Go.ChangeShapes Go.WideShapes Go.ChangeAt Go.RowKit
set_option linter.unusedVariables false

/-- The first number, then the others from the last one on. -/
def revl (xs : List Int) : List Int := (List.range xs.length).map fun j => fm (xs.getD ((xs.length - j) % xs.length) 0)
theorem revl_len (xs : List Int) : (revl xs).length = xs.length := by unfold revl; simp
theorem revl_at (xs : List Int) (j : Nat) (h : j < xs.length) : (revl xs).getD j 0 = fm (xs.getD ((xs.length - j) % xs.length) 0) := by
  unfold revl; simp [List.getD, h]
theorem back_back (n k : Nat) (h : k < n) : (n - (n - k) % n) % n = k := by
  by_cases h0 : k = 0
  · subst h0; simp
  · rw [Nat.mod_eq_of_lt (a := n - k) (by omega), show n - (n - k) = k from by omega, Nat.mod_eq_of_lt h]
theorem back_lt (n k : Nat) (h : k < n) : (n - k) % n < n := Nat.mod_lt _ (by omega)

theorem done_step (n k m : Nat) (hm : m < n) (hb : (n - m) % n = k) : ∀ j, j < n → decide ((n - j) % n < k + 1) = (decide ((n - j) % n < k) || j == m) := by
  intro j hj
  have e1 := back_back n j hj
  have e2 := back_back n m hm
  rw [hb] at e2
  by_cases h : (n - j) % n = k
  · have : j = m := by rw [h] at e1; omega
    subst this
    simp [h]
  · have hne : j ≠ m := fun e => h (by rw [e]; exact hb)
    have : (j == m) = false := by simpa using hne
    rw [this, Bool.or_false]
    congr 1
    simp only [eq_iff_iff]
    omega

/-- From place k on, around. -/
def turnl (xs : List Int) (k : Nat) : List Int := (List.range xs.length).map fun i => fm (xs.getD ((i + k) % xs.length) 0)
theorem turnl_len (xs : List Int) (k : Nat) : (turnl xs k).length = xs.length := by unfold turnl; simp
theorem turnl_at (xs : List Int) (k i : Nat) (h : i < xs.length) : (turnl xs k).getD i 0 = fm (xs.getD ((i + k) % xs.length) 0) := by
  unfold turnl; simp [List.getD, h]
/-- The place at which it begins. -/
def tpos (k : Int) (n : Nat) : Nat := (k % (n : Int)).toNat
theorem tpos_lt (k : Int) (n : Nat) (h : 0 < n) : tpos k n < n := by
  unfold tpos
  have h1 := Int.emod_lt_of_pos k (show (0 : Int) < (n : Int) by omega)
  have h0 := Int.emod_nonneg k (show (n : Int) ≠ 0 by omega)
  omega
theorem tpos_eq (k : Int) (n : Nat) (h : 0 < n) (hn : n ≤ 35184372088832) : wrap64 (k.tmod n + n) = k.tmod n + n ∧ (k.tmod (n : Int) + (n : Int)).tmod (n : Int) = (tpos k n : Int) := by
  have h1 := Int.emod_lt_of_pos k (show (0 : Int) < (n : Int) by omega)
  have h0 := Int.emod_nonneg k (show (n : Int) ≠ 0 by omega)
  have ht : k.tmod n = k % n ∨ k.tmod n = k % n - n := by
    rw [Int.tmod_eq_emod]
    split
    · left; omega
    · right; omega
  constructor
  · exact IntWalk.wrap64_in _ (by rcases ht with h | h <;> rw [h] <;> omega)
  · have hp : 0 ≤ k.tmod n + n := by rcases ht with h | h <;> rw [h] <;> omega
    rw [Int.tmod_eq_emod_of_nonneg hp, Int.add_emod_right]
    have e : k.tmod n % n = k % n := by
      rcases ht with h | h
      · rw [h, Int.emod_emod_of_dvd _ (Int.dvd_refl _)]
      · rw [h, Int.sub_emod_right, Int.emod_emod_of_dvd _ (Int.dvd_refl _)]
    rw [e]
    unfold tpos
    omega

end Go.Proofs.YtoejflnlkapkiaaDoor
