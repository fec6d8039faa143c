/- vec.Rev, vec.Turn. -/
import Derived.Test.YteimfmenbeicfaaVec
namespace Go.Proofs.Yteimfmenbeicfaa
open Go.ChangeShapes Go.WideShapes Go.ChangeAt Go.RowKit
set_option linter.unusedVariables false

/-- The first number, then the others from the last one on. -/
def revl (xs : List Int) : List Int := (List.range xs.length).map fun j => fm (xs.getD ((xs.length - j) % xs.length) 0)
theorem revl_len (xs : List Int) : (revl xs).length = xs.length := by unfold revl; simp
theorem revl_at (xs : List Int) (j : Nat) (h : j < xs.length) : (revl xs).getD j 0 = fm (xs.getD ((xs.length - j) % xs.length) 0) := by
  unfold revl; simp [List.getD, h]
theorem back_back (n k : Nat) (h : k < n) : (n - (n - k) % n) % n = k := by
  by_cases h0 : k = 0
  · subst h0; simp
  · rw [Nat.mod_eq_of_lt (a := n - k) (by omega), show n - (n - k) = k from by omega, Nat.mod_eq_of_lt h]
theorem back_lt (n k : Nat) (h : k < n) : (n - k) % n < n := Nat.mod_lt _ (by omega)

theorem done_step (n k m : Nat) (hm : m < n) (hb : (n - m) % n = k) : ∀ j, j < n → decide ((n - j) % n < k + 1) = (decide ((n - j) % n < k) || j == m) := by
  intro j hj
  have e1 := back_back n j hj
  have e2 := back_back n m hm
  rw [hb] at e2
  by_cases h : (n - j) % n = k
  · have : j = m := by rw [h] at e1; omega
    subst this
    simp [h]
  · have hne : j ≠ m := fun e => h (by rw [e]; exact hb)
    have : (j == m) = false := by simpa using hne
    rw [this, Bool.or_false]
    congr 1
    simp only [eq_iff_iff]
    omega

set_option maxRecDepth 100000 in
theorem vec_rev (p : Option Addr) (c : Nat) (xs : List Int) (w : World) (hr : Reads .u64 w p xs) (hwf : ∀ x ∈ xs, (Lit.int .u64 x).wf = true) (hlen : xs.length ≤ 35184372088832) :
    Calls Try.prog 44 #[.slice p xs.length c] w fun e w' => e = .returned (.slice (some ⟨w.heap.size, 0, none⟩) xs.length xs.length) ∧ RowAt w' w.heap.size 22 (revl xs) ∧ Below w.heap.size w w' := by
  have hl := revl_len xs
  have ha := revl_at xs
  obtain ⟨n, hn⟩ : ∃ n, xs.length = n := ⟨_, rfl⟩
  rw [hn] at hlen hl ha ⊢
  have HN := Lib.hid hn
  have hmk := make_u64 n hlen
  have HL := Lib.hid hl
  have HA := Lib.hid ha
  have HW := Lib.hid hwf
  have HR := Lib.hid hr
  clear hn hwf hr hl ha
  go_enter Try.func44, Try.ntmps44
  go_wp2_with fail
  go_loopw [11] (fun i wr => ∃ k : Nat, k ≤ n ∧ i = .int .i64 k ∧ Hid (PF wr w.heap.size 22 (revl xs) (fun j => decide ((n - j) % n < k)) n) ∧ Below w.heap.size w wr) (fun i _ => n - (intOf i).toNat)
  case atStart => exact ⟨0, Nat.zero_le _, rfl, Lib.hid (PF.start w _ _ _ n (fun j _ => by simp)), (Below.refl _ _).alloc (Nat.le_refl _) _⟩
  case round =>
    obtain ⟨k, hk, rfl, HFL, hB⟩ := hrel
    have hsz := HFL.out.lt
    by_cases hlt : k < n
    · rcases HR.out with hnil | ⟨b, off, rfl, hb, hcell⟩
      · have := HN.out; rw [hnil] at this; simp at this; omega
      · have hc0 := hcell k (by rw [HN.out]; exact hlt)
        obtain ⟨g0, g1⟩ := words_at HW.out k (by rw [HN.out]; exact hlt)
        have HS := Lib.hid ((HA.out ((n - k) % n) (back_lt n k hlt)).trans (by rw [back_back n k hlt]))
        have hML := back_lt n k hlt
        have hBB := Lib.hid (back_back n k hlt)
        have hmod : ((n : Int) - (k : Int)).tmod (n : Int) = (((n - k) % n : Nat) : Int) := by
          rw [show ((n : Int) - (k : Int)) = ((n - k : Nat) : Int) from by omega]; rfl
        generalize (n - k) % n = m at *
        have hw1 : IntKind.i64.wrap ((n : Int) - (k : Int)) = (n : Int) - (k : Int) := IntWalk.i64_in _ (by omega)
        have hnz : ((n : Int) == 0) = false := by simp; omega
        have hnz2 : ¬ ((n : Int) = 0) := by omega
        have hnz3 : ¬ (n = 0) := by omega
        have hm0 : (0 : Int) ≤ (m : Int) := by omega
        have hm1 : (m : Int) < (n : Int) := by omega
        clear hcell
        generalize xs.getD k 0 = x at *
        have hc : wr.cell? ⟨b, off + k, none⟩ = some (.int .u64 x) := (hB.cell (p := ⟨b, off + k, none⟩) hb).trans hc0
        clear hc0
        obtain ⟨u, hu⟩ := HFL.out.cell hML
        have hfr := HFL.out.free m
        go_wp2_with fail
        go_region_held3 (fun w' => Below w.heap.size w w') (first | exact hB.drew | assumption | exact (hB.setCell (Nat.le_refl _) _).drew) (first | (go_at_call 59; (with_reducible refine (gold_red _ _ g0 g1).mono ?_); rintro e w' ⟨rfl, rfl⟩))
        go_wp2_with fail
        go_roundw
        case rel => exact ⟨k + 1, by omega, by go_num, Lib.hid (HFL.out.step (done_step n k m hML hBB.out) HS.out), (hB.setCell (Nat.le_refl _) _).drew⟩
        case measure => (first | (simp [intOf]; done) | (simp [intOf]; omega) | (simp only [intOf]; omega))
    · obtain rfl : k = n := by omega
      go_wp2_with fail
      go_ret
      exact ⟨rfl, HFL.out.done HL.out (fun j hj => by simp; exact Nat.mod_lt _ (by omega)), hB⟩

/-- From place k on, around. -/
def turnl (xs : List Int) (k : Nat) : List Int := (List.range xs.length).map fun i => fm (xs.getD ((i + k) % xs.length) 0)
theorem turnl_len (xs : List Int) (k : Nat) : (turnl xs k).length = xs.length := by unfold turnl; simp
theorem turnl_at (xs : List Int) (k i : Nat) (h : i < xs.length) : (turnl xs k).getD i 0 = fm (xs.getD ((i + k) % xs.length) 0) := by
  unfold turnl; simp [List.getD, h]
/-- The place at which it begins. -/
def tpos (k : Int) (n : Nat) : Nat := (k % (n : Int)).toNat
theorem tpos_lt (k : Int) (n : Nat) (h : 0 < n) : tpos k n < n := by
  unfold tpos
  have h1 := Int.emod_lt_of_pos k (show (0 : Int) < (n : Int) by omega)
  have h0 := Int.emod_nonneg k (show (n : Int) ≠ 0 by omega)
  omega
theorem tpos_eq (k : Int) (n : Nat) (h : 0 < n) (hn : n ≤ 35184372088832) : wrap64 (k.tmod n + n) = k.tmod n + n ∧ (k.tmod (n : Int) + (n : Int)).tmod (n : Int) = (tpos k n : Int) := by
  have h1 := Int.emod_lt_of_pos k (show (0 : Int) < (n : Int) by omega)
  have h0 := Int.emod_nonneg k (show (n : Int) ≠ 0 by omega)
  have ht : k.tmod n = k % n ∨ k.tmod n = k % n - n := by
    rw [Int.tmod_eq_emod]
    split
    · left; omega
    · right; omega
  constructor
  · exact IntWalk.wrap64_in _ (by rcases ht with h | h <;> rw [h] <;> omega)
  · have hp : 0 ≤ k.tmod n + n := by rcases ht with h | h <;> rw [h] <;> omega
    rw [Int.tmod_eq_emod_of_nonneg hp, Int.add_emod_right]
    have e : k.tmod n % n = k % n := by
      rcases ht with h | h
      · rw [h, Int.emod_emod_of_dvd _ (Int.dvd_refl _)]
      · rw [h, Int.sub_emod_right, Int.emod_emod_of_dvd _ (Int.dvd_refl _)]
    rw [e]
    unfold tpos
    omega

set_option maxRecDepth 100000 in
theorem vec_turn (p : Option Addr) (c : Nat) (k : Int) (xs : List Int) (w : World) (hpos : 0 < xs.length) (hr : Reads .u64 w p xs) (hwf : ∀ x ∈ xs, (Lit.int .u64 x).wf = true) (hlen : xs.length ≤ 35184372088832) (k0 : -9223372036854775808 ≤ k) (k1 : k ≤ 9223372036854775807) :
    Calls Try.prog 43 #[.slice p xs.length c, .int .i64 k] w fun e w' => e = .returned (.slice (some ⟨w.heap.size, 0, none⟩) xs.length xs.length) ∧ RowAt w' w.heap.size 22 (turnl xs (tpos k xs.length)) ∧ Below w.heap.size w w' := by
  have hl := turnl_len xs (tpos k xs.length)
  have ha := turnl_at xs (tpos k xs.length)
  have ht := tpos_lt k xs.length hpos
  obtain ⟨hw, hm⟩ := tpos_eq k xs.length hpos hlen
  obtain ⟨n, hn⟩ : ∃ n, xs.length = n := ⟨_, rfl⟩
  rw [hn] at hlen hl ha ht hw hm hpos ⊢
  have HN := Lib.hid hn
  have hmk := make_u64 n hlen
  have HL := Lib.hid hl
  have HA := Lib.hid ha
  have HW := Lib.hid hwf
  have HR := Lib.hid hr
  clear hn hwf hr hl ha
  generalize tpos k n = t at *
  have hq : ((n : Int) == 0) = false := by simp; omega
  go_enter Try.func43, Try.ntmps43
  go_wp2_with fail
  go_loopw [24] (fun i wr => ∃ k : Nat, k ≤ n ∧ i = .int .i64 k ∧ Hid (Filling wr w.heap.size 22 (turnl xs t) k n) ∧ Below w.heap.size w wr) (fun i _ => n - (intOf i).toNat)
  case atStart => exact ⟨0, Nat.zero_le _, rfl, Lib.hid (Filling.start w _ _ n), (Below.refl _ _).alloc (Nat.le_refl _) _⟩
  case round =>
    obtain ⟨j, hj, rfl, HFL, hB⟩ := hrel
    have hsz := HFL.out.lt
    by_cases hlt : j < n
    · rcases HR.out with hnil | ⟨b, off, rfl, hb, hcell⟩
      · have := HN.out; rw [hnil] at this; simp at this; omega
      · have hML : (j + t) % n < n := Nat.mod_lt _ (by omega)
        have hc0 := hcell ((j + t) % n) (by rw [HN.out]; exact hML)
        obtain ⟨g0, g1⟩ := words_at HW.out ((j + t) % n) (by rw [HN.out]; exact hML)
        have HS := Lib.hid (HA.out j hlt)
        have hmod : ((j : Int) + (t : Int)).tmod (n : Int) = (((j + t) % n : Nat) : Int) := by
          rw [show ((j : Int) + (t : Int)) = ((j + t : Nat) : Int) from by omega]; rfl
        have hmod' : ((j : Int) + (t : Int)) % (n : Int) = (((j + t) % n : Nat) : Int) := by
          rw [show ((j : Int) + (t : Int)) = ((j + t : Nat) : Int) from by omega]; rfl
        clear hcell hm hw
        generalize (j + t) % n = m at *
        generalize xs.getD m 0 = x at *
        have hc : wr.cell? ⟨b, off + m, none⟩ = some (.int .u64 x) := (hB.cell (p := ⟨b, off + m, none⟩) hb).trans hc0
        have hw1 : IntKind.i64.wrap ((j : Int) + (t : Int)) = (j : Int) + (t : Int) := IntWalk.i64_in _ (by omega)
        have hm0 : (0 : Int) ≤ (m : Int) := by omega
        have hm1 : (m : Int) < (n : Int) := by omega
        obtain ⟨u, hu⟩ := HFL.out.cell hlt HL.out
        have hfr := HFL.out.free j
        clear hc0
        go_wp2_with fail
        refine (gold_red _ _ g0 g1).mono ?_
        rintro e w1 ⟨rfl, rfl⟩
        go_wp2_with fail
        go_roundw
        case rel => exact ⟨j + 1, by omega, by go_num, Lib.hid (HFL.out.step hlt HL.out HS.out), hB.setCell (Nat.le_refl _) _⟩
        case measure => (first | (simp [intOf]; done) | (simp [intOf]; omega) | (simp only [intOf]; omega))
    · obtain rfl : j = n := by omega
      go_wp2_with fail
      go_ret
      exact ⟨rfl, HFL.out.done HL.out, hB⟩

end Go.Proofs.Yteimfmenbeicfaa
