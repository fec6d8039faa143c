/- Package vec. -/
import Derived.Test.YteimfmenbeicfaaRowz
import Derived.Test.YteimfmenbeicfaaSum
namespace Go.Proofs.Yteimfmenbeicfaa
open Go.ChangeShapes Go.WideShapes Go.ChangeAt Go.RowKit
set_option linter.unusedVariables false

theorem vec_scale (a : Int) (p : Option Addr) (c : Nat) (xs : List Int) (w : World) (a0 : 0 ≤ a) (a1 : a ≤ 18446744073709551615) (hr : Reads .u64 w p xs) (hwf : ∀ x ∈ xs, (Lit.int .u64 x).wf = true) (hlen : xs.length ≤ 35184372088832) :
    Calls Try.prog 37 #[.slice p xs.length c, .int .u64 a] w fun e w' => e = .returned (.slice (some ⟨w.heap.size, 0, none⟩) xs.length xs.length) ∧ RowAt w' w.heap.size 22 (scl a xs) ∧ Below w.heap.size w w' := by
  obtain ⟨n, hn⟩ : ∃ n, xs.length = n := ⟨_, rfl⟩
  rw [hn] at hlen ⊢
  have HN := Lib.hid hn
  have hmk := make_u64 n hlen
  have HL := Lib.hid ((scl_len a xs).trans hn)
  have HW := Lib.hid hwf
  have HR := Lib.hid hr
  clear hn hwf hr
  go_enter Try.func37, Try.ntmps37
  go_wp2_with fail
  go_loopw [13] (fun i wr => ∃ k : Nat, k ≤ n ∧ i = .int .i64 k ∧ Hid (Filling wr w.heap.size 22 (scl a xs) k n) ∧ Below w.heap.size w wr) (fun i _ => n - (intOf i).toNat)
  case atStart => exact ⟨0, Nat.zero_le _, rfl, Lib.hid (Filling.start w _ _ n), (Below.refl _ _).alloc (Nat.le_refl _) _⟩
  case round =>
    obtain ⟨k, hk, rfl, HFL, hB⟩ := hrel
    have hsz := HFL.out.lt
    by_cases hlt : k < n
    · rcases HR.out with hnil | ⟨b, off, rfl, hb, hcell⟩
      · have := HN.out; rw [hnil] at this; simp at this; omega
      · have hc0 := hcell k (by rw [HN.out]; exact hlt)
        obtain ⟨g0, g1⟩ := words_at HW.out k (by rw [HN.out]; exact hlt)
        have HS := Lib.hid (scl_at a xs k (by rw [HN.out]; exact hlt))
        clear hcell
        generalize xs.getD k 0 = x at *
        have hc : wr.cell? ⟨b, off + k, none⟩ = some (.int .u64 x) := (hB.cell (p := ⟨b, off + k, none⟩) hb).trans hc0
        clear hc0
        go_wp2_with fail
        refine (gold_mul _ _ _ a0 a1 g0 g1).mono ?_
        rintro e w1 ⟨rfl, hb1⟩
        have hfl := HFL.out.below hb1
        obtain ⟨u, hu⟩ := hfl.cell hlt HL.out
        have hfr := hfl.free k
        have HG := Lib.hid (hfl.step hlt HL.out HS.out)
        clear hfl
        go_wp2_with fail
        go_roundw
        case rel => exact ⟨k + 1, by omega, by go_num, HG, (hB.trans (hb1.mono hB.size)).setCell (Nat.le_refl _) _⟩
        case measure => (first | (simp [intOf]; done) | (simp [intOf]; omega) | (simp only [intOf]; omega))
    · obtain rfl : k = n := by omega
      go_wp2_with fail
      go_ret
      exact ⟨rfl, HFL.out.done HL.out, hB⟩

theorem fn_add (a b : Int) (w : World) (a0 : 0 ≤ a) (a1 : a ≤ 18446744073709551615) (b0 : 0 ≤ b) (b1 : b ≤ 18446744073709551615) :
    Calls Try.prog 65 #[.int .u64 a, .int .u64 b] w fun e w' => e = .returned (.int .u64 (fm (a + b))) ∧ Below w.heap.size w w' := by
  have hB := Below.refl w.heap.size w
  go_enter Try.func65, Try.ntmps65
  go_wp2_with (go_at_call 66; (with_reducible refine (gold_add _ _ _ a0 a1 b0 b1).mono ?_); rintro e w' ⟨rfl, rfl⟩)
  go_ret
  exact ⟨rfl, hB⟩

theorem zip_add (p q : Option Addr) (c d : Nat) (xs ys : List Int) (w : World) (hr : Reads .u64 w p xs) (hr2 : Reads .u64 w q ys) (hwf : ∀ x ∈ xs, (Lit.int .u64 x).wf = true) (hwf2 : ∀ x ∈ ys, (Lit.int .u64 x).wf = true) (hlen : xs.length ≤ 35184372088832) (heq : xs.length = ys.length) :
    Calls Try.prog 64 #[.slice p xs.length c, .slice q xs.length d, .func (.func 65) #[] #[]] w fun e w' => e = .returned (.tuple #[.slice (some ⟨w.heap.size, 0, none⟩) xs.length xs.length, .int .i64 0]) ∧ RowAt w' w.heap.size 22 (zadd xs ys) ∧ Below w.heap.size w w' := by
  obtain ⟨n, hn⟩ : ∃ n, xs.length = n := ⟨_, rfl⟩
  have hny : ys.length = n := by rw [← heq, hn]
  rw [hn] at hlen ⊢
  have HN := Lib.hid hn
  have HNY := Lib.hid hny
  have HEQ := Lib.hid heq
  have hmk := make_u64 n hlen
  have HL := Lib.hid ((zadd_len xs ys heq).trans hn)
  have HW := Lib.hid hwf
  have HR := Lib.hid hr
  have HW2 := Lib.hid hwf2
  have HR2 := Lib.hid hr2
  have hq : ((n : Int) != (n : Int)) = false := by simp
  clear hn hwf hr hwf2 hr2 heq hny
  go_enter Try.func64, Try.ntmps64
  go_wp2_with fail
  go_loopw [21] (fun i wr => ∃ k : Nat, k ≤ n ∧ i = .int .i64 k ∧ Hid (Filling wr w.heap.size 22 (zadd xs ys) k n) ∧ Below w.heap.size w wr) (fun i _ => n - (intOf i).toNat)
  case atStart => exact ⟨0, Nat.zero_le _, rfl, Lib.hid (Filling.start w _ _ n), (Below.refl _ _).alloc (Nat.le_refl _) _⟩
  case round =>
    obtain ⟨k, hk, rfl, HFL, hB⟩ := hrel
    have hsz := HFL.out.lt
    by_cases hlt : k < n
    · rcases HR.out with hnil | ⟨b, off, rfl, hb, hcell⟩
      · have := HN.out; rw [hnil] at this; simp at this; omega
      rcases HR2.out with hnil | ⟨b', off', rfl, hb', hcell'⟩
      · have := HNY.out; rw [hnil] at this; simp at this; omega
      have hc0 := hcell k (by rw [HN.out]; exact hlt)
      have hc0' := hcell' k (by rw [HNY.out]; exact hlt)
      obtain ⟨g0, g1⟩ := words_at HW.out k (by rw [HN.out]; exact hlt)
      obtain ⟨g0', g1'⟩ := words_at HW2.out k (by rw [HNY.out]; exact hlt)
      have HS := Lib.hid (zadd_at xs ys k (by rw [HN.out]; exact hlt) HEQ.out)
      clear hcell hcell'
      generalize xs.getD k 0 = x at *
      generalize ys.getD k 0 = y at *
      have hc : wr.cell? ⟨b, off + k, none⟩ = some (.int .u64 x) := (hB.cell (p := ⟨b, off + k, none⟩) hb).trans hc0
      have hc' : wr.cell? ⟨b', off' + k, none⟩ = some (.int .u64 y) := (hB.cell (p := ⟨b', off' + k, none⟩) hb').trans hc0'
      clear hc0 hc0'
      go_wp2_with fail
      refine (fn_add _ _ _ g0 g1 g0' g1').mono ?_
      rintro e w1 ⟨rfl, hb1⟩
      have hfl := HFL.out.below hb1
      obtain ⟨u, hu⟩ := hfl.cell hlt HL.out
      have hfr := hfl.free k
      have HG := Lib.hid (hfl.step hlt HL.out HS.out)
      clear hfl
      go_wp2_with fail
      go_roundw
      case rel => exact ⟨k + 1, by omega, by go_num, HG, (hB.trans (hb1.mono hB.size)).setCell (Nat.le_refl _) _⟩
      case measure => (first | (simp [intOf]; done) | (simp [intOf]; omega) | (simp only [intOf]; omega))
    · obtain rfl : k = n := by omega
      go_wp2_with fail
      go_ret2
      exact ⟨rfl, HFL.out.done HL.out, hB⟩

theorem fn_mul (a b : Int) (w : World) (a0 : 0 ≤ a) (a1 : a ≤ 18446744073709551615) (b0 : 0 ≤ b) (b1 : b ≤ 18446744073709551615) :
    Calls Try.prog 67 #[.int .u64 a, .int .u64 b] w fun e w' => e = .returned (.int .u64 (fm (a * b))) ∧ Below w.heap.size w w' := by
  have hB := Below.refl w.heap.size w
  go_enter Try.func67, Try.ntmps67
  go_wp2_with (go_at_call 61; (with_reducible refine (gold_mul _ _ _ a0 a1 b0 b1).mono ?_); rintro e w' ⟨rfl, hb⟩; replace hB := hB.trans (hb.mono hB.size); clear hb)
  go_ret
  exact ⟨rfl, hB⟩

theorem zip_mul (p q : Option Addr) (c d : Nat) (xs ys : List Int) (w : World) (hr : Reads .u64 w p xs) (hr2 : Reads .u64 w q ys) (hwf : ∀ x ∈ xs, (Lit.int .u64 x).wf = true) (hwf2 : ∀ x ∈ ys, (Lit.int .u64 x).wf = true) (hlen : xs.length ≤ 35184372088832) (heq : xs.length = ys.length) :
    Calls Try.prog 64 #[.slice p xs.length c, .slice q xs.length d, .func (.func 67) #[] #[]] w fun e w' => e = .returned (.tuple #[.slice (some ⟨w.heap.size, 0, none⟩) xs.length xs.length, .int .i64 0]) ∧ RowAt w' w.heap.size 22 (zmul xs ys) ∧ Below w.heap.size w w' := by
  obtain ⟨n, hn⟩ : ∃ n, xs.length = n := ⟨_, rfl⟩
  have hny : ys.length = n := by rw [← heq, hn]
  rw [hn] at hlen ⊢
  have HN := Lib.hid hn
  have HNY := Lib.hid hny
  have HEQ := Lib.hid heq
  have hmk := make_u64 n hlen
  have HL := Lib.hid ((zmul_len xs ys heq).trans hn)
  have HW := Lib.hid hwf
  have HR := Lib.hid hr
  have HW2 := Lib.hid hwf2
  have HR2 := Lib.hid hr2
  have hq : ((n : Int) != (n : Int)) = false := by simp
  clear hn hwf hr hwf2 hr2 heq hny
  go_enter Try.func64, Try.ntmps64
  go_wp2_with fail
  go_loopw [21] (fun i wr => ∃ k : Nat, k ≤ n ∧ i = .int .i64 k ∧ Hid (Filling wr w.heap.size 22 (zmul xs ys) k n) ∧ Below w.heap.size w wr) (fun i _ => n - (intOf i).toNat)
  case atStart => exact ⟨0, Nat.zero_le _, rfl, Lib.hid (Filling.start w _ _ n), (Below.refl _ _).alloc (Nat.le_refl _) _⟩
  case round =>
    obtain ⟨k, hk, rfl, HFL, hB⟩ := hrel
    have hsz := HFL.out.lt
    by_cases hlt : k < n
    · rcases HR.out with hnil | ⟨b, off, rfl, hb, hcell⟩
      · have := HN.out; rw [hnil] at this; simp at this; omega
      rcases HR2.out with hnil | ⟨b', off', rfl, hb', hcell'⟩
      · have := HNY.out; rw [hnil] at this; simp at this; omega
      have hc0 := hcell k (by rw [HN.out]; exact hlt)
      have hc0' := hcell' k (by rw [HNY.out]; exact hlt)
      obtain ⟨g0, g1⟩ := words_at HW.out k (by rw [HN.out]; exact hlt)
      obtain ⟨g0', g1'⟩ := words_at HW2.out k (by rw [HNY.out]; exact hlt)
      have HS := Lib.hid (zmul_at xs ys k (by rw [HN.out]; exact hlt) HEQ.out)
      clear hcell hcell'
      generalize xs.getD k 0 = x at *
      generalize ys.getD k 0 = y at *
      have hc : wr.cell? ⟨b, off + k, none⟩ = some (.int .u64 x) := (hB.cell (p := ⟨b, off + k, none⟩) hb).trans hc0
      have hc' : wr.cell? ⟨b', off' + k, none⟩ = some (.int .u64 y) := (hB.cell (p := ⟨b', off' + k, none⟩) hb').trans hc0'
      clear hc0 hc0'
      go_wp2_with fail
      refine (fn_mul _ _ _ g0 g1 g0' g1').mono ?_
      rintro e w1 ⟨rfl, hb1⟩
      have hfl := HFL.out.below hb1
      obtain ⟨u, hu⟩ := hfl.cell hlt HL.out
      have hfr := hfl.free k
      have HG := Lib.hid (hfl.step hlt HL.out HS.out)
      clear hfl
      go_wp2_with fail
      go_roundw
      case rel => exact ⟨k + 1, by omega, by go_num, HG, (hB.trans (hb1.mono hB.size)).setCell (Nat.le_refl _) _⟩
      case measure => (first | (simp [intOf]; done) | (simp [intOf]; omega) | (simp only [intOf]; omega))
    · obtain rfl : k = n := by omega
      go_wp2_with fail
      go_ret2
      exact ⟨rfl, HFL.out.done HL.out, hB⟩

theorem vec_add (p q : Option Addr) (c d : Nat) (xs ys : List Int) (w : World) (hr : Reads .u64 w p xs) (hr2 : Reads .u64 w q ys) (hwf : ∀ x ∈ xs, (Lit.int .u64 x).wf = true) (hwf2 : ∀ x ∈ ys, (Lit.int .u64 x).wf = true) (hlen : xs.length ≤ 35184372088832) (heq : xs.length = ys.length) :
    Calls Try.prog 32 #[.slice p xs.length c, .slice q xs.length d] w fun e w' => e = .returned (.tuple #[.slice (some ⟨w.heap.size, 0, none⟩) xs.length xs.length, .int .i64 0]) ∧ RowAt w' w.heap.size 22 (zadd xs ys) ∧ Below w.heap.size w w' := by
  have Z := Lib.hid (zip_add p q c d xs ys w hr hr2 hwf hwf2 hlen heq)
  clear heq hr hr2 hwf hwf2
  go_enter Try.func32, Try.ntmps32
  go_wp2_with fail
  refine Z.out.mono ?_
  rintro e w1 ⟨rfl, hq⟩
  have HQ := Lib.hid hq
  clear hq
  go_wp2_with fail
  go_ret2
  exact ⟨rfl, HQ.out⟩
theorem vec_mul (p q : Option Addr) (c d : Nat) (xs ys : List Int) (w : World) (hr : Reads .u64 w p xs) (hr2 : Reads .u64 w q ys) (hwf : ∀ x ∈ xs, (Lit.int .u64 x).wf = true) (hwf2 : ∀ x ∈ ys, (Lit.int .u64 x).wf = true) (hlen : xs.length ≤ 35184372088832) (heq : xs.length = ys.length) :
    Calls Try.prog 33 #[.slice p xs.length c, .slice q xs.length d] w fun e w' => e = .returned (.tuple #[.slice (some ⟨w.heap.size, 0, none⟩) xs.length xs.length, .int .i64 0]) ∧ RowAt w' w.heap.size 22 (zmul xs ys) ∧ Below w.heap.size w w' := by
  have Z := Lib.hid (zip_mul p q c d xs ys w hr hr2 hwf hwf2 hlen heq)
  clear heq hr hr2 hwf hwf2
  go_enter Try.func33, Try.ntmps33
  go_wp2_with fail
  refine Z.out.mono ?_
  rintro e w1 ⟨rfl, hq⟩
  have HQ := Lib.hid hq
  clear hq
  go_wp2_with fail
  go_ret2
  exact ⟨rfl, HQ.out⟩
/-- Of other lengths: no row. -/
theorem vec_add_no (p q : Option Addr) (n m c d : Nat) (w : World) (h : n ≠ m) :
    Calls Try.prog 32 #[.slice p n c, .slice q m d] w fun e w' => e = .returned (.tuple #[.slice none 0 0, .int .i64 5]) ∧ w = w' := by
  have hq : ((n : Int) != (m : Int)) = true := by simp; omega
  clear h
  go_enter Try.func32, Try.ntmps32
  go_wp2
  all_goals go_ret2
  all_goals exact ⟨rfl, rfl⟩
theorem vec_mul_no (p q : Option Addr) (n m c d : Nat) (w : World) (h : n ≠ m) :
    Calls Try.prog 33 #[.slice p n c, .slice q m d] w fun e w' => e = .returned (.tuple #[.slice none 0 0, .int .i64 5]) ∧ w = w' := by
  have hq : ((n : Int) != (m : Int)) = true := by simp; omega
  clear h
  go_enter Try.func33, Try.ntmps33
  go_wp2
  all_goals go_ret2
  all_goals exact ⟨rfl, rfl⟩
theorem vec_dot_no (p q : Option Addr) (n m c d : Nat) (w : World) (h : n ≠ m) :
    Calls Try.prog 34 #[.slice p n c, .slice q m d] w fun e w' => e = .returned (.tuple #[.int .u64 0, .int .i64 5]) ∧ w = w' := by
  have Z := Lib.hid (vec_mul_no p q n m c d w h)
  clear h
  go_enter Try.func34, Try.ntmps34
  go_wp2_with fail
  refine Z.out.mono ?_
  rintro e w1 ⟨rfl, rfl⟩
  go_wp2_with fail
  go_ret2
  exact ⟨rfl, rfl⟩
theorem vec_dot (p q : Option Addr) (c d : Nat) (xs ys : List Int) (w : World) (hr : Reads .u64 w p xs) (hr2 : Reads .u64 w q ys) (hwf : ∀ x ∈ xs, (Lit.int .u64 x).wf = true) (hwf2 : ∀ x ∈ ys, (Lit.int .u64 x).wf = true) (hlen : xs.length ≤ 35184372088832) (heq : xs.length = ys.length) :
    Calls Try.prog 34 #[.slice p xs.length c, .slice q xs.length d] w fun e w' => e = .returned (.tuple #[.int .u64 (dotp xs ys), .int .i64 0]) ∧ Below w.heap.size w w' := by
  have Z := Lib.hid (vec_mul p q c d xs ys w hr hr2 hwf hwf2 hlen heq)
  have HL := Lib.hid (zmul_len xs ys heq)
  clear heq hr hr2 hwf hwf2
  go_enter Try.func34, Try.ntmps34
  go_wp2_with fail
  refine Z.out.mono ?_
  rintro e w1 ⟨rfl, hrow, hb⟩
  have S := Lib.hid (gold_sum (some ⟨w.heap.size, 0, none⟩) xs.length (zmul xs ys) w1 hrow.reads (zmul_wf xs ys) (by rw [HL.out]; omega))
  have HR := Lib.hid hrow
  clear hrow
  go_wp2_with fail
  have S' := S.out
  rw [HL.out] at S'
  refine S'.mono ?_
  clear S'
  rintro e w2 ⟨rfl, rfl⟩
  go_wp2_with fail
  go_ret2
  exact ⟨by unfold dotp; rw [HL.out]; rfl, hb⟩
theorem vec_red (p : Option Addr) (c : Nat) (xs : List Int) (w : World) (hr : Reads .u64 w p xs) (hwf : ∀ x ∈ xs, (Lit.int .u64 x).wf = true) (hlen : xs.length ≤ 35184372088832) :
    Calls Try.prog 35 #[.slice p xs.length c] w fun e w' => e = .returned (.slice (some ⟨w.heap.size, 0, none⟩) xs.length xs.length) ∧ RowAt w' w.heap.size 22 (scl 1 xs) ∧ Below w.heap.size w w' := by
  have Z := Lib.hid (vec_scale 1 p c xs w (by decide) (by decide) hr hwf hlen)
  go_enter Try.func35, Try.ntmps35
  go_wp2_with fail
  refine Z.out.mono ?_
  rintro e w1 ⟨rfl, hq⟩
  have HQ := Lib.hid hq
  clear hq
  go_wp2_with fail
  go_ret
  exact ⟨rfl, HQ.out⟩

end Go.Proofs.Yteimfmenbeicfaa
