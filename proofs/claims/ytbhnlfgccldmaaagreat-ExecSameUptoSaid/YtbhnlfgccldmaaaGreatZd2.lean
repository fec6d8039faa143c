/- Put together by program (merge.py): Refb Sum Vec Same Own Refe. -/
import Derived.Deep.AppendLies
import Derived.Test.YtbhnlfgccldmaaaGreatZd1
/- The document's own answers of layer 2 (dulcimerref02): the same numbers of the field, reckoned bit by bit. -/
namespace Go.Proofs.YtbhnlfgccldmaaaGreat
open Go.ChangeShapes Go.WideShapes Go.ChangeAt Go.RowKit
set_option linter.unusedVariables false
set_option linter.unusedVariables false

theorem r2_red (a : Int) (w : World) (h0 : 0 ≤ a) (h1 : a ≤ 18446744073709551615) :
    Calls Tryz.prog 57 #[.int .u64 a] w fun e w' => e = .returned (.int .u64 (fm a)) ∧ w = w' := by
  go_enter Tryz.func57, Tryz.ntmps57
  go_wp2_with fail
  go_ret
  exact ⟨rfl, rfl⟩

theorem r2_add (a b : Int) (w : World) (h0 : 0 ≤ a) (h1 : a ≤ 18446744069414584320) (h2 : 0 ≤ b) (h3 : b ≤ 18446744069414584320) :
    Calls Tryz.prog 56 #[.int .u64 a, .int .u64 b] w fun e w' => e = .returned (.int .u64 (fm (a + b))) ∧ w = w' := by
  go_enter Tryz.func56, Tryz.ntmps56
  go_wp2_with fail
  all_goals go_ret
  all_goals (refine ⟨ret_u64 ?_, rfl⟩; unfold fm; omega)

/-- What the doubling has reached when the digits from j on are in. -/
def dbl (a : Nat) (b : Int) (j : Nat) : Int := fm (((a / 2 ^ j : Nat) : Int) * b)
theorem dbl_lo (a : Nat) (b : Int) (j : Nat) : 0 ≤ dbl a b j := fm_lo _
theorem dbl_hi (a : Nat) (b : Int) (j : Nat) : dbl a b j ≤ 18446744069414584320 := fm_hi _
theorem dbl_zero (a : Nat) (b : Int) : dbl a b 0 = fm (a * b) := by unfold dbl; simp
theorem dbl_top (a : Nat) (b : Int) (j : Nat) (h : a < 2 ^ j) : dbl a b j = 0 := by
  unfold dbl; rw [Nat.div_eq_of_lt h]; simp; rfl
theorem dbl_step (a : Nat) (k : Nat) (b : Int) : dbl a b k = fm (fm (dbl a b (k + 1) + dbl a b (k + 1)) + ((a / 2 ^ k % 2 : Nat) : Int) * b) := by
  unfold dbl
  have e : a / 2 ^ k = 2 * (a / 2 ^ (k + 1)) + a / 2 ^ k % 2 := by
    rw [Nat.pow_succ, ← Nat.div_div_eq_div_mul]; omega
  generalize a / 2 ^ (k + 1) = q at *
  generalize a / 2 ^ k % 2 = r at *
  rw [e]
  have e2 : ((2 * q + r : Nat) : Int) * b = ((q : Int) * b + (q : Int) * b) + (r : Int) * b := by
    push_cast
    grind
  rw [e2, fm_add_l]
  generalize (q : Int) * b = x
  generalize (r : Int) * b = y
  unfold fm
  omega
theorem dbl_one (a : Nat) (k : Nat) (b : Int) (h : a / 2 ^ k % 2 = 1) : fm (fm (dbl a b (k + 1) + dbl a b (k + 1)) + b) = dbl a b k := by
  rw [dbl_step a k b, h]; simp
theorem dbl_nil (a : Nat) (k : Nat) (b : Int) (h : a / 2 ^ k % 2 = 0) : fm (dbl a b (k + 1) + dbl a b (k + 1)) = dbl a b k := by
  rw [dbl_step a k b, h]; simp [fm_fm]

theorem r2_mul (a : Nat) (b : Int) (w : World) (h1 : a ≤ 18446744073709551615) (h2 : 0 ≤ b) (h3 : b ≤ 18446744069414584320) :
    Calls Tryz.prog 38 #[.int .u64 a, .int .u64 b] w fun e w' => e = .returned (.int .u64 (fm (a * b))) ∧ w = w' := by
  have HT := Lib.hid (dbl_top a b 64 (by omega))
  have HZ := Lib.hid (dbl_zero a b)
  go_enter Tryz.func38, Tryz.ntmps38
  go_wp2_with fail
  go_loop [5, 6] (fun s k => ∃ (j : Nat), j ≤ 64 ∧ k = .int .i64 ((j : Int) - 1) ∧ s = .int .u64 (dbl a b j))
    (fun _ k => (intOf k + 1).toNat)
  case atStart =>
    exact ⟨64, by omega, rfl, by rw [HT.out]⟩
  case round =>
    obtain ⟨j, hj, rfl, rfl⟩ := hrel
    cases j with
    | zero =>
      go_wp2_with fail
      go_ret
      exact ⟨ret_u64 HZ.out, rfl⟩
    | succ k =>
      have d0 := dbl_lo a b (k + 1)
      have d1 := dbl_hi a b (k + 1)
      have hbit : a / 2 ^ k % 2 = 1 ∨ a / 2 ^ k % 2 = 0 := by omega
      have ht : ((a : Int) / 2 ^ k).tmod 2 = ((a / 2 ^ k % 2 : Nat) : Int) := by
        rw [show ((a : Int) / 2 ^ k) = ((a / 2 ^ k : Nat) : Int) from by push_cast; rfl]; rfl
      rcases hbit with hbit | hbit
      · have hq : (((a : Int) / 2 ^ k).tmod 2 == 1) = true := by rw [ht, hbit]; rfl
        have HS := Lib.hid (dbl_one a k b hbit)
        have e0 := fm_lo (dbl a b (k + 1) + dbl a b (k + 1))
        have e1 := fm_hi (dbl a b (k + 1) + dbl a b (k + 1))
        clear hbit ht
        go_wp2_with fail
        refine (r2_add _ _ _ d0 d1 d0 d1).mono ?_
        rintro e w1 ⟨rfl, rfl⟩
        go_wp2_with fail
        refine (r2_add _ _ _ e0 e1 h2 h3).mono ?_
        rintro e w1 ⟨rfl, rfl⟩
        go_wp2_with fail
        go_round
        case rel => exact ⟨k, by omega, rfl, by rw [HS.out]⟩
        case measure => (first | (simp [intOf]; done) | (simp [intOf]; omega) | (simp only [intOf]; omega))
      · have hq : (((a : Int) / 2 ^ k).tmod 2 == 1) = false := by rw [ht, hbit]; rfl
        have HS := Lib.hid (dbl_nil a k b hbit)
        clear hbit ht
        go_wp2_with fail
        refine (r2_add _ _ _ d0 d1 d0 d1).mono ?_
        rintro e w1 ⟨rfl, rfl⟩
        go_wp2_with fail
        go_round
        case rel => exact ⟨k, by omega, rfl, by rw [HS.out]⟩
        case measure => (first | (simp [intOf]; done) | (simp [intOf]; omega) | (simp only [intOf]; omega))

/-- A power whose digits from j on are in. -/
def pwr (a : Int) (n j : Nat) : Int := fm (a ^ (n / 2 ^ j))
theorem pwr_lo (a : Int) (n j : Nat) : 0 ≤ pwr a n j := fm_lo _
theorem pwr_hi (a : Int) (n j : Nat) : pwr a n j ≤ 18446744069414584320 := fm_hi _
theorem pwr_zero (a : Int) (n : Nat) : pwr a n 0 = fm (a ^ n) := by unfold pwr; simp
theorem pwr_top (a : Int) (n j : Nat) (h : n < 2 ^ j) : pwr a n j = 1 := by
  unfold pwr; rw [Nat.div_eq_of_lt h]; simp; rfl
theorem pow_two_mul (a : Int) (k : Nat) : a ^ (2 * k) = a ^ k * a ^ k := by rw [← Int.pow_add]; congr 1; omega
theorem pwr_one (a : Int) (n k : Nat) (h : n / 2 ^ k % 2 = 1) : fm (fm (pwr a n (k + 1) * pwr a n (k + 1)) * a) = pwr a n k := by
  unfold pwr
  have e : n / 2 ^ k = 2 * (n / 2 ^ (k + 1)) + 1 := by
    rw [Nat.pow_succ, ← Nat.div_div_eq_div_mul]; omega
  rw [e, fm_mul_fm, fm_mul_l, Int.pow_succ, pow_two_mul]
theorem pwr_nil (a : Int) (n k : Nat) (h : n / 2 ^ k % 2 = 0) : fm (pwr a n (k + 1) * pwr a n (k + 1)) = pwr a n k := by
  unfold pwr
  have e : n / 2 ^ k = 2 * (n / 2 ^ (k + 1)) := by
    rw [Nat.pow_succ, ← Nat.div_div_eq_div_mul]; omega
  rw [e, fm_mul_fm, pow_two_mul]

theorem r2_mulz (a b : Int) (w : World) (h0 : 0 ≤ a) (h1 : a ≤ 18446744073709551615) (h2 : 0 ≤ b) (h3 : b ≤ 18446744069414584320) :
    Calls Tryz.prog 38 #[.int .u64 a, .int .u64 b] w fun e w' => e = .returned (.int .u64 (fm (a * b))) ∧ w = w' := by
  obtain ⟨n, rfl⟩ := Int.eq_ofNat_of_zero_le h0
  exact r2_mul n b w (by omega) h2 h3

theorem r2_pow (a : Int) (n : Nat) (w : World) (h0 : 0 ≤ a) (h1 : a ≤ 18446744069414584320) (h3 : n ≤ 18446744073709551615) :
    Calls Tryz.prog 41 #[.int .u64 a, .int .u64 n] w fun e w' => e = .returned (.int .u64 (fm (a ^ n))) ∧ w = w' := by
  have HT := Lib.hid (pwr_top a n 64 (by omega))
  have HZ := Lib.hid (pwr_zero a n)
  go_enter Tryz.func41, Tryz.ntmps41
  go_wp2_with fail
  go_loop [5, 6] (fun s k => ∃ (j : Nat), j ≤ 64 ∧ k = .int .i64 ((j : Int) - 1) ∧ s = .int .u64 (pwr a n j))
    (fun _ k => (intOf k + 1).toNat)
  case atStart =>
    exact ⟨64, by omega, rfl, by rw [HT.out]⟩
  case round =>
    obtain ⟨j, hj, rfl, rfl⟩ := hrel
    cases j with
    | zero =>
      go_wp2_with fail
      go_ret
      exact ⟨ret_u64 HZ.out, rfl⟩
    | succ k =>
      have d0 := pwr_lo a n (k + 1)
      have d1 := pwr_hi a n (k + 1)
      have e0 := fm_lo (pwr a n (k + 1) * pwr a n (k + 1))
      have e1 := fm_hi (pwr a n (k + 1) * pwr a n (k + 1))
      have hbit : n / 2 ^ k % 2 = 1 ∨ n / 2 ^ k % 2 = 0 := by omega
      have ht : ((n : Int) / 2 ^ k).tmod 2 = ((n / 2 ^ k % 2 : Nat) : Int) := by
        rw [show ((n : Int) / 2 ^ k) = ((n / 2 ^ k : Nat) : Int) from by push_cast; rfl]; rfl
      rcases hbit with hbit | hbit
      · have hq : (((n : Int) / 2 ^ k).tmod 2 == 1) = true := by rw [ht, hbit]; rfl
        have HS := Lib.hid (pwr_one a n k hbit)
        clear hbit ht
        go_wp2_with fail
        refine (r2_mulz _ _ _ d0 (by omega) d0 d1).mono ?_
        rintro e w1 ⟨rfl, rfl⟩
        go_wp2_with fail
        refine (r2_mulz _ _ _ e0 (by omega) h0 h1).mono ?_
        rintro e w1 ⟨rfl, rfl⟩
        go_wp2_with fail
        go_round
        case rel => exact ⟨k, by omega, rfl, by rw [HS.out]⟩
        case measure => (first | (simp [intOf]; done) | (simp [intOf]; omega) | (simp only [intOf]; omega))
      · have hq : (((n : Int) / 2 ^ k).tmod 2 == 1) = false := by rw [ht, hbit]; rfl
        have HS := Lib.hid (pwr_nil a n k hbit)
        clear hbit ht
        go_wp2_with fail
        refine (r2_mulz _ _ _ d0 (by omega) d0 d1).mono ?_
        rintro e w1 ⟨rfl, rfl⟩
        go_wp2_with fail
        go_round
        case rel => exact ⟨k, by omega, rfl, by rw [HS.out]⟩
        case measure => (first | (simp [intOf]; done) | (simp [intOf]; omega) | (simp only [intOf]; omega))

theorem r2_addf (a b : Int) (w : World) : Calls Tryz.prog 56 #[.int .u64 (fm a), .int .u64 (fm b)] w fun e w' => e = .returned (.int .u64 (fm (a + b))) ∧ w = w' := by
  have := r2_add (fm a) (fm b) w (fm_lo _) (fm_hi _) (fm_lo _) (fm_hi _)
  rwa [fm_add_fm] at this
theorem r2_mulf (a b : Int) (w : World) : Calls Tryz.prog 38 #[.int .u64 (fm a), .int .u64 (fm b)] w fun e w' => e = .returned (.int .u64 (fm (a * b))) ∧ w = w' := by
  have := r2_mulz (fm a) (fm b) w (fm_lo _) (by have := fm_hi a; omega) (fm_lo _) (fm_hi _)
  rwa [fm_mul_fm] at this
end Go.Proofs.YtbhnlfgccldmaaaGreat
/- gold.Sum over a slice; the reference's Wide. -/
namespace Go.Proofs.YtbhnlfgccldmaaaGreat
open Go.ChangeShapes Go.WideShapes Go.ChangeAt Go.RowKit
set_option linter.unusedVariables false

/-- The sum of the first k numbers, in the field. -/
def fsum (xs : List Int) (k : Nat) : Int := fm (xs.take k).sum
theorem fsum_lo (xs : List Int) (k : Nat) : 0 ≤ fsum xs k := fm_lo _
theorem fsum_hi (xs : List Int) (k : Nat) : fsum xs k ≤ 18446744069414584320 := fm_hi _
theorem fsum_zero (xs : List Int) : fsum xs 0 = 0 := by unfold fsum; simp; rfl
theorem take_snoc {α} (xs : List α) (k : Nat) (h : k < xs.length) : xs.take (k + 1) = xs.take k ++ [xs[k]] := List.take_succ_eq_append_getElem h
theorem fsum_succ (xs : List Int) (k : Nat) (h : k < xs.length) : fm (fsum xs k + xs.getD k 0) = fsum xs (k + 1) := by
  unfold fsum
  have e : xs.getD k 0 = xs[k] := by simp [List.getD, h]
  rw [take_snoc xs k h, fm_add_l, e, List.sum_append]
  simp only [List.sum_cons, List.sum_nil, Int.add_zero]
/-- A slice of words: its numbers lie in their range, in the walk's spelling. -/
theorem words_at {xs : List Int} (h : ∀ x ∈ xs, (Lit.int .u64 x).wf = true) (k : Nat) (hk : k < xs.length) : 0 ≤ xs.getD k 0 ∧ xs.getD k 0 ≤ 18446744073709551615 := by
  have : xs.getD k 0 = xs[k] := by simp [List.getD, hk]
  rw [this]
  exact bounds_u64 (h _ (List.getElem_mem hk))

theorem gold_sum (a : Option Addr) (c : Nat) (xs : List Int) (w : World) (hr : Reads .u64 w a xs) (hwf : ∀ x ∈ xs, (Lit.int .u64 x).wf = true) (hlen : xs.length ≤ 9223372036854775807) :
    Calls Tryz.prog 180 #[.slice a xs.length c] w fun e w' => e = .returned (.int .u64 (fsum xs xs.length)) ∧ w = w' := by
  have HZ := Lib.hid (fsum_zero xs)
  obtain ⟨n, hn⟩ : ∃ n, xs.length = n := ⟨_, rfl⟩
  rw [hn] at hlen ⊢
  have HN := Lib.hid hn
  clear hn
  go_enter Tryz.func180, Tryz.ntmps180
  go_wp2_with fail
  go_loop [3, 8] (fun s i => ∃ k : Nat, k ≤ n ∧ i = .int .i64 k ∧ s = .int .u64 (fsum xs k)) (fun _ i => n - (intOf i).toNat)
  case atStart => exact ⟨0, Nat.zero_le _, rfl, by rw [HZ.out]⟩
  case round =>
    obtain ⟨k, hk, rfl, rfl⟩ := hrel
    by_cases hlt : k < n
    · rcases hr with hnil | ⟨b, off, rfl, hb, hcell⟩
      · have := HN.out; rw [hnil] at this; simp at this; omega
      · have hc := hcell k (by rw [HN.out]; exact hlt)
        obtain ⟨g0, g1⟩ := words_at hwf k (by rw [HN.out]; exact hlt)
        have HS := Lib.hid (fsum_succ xs k (by rw [HN.out]; exact hlt))
        have s0 := fsum_lo xs k
        have s1 := fsum_hi xs k
        have hwf' := Lib.hid hwf
        have hcell' := Lib.hid hcell
        clear hwf hcell
        generalize xs.getD k 0 = x at *
        go_wp2_with fail
        refine (gold_add _ _ _ s0 (by omega) g0 g1).mono ?_
        rintro e w1 ⟨rfl, rfl⟩
        go_wp2_with fail
        go_round
        case rel => exact ⟨k + 1, by omega, by go_num, by rw [HS.out]⟩
        case measure => (first | (simp [intOf]; done) | (simp [intOf]; omega) | (simp only [intOf]; omega))
    · obtain rfl : k = n := by omega
      go_wp2_with fail
      go_ret
      exact ⟨rfl, rfl⟩

theorem Reads.alloc {k : IntKind} {w : World} {a : Option Addr} {xs : List Int} (h : Reads k w a xs) (o : Obj) : Reads k (w.alloc o) a xs := by
  rcases h with h | ⟨b, off, rfl, hb, hc⟩
  · exact .inl h
  · exact .inr ⟨b, off, rfl, by simp; omega, fun i hi => by rw [World.cell?_of_block (Below.heap_alloc w o b hb)]; exact hc i hi⟩
theorem Reads.below {k : IntKind} {w w' : World} {a : Option Addr} {xs : List Int} (h : Reads k w a xs) (hb : Below w.heap.size w w') : Reads k w' a xs := by
  rcases h with h | ⟨b, off, rfl, hlt, hc⟩
  · exact .inl h
  · exact .inr ⟨b, off, rfl, by have := hb.size; omega, fun i hi => by rw [hb.cell (p := ⟨b, off + i, none⟩) hlt]; exact hc i hi⟩

/-- Two rows, one by one: +. -/
def zadd (xs ys : List Int) : List Int := List.zipWith (fun x y => fm (x + y)) xs ys
theorem zadd_len (xs ys : List Int) (h : xs.length = ys.length) : (zadd xs ys).length = xs.length := by unfold zadd; simp [h]
theorem zadd_at (xs ys : List Int) (k : Nat) (h : k < xs.length) (h' : xs.length = ys.length) : (zadd xs ys).getD k 0 = fm (xs.getD k 0 + ys.getD k 0) := by
  have h2 : k < ys.length := by omega
  unfold zadd; simp [List.getD, List.getElem?_zipWith, h, h2]
/-- Two rows, one by one: *. -/
def zmul (xs ys : List Int) : List Int := List.zipWith (fun x y => fm (x * y)) xs ys
theorem zmul_len (xs ys : List Int) (h : xs.length = ys.length) : (zmul xs ys).length = xs.length := by unfold zmul; simp [h]
theorem zmul_at (xs ys : List Int) (k : Nat) (h : k < xs.length) (h' : xs.length = ys.length) : (zmul xs ys).getD k 0 = fm (xs.getD k 0 * ys.getD k 0) := by
  have h2 : k < ys.length := by omega
  unfold zmul; simp [List.getD, List.getElem?_zipWith, h, h2]
theorem zmul_wf (xs ys : List Int) : ∀ z ∈ zmul xs ys, (Lit.int .u64 z).wf = true := by
  intro z hz
  unfold zmul at hz
  obtain ⟨i, hi, rfl⟩ := List.getElem_of_mem hz
  rw [List.getElem_zipWith]
  exact WalkArith.wf_u64 ⟨fm_lo _, fm_hi' _⟩

/-- Each number times a. -/
def scl (a : Int) (xs : List Int) : List Int := xs.map fun x => fm (a * x)
theorem scl_len (a : Int) (xs : List Int) : (scl a xs).length = xs.length := by unfold scl; simp
theorem scl_at (a : Int) (xs : List Int) (k : Nat) (h : k < xs.length) : (scl a xs).getD k 0 = fm (a * xs.getD k 0) := by
  unfold scl; simp [List.getD, h]
theorem scl_wf (a : Int) (xs : List Int) : ∀ z ∈ scl a xs, (Lit.int .u64 z).wf = true := by
  intro z hz
  unfold scl at hz
  obtain ⟨x, _, rfl⟩ := List.mem_map.1 hz
  exact WalkArith.wf_u64 ⟨fm_lo _, fm_hi' _⟩

end Go.Proofs.YtbhnlfgccldmaaaGreat
/- Package vec. -/
namespace Go.Proofs.YtbhnlfgccldmaaaGreat
open Go.ChangeShapes Go.WideShapes Go.ChangeAt Go.RowKit
set_option linter.unusedVariables false

theorem vec_scale (a : Int) (p : Option Addr) (c : Nat) (xs : List Int) (w : World) (a0 : 0 ≤ a) (a1 : a ≤ 18446744073709551615) (hr : Reads .u64 w p xs) (hwf : ∀ x ∈ xs, (Lit.int .u64 x).wf = true) (hlen : xs.length ≤ 35184372088832) :
    Calls Tryz.prog 118 #[.slice p xs.length c, .int .u64 a] w fun e w' => e = .returned (.slice (some ⟨w.heap.size, 0, none⟩) xs.length xs.length) ∧ RowAt w' w.heap.size 62 (scl a xs) ∧ Below w.heap.size w w' := by
  obtain ⟨n, hn⟩ : ∃ n, xs.length = n := ⟨_, rfl⟩
  rw [hn] at hlen ⊢
  have HN := Lib.hid hn
  have hmk := make_u64 n hlen
  have HL := Lib.hid ((scl_len a xs).trans hn)
  have HW := Lib.hid hwf
  have HR := Lib.hid hr
  clear hn hwf hr
  go_enter Tryz.func118, Tryz.ntmps118
  go_wp2_with fail
  go_loopw [13] (fun i wr => ∃ k : Nat, k ≤ n ∧ i = .int .i64 k ∧ Hid (Filling wr w.heap.size 62 (scl a xs) k n) ∧ Below w.heap.size w wr) (fun i _ => n - (intOf i).toNat)
  case atStart => exact ⟨0, Nat.zero_le _, rfl, Lib.hid (Filling.start w _ _ n), (Below.refl _ _).alloc (Nat.le_refl _) _⟩
  case round =>
    obtain ⟨k, hk, rfl, HFL, hB⟩ := hrel
    have hsz := HFL.out.lt
    by_cases hlt : k < n
    · rcases HR.out with hnil | ⟨b, off, rfl, hb, hcell⟩
      · have := HN.out; rw [hnil] at this; simp at this; omega
      · have hc0 := hcell k (by rw [HN.out]; exact hlt)
        obtain ⟨g0, g1⟩ := words_at HW.out k (by rw [HN.out]; exact hlt)
        have HS := Lib.hid (scl_at a xs k (by rw [HN.out]; exact hlt))
        clear hcell
        generalize xs.getD k 0 = x at *
        have hc : wr.cell? ⟨b, off + k, none⟩ = some (.int .u64 x) := (hB.cell (p := ⟨b, off + k, none⟩) hb).trans hc0
        clear hc0
        go_wp2_with fail
        refine (gold_mul _ _ _ a0 a1 g0 g1).mono ?_
        rintro e w1 ⟨rfl, hb1⟩
        have hfl := HFL.out.below hb1
        obtain ⟨u, hu⟩ := hfl.cell hlt HL.out
        have hfr := hfl.free k
        have HG := Lib.hid (hfl.step hlt HL.out HS.out)
        clear hfl
        go_wp2_with fail
        go_roundw
        case rel => exact ⟨k + 1, by omega, by go_num, HG, (hB.trans (hb1.mono hB.size)).setCell (Nat.le_refl _) _⟩
        case measure => (first | (simp [intOf]; done) | (simp [intOf]; omega) | (simp only [intOf]; omega))
    · obtain rfl : k = n := by omega
      go_wp2_with fail
      go_ret
      exact ⟨rfl, HFL.out.done HL.out, hB⟩

theorem fn_mul (a b : Int) (w : World) (a0 : 0 ≤ a) (a1 : a ≤ 18446744073709551615) (b0 : 0 ≤ b) (b1 : b ≤ 18446744073709551615) :
    Calls Tryz.prog 146 #[.int .u64 a, .int .u64 b] w fun e w' => e = .returned (.int .u64 (fm (a * b))) ∧ Below w.heap.size w w' := by
  have hB := Below.refl w.heap.size w
  go_enter Tryz.func146, Tryz.ntmps146
  go_wp2_with (go_at_call 81; (with_reducible refine (gold_mul _ _ _ a0 a1 b0 b1).mono ?_); rintro e w' ⟨rfl, hb⟩; replace hB := hB.trans (hb.mono hB.size); clear hb)
  go_ret
  exact ⟨rfl, hB⟩

theorem zip_mul (p q : Option Addr) (c d : Nat) (xs ys : List Int) (w : World) (hr : Reads .u64 w p xs) (hr2 : Reads .u64 w q ys) (hwf : ∀ x ∈ xs, (Lit.int .u64 x).wf = true) (hwf2 : ∀ x ∈ ys, (Lit.int .u64 x).wf = true) (hlen : xs.length ≤ 35184372088832) (heq : xs.length = ys.length) :
    Calls Tryz.prog 145 #[.slice p xs.length c, .slice q xs.length d, .func (.func 146) #[] #[]] w fun e w' => e = .returned (.tuple #[.slice (some ⟨w.heap.size, 0, none⟩) xs.length xs.length, .int .i64 0]) ∧ RowAt w' w.heap.size 62 (zmul xs ys) ∧ Below w.heap.size w w' := by
  obtain ⟨n, hn⟩ : ∃ n, xs.length = n := ⟨_, rfl⟩
  have hny : ys.length = n := by rw [← heq, hn]
  rw [hn] at hlen ⊢
  have HN := Lib.hid hn
  have HNY := Lib.hid hny
  have HEQ := Lib.hid heq
  have hmk := make_u64 n hlen
  have HL := Lib.hid ((zmul_len xs ys heq).trans hn)
  have HW := Lib.hid hwf
  have HR := Lib.hid hr
  have HW2 := Lib.hid hwf2
  have HR2 := Lib.hid hr2
  have hq : ((n : Int) != (n : Int)) = false := by simp
  clear hn hwf hr hwf2 hr2 heq hny
  go_enter Tryz.func145, Tryz.ntmps145
  go_wp2_with fail
  go_loopw [21] (fun i wr => ∃ k : Nat, k ≤ n ∧ i = .int .i64 k ∧ Hid (Filling wr w.heap.size 62 (zmul xs ys) k n) ∧ Below w.heap.size w wr) (fun i _ => n - (intOf i).toNat)
  case atStart => exact ⟨0, Nat.zero_le _, rfl, Lib.hid (Filling.start w _ _ n), (Below.refl _ _).alloc (Nat.le_refl _) _⟩
  case round =>
    obtain ⟨k, hk, rfl, HFL, hB⟩ := hrel
    have hsz := HFL.out.lt
    by_cases hlt : k < n
    · rcases HR.out with hnil | ⟨b, off, rfl, hb, hcell⟩
      · have := HN.out; rw [hnil] at this; simp at this; omega
      rcases HR2.out with hnil | ⟨b', off', rfl, hb', hcell'⟩
      · have := HNY.out; rw [hnil] at this; simp at this; omega
      have hc0 := hcell k (by rw [HN.out]; exact hlt)
      have hc0' := hcell' k (by rw [HNY.out]; exact hlt)
      obtain ⟨g0, g1⟩ := words_at HW.out k (by rw [HN.out]; exact hlt)
      obtain ⟨g0', g1'⟩ := words_at HW2.out k (by rw [HNY.out]; exact hlt)
      have HS := Lib.hid (zmul_at xs ys k (by rw [HN.out]; exact hlt) HEQ.out)
      clear hcell hcell'
      generalize xs.getD k 0 = x at *
      generalize ys.getD k 0 = y at *
      have hc : wr.cell? ⟨b, off + k, none⟩ = some (.int .u64 x) := (hB.cell (p := ⟨b, off + k, none⟩) hb).trans hc0
      have hc' : wr.cell? ⟨b', off' + k, none⟩ = some (.int .u64 y) := (hB.cell (p := ⟨b', off' + k, none⟩) hb').trans hc0'
      clear hc0 hc0'
      go_wp2_with fail
      refine (fn_mul _ _ _ g0 g1 g0' g1').mono ?_
      rintro e w1 ⟨rfl, hb1⟩
      have hfl := HFL.out.below hb1
      obtain ⟨u, hu⟩ := hfl.cell hlt HL.out
      have hfr := hfl.free k
      have HG := Lib.hid (hfl.step hlt HL.out HS.out)
      clear hfl
      go_wp2_with fail
      go_roundw
      case rel => exact ⟨k + 1, by omega, by go_num, HG, (hB.trans (hb1.mono hB.size)).setCell (Nat.le_refl _) _⟩
      case measure => (first | (simp [intOf]; done) | (simp [intOf]; omega) | (simp only [intOf]; omega))
    · obtain rfl : k = n := by omega
      go_wp2_with fail
      go_ret2
      exact ⟨rfl, HFL.out.done HL.out, hB⟩

theorem vec_mul (p q : Option Addr) (c d : Nat) (xs ys : List Int) (w : World) (hr : Reads .u64 w p xs) (hr2 : Reads .u64 w q ys) (hwf : ∀ x ∈ xs, (Lit.int .u64 x).wf = true) (hwf2 : ∀ x ∈ ys, (Lit.int .u64 x).wf = true) (hlen : xs.length ≤ 35184372088832) (heq : xs.length = ys.length) :
    Calls Tryz.prog 117 #[.slice p xs.length c, .slice q xs.length d] w fun e w' => e = .returned (.tuple #[.slice (some ⟨w.heap.size, 0, none⟩) xs.length xs.length, .int .i64 0]) ∧ RowAt w' w.heap.size 62 (zmul xs ys) ∧ Below w.heap.size w w' := by
  have Z := Lib.hid (zip_mul p q c d xs ys w hr hr2 hwf hwf2 hlen heq)
  clear heq hr hr2 hwf hwf2
  go_enter Tryz.func117, Tryz.ntmps117
  go_wp2_with fail
  refine Z.out.mono ?_
  rintro e w1 ⟨rfl, hq⟩
  have HQ := Lib.hid hq
  clear hq
  go_wp2_with fail
  go_ret2
  exact ⟨rfl, HQ.out⟩
theorem vec_red (p : Option Addr) (c : Nat) (xs : List Int) (w : World) (hr : Reads .u64 w p xs) (hwf : ∀ x ∈ xs, (Lit.int .u64 x).wf = true) (hlen : xs.length ≤ 35184372088832) :
    Calls Tryz.prog 88 #[.slice p xs.length c] w fun e w' => e = .returned (.slice (some ⟨w.heap.size, 0, none⟩) xs.length xs.length) ∧ RowAt w' w.heap.size 62 (scl 1 xs) ∧ Below w.heap.size w w' := by
  have Z := Lib.hid (vec_scale 1 p c xs w (by decide) (by decide) hr hwf hlen)
  go_enter Tryz.func88, Tryz.ntmps88
  go_wp2_with fail
  refine Z.out.mono ?_
  rintro e w1 ⟨rfl, hq⟩
  have HQ := Lib.hid hq
  clear hq
  go_wp2_with fail
  go_ret
  exact ⟨rfl, HQ.out⟩

end Go.Proofs.YtbhnlfgccldmaaaGreat
/- The reference's Same: are two rows one? -/
namespace Go.Proofs.YtbhnlfgccldmaaaGreat
open Go.ChangeShapes Go.WideShapes Go.ChangeAt Go.RowKit
set_option linter.unusedVariables false

theorem take_eq_step {xs ys : List Int} {k : Nat} (h : xs.take k = ys.take k) (hx : k < xs.length) (hy : k < ys.length) (e : xs.getD k 0 = ys.getD k 0) : xs.take (k + 1) = ys.take (k + 1) := by
  have ex : xs.getD k 0 = xs[k] := by simp [List.getD, hx]
  have ey : ys.getD k 0 = ys[k] := by simp [List.getD, hy]
  rw [List.take_succ_eq_append_getElem hx, List.take_succ_eq_append_getElem hy, h, ← ex, ← ey, e]
theorem ne_of_at {xs ys : List Int} {k : Nat} (h : xs.getD k 0 ≠ ys.getD k 0) : xs ≠ ys := fun e => h (by rw [e])

theorem r2_same (p q : Option Addr) (c d : Nat) (xs ys : List Int) (w : World) (hr : Reads .u64 w p xs) (hr2 : Reads .u64 w q ys) (hl : xs.length ≤ 9223372036854775807) :
    Calls Tryz.prog 17 #[.slice p xs.length c, .slice q ys.length d] w fun e w' => e = .returned (.bool (decide (xs = ys))) ∧ Below w.heap.size w w' := by
  by_cases hne : xs.length = ys.length
  · obtain ⟨n, hn⟩ : ∃ n, xs.length = n := ⟨_, rfl⟩
    have hny : ys.length = n := by rw [← hne, hn]
    rw [hn] at hl ⊢
    rw [hny]
    have HN := Lib.hid hn
    have HNY := Lib.hid hny
    have HR := Lib.hid hr
    have HR2 := Lib.hid hr2
    have hq : ((n : Int) != (n : Int)) = false := by simp
    clear hn hny hr hr2 hne
    go_enter Tryz.func17, Tryz.ntmps17
    go_wp2_with fail
    go_loopw [5] (fun i wr => ∃ k : Nat, k ≤ n ∧ i = .int .i64 k ∧ Hid (xs.take k = ys.take k) ∧ Below w.heap.size w wr) (fun i _ => n - (intOf i).toNat)
    case atStart => exact ⟨0, Nat.zero_le _, rfl, Lib.hid rfl, Below.refl _ _⟩
    case round =>
      obtain ⟨k, hk, rfl, HT, hB⟩ := hrel
      by_cases hlt : k < n
      · rcases HR.out with hnil | ⟨b, off, rfl, hb, hcell⟩
        · have := HN.out; rw [hnil] at this; simp at this; omega
        rcases HR2.out with hnil | ⟨b', off', rfl, hb', hcell'⟩
        · have := HNY.out; rw [hnil] at this; simp at this; omega
        have hc0 := hcell k (by rw [HN.out]; exact hlt)
        have hc0' := hcell' k (by rw [HNY.out]; exact hlt)
        have HS := Lib.hid (fun e => take_eq_step HT.out (by rw [HN.out]; exact hlt) (by rw [HNY.out]; exact hlt) e)
        have HD := Lib.hid (ne_of_at (xs := xs) (ys := ys) (k := k))
        clear hcell hcell'
        generalize xs.getD k 0 = x at *
        generalize ys.getD k 0 = y at *
        have hc : wr.cell? ⟨b, off + k, none⟩ = some (.int .u64 x) := (hB.cell (p := ⟨b, off + k, none⟩) hb).trans hc0
        have hc' : wr.cell? ⟨b', off' + k, none⟩ = some (.int .u64 y) := (hB.cell (p := ⟨b', off' + k, none⟩) hb').trans hc0'
        clear hc0 hc0'
        by_cases hxy : x = y
        · have HG := Lib.hid (HS.out hxy)
          have hq2 : (x != y) = false := by simpa using hxy
          clear hxy
          go_wp2_with fail
          go_quiet (fail)
          go_wp2_with fail
          go_roundw
          case rel => exact ⟨k + 1, by omega, by go_num, HG, below_drewN hB _⟩
          case measure => (first | (simp [intOf]; done) | (simp [intOf]; omega) | (simp only [intOf]; omega))
        · have HG := Lib.hid (HD.out hxy)
          have hq2 : (x != y) = true := by simpa using hxy
          clear hxy
          go_wp2_with fail
          go_quiet (fail)
          go_wp2_with fail
          go_ret
          exact ⟨ret_bool (by simp [HG.out]), below_drewN hB _⟩
      · obtain rfl : k = n := by omega
        have hfin : xs = ys := by
          have := HT.out
          rwa [List.take_of_length_le (by rw [HN.out]; exact Nat.le_refl _), List.take_of_length_le (by rw [HNY.out]; exact Nat.le_refl _)] at this
        have HG := Lib.hid hfin
        clear hfin
        go_wp2_with fail
        go_ret
        exact ⟨ret_bool (by simp [HG.out]), hB⟩
  · have hq : ((xs.length : Int) != (ys.length : Int)) = true := by simp; omega
    have HG := Lib.hid (show xs ≠ ys from fun e => hne (by rw [e]))
    clear hne
    go_enter Tryz.func17, Tryz.ntmps17
    go_wp2_with fail
    go_ret
    exact ⟨ret_bool (by simp [HG.out]), Below.refl _ _⟩

end Go.Proofs.YtbhnlfgccldmaaaGreat
/- Rows that grow by append. -/
namespace Go.Proofs.YtbhnlfgccldmaaaGreat
open Go.ChangeShapes Go.WideShapes Go.ChangeAt Go.RowKit
set_option linter.unusedVariables false

/-- A slice value of the call's own that holds the numbers ys. -/
def Owns (w : World) (B : Nat) (E : TypeId) (k : IntKind) (v : Value) (ys : List Int) : Prop := w.ownsRow B E 1 v ys.length (ys.map (Value.int k))
theorem Owns.nil (w : World) (B : Nat) (E : TypeId) (k : IntKind) : Owns w B E k (.slice none 0 0) [] := World.ownsRow_nil w B E 1
theorem Owns.below {w w' : World} {B : Nat} {E : TypeId} {k : IntKind} {v : Value} {ys : List Int} (h : Owns w B E k v ys) (hb : Below w.heap.size w w') : Owns w' B E k v ys :=
  World.ownsRow.kept h (row := none) ⟨hb.os, hb.tape, hb.output, hb.size, fun i hi _ => hb.block i hi⟩ (by
    by_cases hn : v.ownBlock = none
    · exact .inl hn
    · exact .inr hn)
theorem Owns.alloc {w : World} {B : Nat} {E : TypeId} {k : IntKind} {v : Value} {ys : List Int} (h : Owns w B E k v ys) (o : Obj) : (w.alloc o).ownsRow B E 1 v ys.length (ys.map (Value.int k)) := World.ownsRow.alloc h o
theorem owns_snoc {w : World} {B : Nat} {E : TypeId} {k : IntKind} {v : Value} {ys : List Int} {y : Int} (h : w.ownsRow B E 1 v (ys.length + 1) (ys.map (Value.int k) ++ [.int k y])) : Owns w B E k v (ys ++ [y]) := by
  unfold Owns
  simpa using h
theorem Owns.shape {w : World} {B : Nat} {E : TypeId} {k : IntKind} {v : Value} {ys : List Int} (h : Owns w B E k v ys) : ∃ a c, v = .slice a ys.length c ∧ Reads k w a ys ∧ ys.length ≤ c ∧ c ≤ maxLen := by
  obtain ⟨hl, h | ⟨g, cap, cur, rfl, hb, hh, hn, hm, hs, ht⟩⟩ := h
  · obtain ⟨rfl, hn⟩ := h
    have : ys = [] := List.length_eq_zero_iff.1 hn
    subst this
    exact ⟨none, 0, rfl, .inl rfl, Nat.le_refl _, by unfold maxLen; omega⟩
  · refine ⟨_, _, rfl, .inr ⟨g, 0, rfl, ?_, fun i hi => ?_⟩, hn, hm⟩
    · by_cases hlt : g < w.heap.size
      · exact hlt
      · have : w.heap[g]? = none := by simp; omega
        rw [this] at hh; simp at hh
    · rw [cell_of_row w g (0 + i) _ _ _ hh]
      have : cur[0 + i]? = (ys.map (Value.int k))[i]? := by
        rw [← ht, List.getElem?_take]
        simp [hi]
      rw [this]
      simp [List.getD, hi]

theorem below_grow {w w1 w2 : World} {B : Nat} {E : TypeId} {k : IntKind} {v : Value} {ys : List Int} (h : Below B w w1) (ho : Owns w1 B E k v ys) (hB : B ≤ w1.heap.size) (o : Obj) (hg : (w1.alloc o).grownBy w2 v.ownBlock) : Below B w w2 :=
  (h.alloc hB o).grown hg (by simp; omega) (fun i hi => (World.ownsRow.lt ho i hi).1)

/-- The first k of ys. -/
def upto (ys : List Int) (k : Nat) : List Int := ys.take k
theorem upto_full (ys : List Int) (n : Nat) (h : ys.length = n) : upto ys n = ys := by unfold upto; rw [← h]; exact List.take_length
theorem upto_len (ys : List Int) (k : Nat) (h : k ≤ ys.length) : (upto ys k).length = k := by unfold upto; rw [List.length_take]; omega
theorem upto_snoc (ys : List Int) (k : Nat) (y : Int) (h : k < ys.length) (e : ys.getD k 0 = y) : upto ys k ++ [y] = upto ys (k + 1) := by
  unfold upto
  rw [List.take_succ_eq_append_getElem h, ← e]; simp [List.getD, h]

/-- One number more: 'append(l, y)'. -/
theorem append_one {ops : Array Oper} {rest : List Oper} {o : Oper} {a : Act} {Q : Exit → Act → World → Prop} {W : World} {T E : TypeId} {k : IntKind} {B : Nat} {v : Value} {ys : List Int} {y : Int}
    (hT : Tryz.prog.underlying T = some (.slice E)) (hI : (Tryz.prog.info? E).map (fun i => (i.zero, i.size, i.bytes)) = some (some (.int k 0), 1, 8)) (hgd : o.guard = none) (s x : Operand)
    (ho : o.op = .call { callee := .builtin .append, args := #[s, x], argTypes := #[T, T] }) (hs : a.eval s = v) (hown : Owns W B E k v ys) (hx : a.eval x = .slice (some ⟨W.heap.size, 0, none⟩) 1 1) (hB : B ≤ W.heap.size) (hlen : ys.length < 17592186044415)
    (h : ∀ v' w', Owns w' B E k v' (ys ++ [y]) → Below B W w' → wpList Tryz.prog ops Q rest (a.put o.dst v') w') : wpList Tryz.prog ops Q (o :: rest) a (W.alloc (.cells #[.int k y] E)) := by
  obtain ⟨i0, hi, hz0, hz1, hz2⟩ := info_parts hI
  refine wpList_append_own _ hgd s x T ho B E i0 (.int k 0) 1 8 hT hi hz0 hz1 hz2 rfl (by decide) v ys.length (ys.map (Value.int k)) hs (hown.alloc _) ⟨W.heap.size, 0, none⟩ 1 1 [.int k y] hx rfl ?_ ?_ ?_ ?_ ?_ ?_
  · intro j u hj
    match j, hj with
    | 0, hj => simp at hj; subst hj; simp [Addr.add, go_sem]
  · intro u hu; simp at hu; subst hu; rfl
  · unfold maxLen; omega
  · omega
  · simp; omega
  · intro v' w' h1 h2 _
    exact h v' w' (owns_snoc h1) (below_grow (Below.refl _ _) hown hB _ h2)

/-- An operation without a guard is wanted. -/
theorem step_plain {ops : Array Oper} {o : Oper} {a : Act} {w : World} {K : Act → World → Prop} {Q : Exit → Act → World → Prop} {E' : Prop} (hgd : o.guard = none) (h : o.wp Tryz.prog a w K Q) :
    if Region.wanted o (yielded ops a.tmps) = true then Oper.wp Tryz.prog o a w K Q else E' := by
  rw [if_pos (by simp [Region.wanted, hgd])]
  exact h

/-- The same at the operation, in whatever world. -/
theorem wp_append_one {o : Oper} {a : Act} {K : Act → World → Prop} {Q : Exit → Act → World → Prop} {W : World} {T E : TypeId} {k : IntKind} {B H : Nat} {v : Value} {ys : List Int} {y : Int}
    (hT : Tryz.prog.underlying T = some (.slice E)) (hI : (Tryz.prog.info? E).map (fun i => (i.zero, i.size, i.bytes)) = some (some (.int k 0), 1, 8)) (s x : Operand)
    (ho : o.op = .call { callee := .builtin .append, args := #[s, x], argTypes := #[T, T] }) (hs : a.eval s = v) (hown : Owns W B E k v ys) (hx : a.eval x = .slice (some ⟨H, 0, none⟩) 1 1) (hc : W.cell? ⟨H, 0, none⟩ = some (.int k y)) (hB : B ≤ W.heap.size) (hlen : ys.length < 17592186044415)
    (h : ∀ v' w', Owns w' B E k v' (ys ++ [y]) → Below B W w' → K (a.put o.dst v') w') : o.wp Tryz.prog a W K Q := by
  obtain ⟨i0, hi, hz0, hz1, hz2⟩ := info_parts hI
  refine wp_append_lies _ s x T ho B E i0 (.int k 0) 1 8 hT hi hz0 hz1 hz2 rfl (by decide) v ys.length (ys.map (Value.int k)) hs hown ⟨H, 0, none⟩ 1 1 [.int k y] hx rfl ?_ ?_ (by decide) ?_ ?_ hB _ rfl ?_
  · intro j u hj
    match j, hj with
    | 0, hj => simp at hj; subst hj; simpa [Addr.add] using hc
  · intro u hu; simp at hu; subst hu; rfl
  · unfold maxLen; omega
  · omega
  · intro g cap w' h1 h2 _ _
    exact h _ w' (owns_snoc h1) ((Below.refl _ _).grown h2 hB (fun i hi => (World.ownsRow.lt hown i hi).1))

/-- Two cells from below B, kept by whatever leaves all below B as it is. -/
theorem keepB {w0 w w' : World} {B : Nat} {p q : Addr} {u v : Value} (hp : p.block < B) (hq : q.block < B) (hS : w.cell? p = some u ∧ w.cell? q = some v ∧ Below B w0 w) (hb : Below B w w') :
    w'.cell? p = some u ∧ w'.cell? q = some v ∧ Below B w0 w' :=
  ⟨(hb.cell hp).trans hS.1, (hb.cell hq).trans hS.2.1, hS.2.2.trans hb⟩

end Go.Proofs.YtbhnlfgccldmaaaGreat
/- The document's own answers of layer 5 (dulcimerref05). -/
namespace Go.Proofs.YtbhnlfgccldmaaaGreat
open Go.ChangeShapes Go.WideShapes Go.ChangeAt Go.RowKit
set_option linter.unusedVariables false

/-- Reduced. -/
def redl (xs : List Int) : List Int := xs.map fm
theorem redl_len (xs : List Int) : (redl xs).length = xs.length := by unfold redl; simp
theorem redl_at (xs : List Int) (k : Nat) (h : k < xs.length) : (redl xs).getD k 0 = fm (xs.getD k 0) := by
  unfold redl; simp [List.getD, h]

end Go.Proofs.YtbhnlfgccldmaaaGreat
