/- Package dft. -/
import Derived.Test.YtkijiljipacfjaaRoot
import Derived.Test.YtkijiljipacfjaaVecc
namespace Go.Proofs.Ytkijiljipacfjaa
open Go.ChangeShapes Go.WideShapes Go.ChangeAt Go.RowKit
set_option linter.unusedVariables false
theorem dft_check (n : Int) (w : World) (h0 : -9223372036854775808 ≤ n) (h1 : n ≤ 4096) (hh : hasb n = true) :
    Calls Try.prog 90 #[.int .i64 n, .int .i64 0] w fun e w' => e = .returned (.int .i64 0) ∧ w = w' := by
  have R := root_has n w h0 (by omega)
  rw [hh] at R
  have R := Lib.hid R
  have hd : decide (4096 < n) = false := decide_eq_false (by omega)
  clear hh
  go_enter Try.func90, Try.ntmps90
  go_wp2_with fail
  refine R.out.mono ?_
  rintro e w1 ⟨rfl, rfl⟩
  go_wp2_with fail
  go_ret
  exact ⟨rfl, rfl⟩
theorem dft_base (n : Int) (w : World) (h0 : -9223372036854775808 ≤ n) (h1 : n ≤ 4096) (hh : hasb n = true) :
    Calls Try.prog 62 #[.int .i64 n, .int .i64 0] w fun e w' => e = .returned (.tuple #[.int .u64 (rt n), .int .i64 0]) ∧ Below w.heap.size w w' := by
  have C := Lib.hid (fun w => dft_check n w h0 h1 hh)
  have R := Lib.hid (fun w => root_root n w h0 (by omega) hh)
  clear hh
  go_enter Try.func62, Try.ntmps62
  go_wp2_with fail
  refine (C.out _).mono ?_
  rintro e w1 ⟨rfl, rfl⟩
  go_wp2_with fail
  refine (R.out _).mono ?_
  rintro e w1 ⟨rfl, b1⟩
  go_wp2_with fail
  go_ret2
  exact ⟨rfl, b1⟩
/-- A polynomial at a place, by Horner's rule. -/
def hor (st : Int) : List Int → Int
  | [] => 0
  | x :: r => fm (fm (hor st r * st) + x)
theorem hor_lo (st : Int) : ∀ xs, 0 ≤ hor st xs
  | [] => Int.le_refl _
  | _ :: _ => fm_lo _
theorem hor_hi (st : Int) : ∀ xs, hor st xs ≤ 18446744069414584320
  | [] => (by omega : (0 : Int) ≤ 18446744069414584320)
  | _ :: _ => fm_hi _
theorem hor_step (st : Int) (xs : List Int) (j : Nat) (h : j < xs.length) : fm (fm (hor st (xs.drop (j + 1)) * st) + xs.getD j 0) = hor st (xs.drop j) := by
  rw [List.drop_eq_getElem_cons h]
  simp [hor, List.getD, h]
theorem keepC {w0 w w' : World} {p q : Addr} {u v : Value} (hp : p.block < w0.heap.size) (hq : q.block < w0.heap.size) (hS : w.cell? p = some u ∧ w.cell? q = some v ∧ Below w0.heap.size w0 w) (hb : Below w.heap.size w w') :
    w'.cell? p = some u ∧ w'.cell? q = some v ∧ Below w0.heap.size w0 w' := keepB hp hq hS (hb.mono hS.2.2.size)
set_option maxRecDepth 100000 in
theorem at_pointz (p : Option Addr) (n c K : Nat) (k : Int) (xs : List Int) (r : Int) (w : World) (hr : Row w p n xs) (r0 : 0 ≤ r) (r1 : r ≤ 18446744073709551615) (hk0 : -9223372036854775808 ≤ k) (hk1 : k ≤ 9223372036854775807) (hK : K = k.toNat) :
    Calls Try.prog 64 #[.agg #[.slice p n c, .int .u64 r], .int .i64 k] w fun e w' => e = .returned (.int .u64 (hor (fm (r ^ K)) xs)) ∧ Below w.heap.size w w' := by
  have P := Lib.hid (fun w => gold_pow r K w r0 (by omega) (by omega))
  have HX := Lib.hid hr
  have hs := hr.small
  have hKb : K ≤ 9223372036854775807 := by omega
  have hk : (k < 0 ∧ K = 0) ∨ k = K := by omega
  have HL := Lib.hid hr.len
  have HD := Lib.hid (show xs.drop n = [] by rw [← HL.out]; simp)
  have q0 := fm_lo (r ^ K)
  have q1 := fm_hi (r ^ K)
  clear hr
  clear hK hk0 hk1
  generalize fm (r ^ K) = st at *
  rcases hk with ⟨hneg, rfl⟩ | rfl
  all_goals
    go_enter Try.func64, Try.ntmps64
    go_wp2_with fail
    refine (P.out _).mono ?_
    rintro e w1 ⟨rfl, b1⟩
    have c0 : w1.cell? ⟨w.heap.size, 0, none⟩ = some (.slice p n c) := (b1.cell (p := ⟨w.heap.size, 0, none⟩) (by simp)).trans (by rw [cell_of_row _ w.heap.size 0 _ _ _ (heap_alloc_new _ _)]; rfl)
    have z1 : w.heap.size < w1.heap.size := by have := b1.size; simp at this; omega
    have hB1 : Below w.heap.size w w1 := ((Below.refl w.heap.size w).alloc (Nat.le_refl _) _).trans (b1.mono (by simp))
    clear b1
    go_wp2_with fail
    go_loopw [6, 7] (fun s i wr => ∃ j : Nat, j ≤ n ∧ i = .int .i64 ((j : Int) - 1) ∧ s = .int .u64 (hor st (xs.drop j)) ∧ wr.cell? ⟨w.heap.size, 0, none⟩ = some (.slice p n c) ∧ w.heap.size < wr.heap.size ∧ Below w.heap.size w wr) (fun _ i _ => (intOf i + 1).toNat)
    case atStart => exact ⟨n, by omega, rfl, by rw [HD.out]; rfl, c0, z1, hB1⟩
    case round =>
      clear c0 z1 hB1
      obtain ⟨j, hj, rfl, rfl, c0, z1, hB⟩ := hrel
      by_cases h0 : j = 0
      · subst h0
        go_wp2_with fail
        go_ret
        exact ⟨rfl, hB⟩
      · obtain ⟨i, rfl⟩ : ∃ i, j = i + 1 := ⟨j - 1, by omega⟩
        have e1 : (((i + 1 : Nat) : Int) - 1) = (i : Int) := by omega
        rw [e1]
        obtain ⟨b, off, rfl, hb, hc0, x0, x1⟩ := HX.out.cell (k := i) (by omega)
        have HS := Lib.hid (hor_step st xs i (by rw [HL.out]; omega))
        have y0 := hor_lo st (xs.drop (i + 1))
        have y1 := hor_hi st (xs.drop (i + 1))
        generalize hor st (xs.drop (i + 1)) = y at *
        generalize xs.getD i 0 = x at *
        have hc : wr.cell? ⟨b, off + i, none⟩ = some (.int .u64 x) := (hB.cell (p := ⟨b, off + i, none⟩) hb).trans hc0
        have hb' : b < wr.heap.size := by omega
        have hin : i < n := by omega
        clear hc0
        have t0 := fm_lo (y * st)
        have t1 := fm_hi (y * st)
        go_wp2_with fail
        go_region_held3 (fun w' => w'.cell? ⟨w.heap.size, 0, none⟩ = some (.slice (some ⟨b, off, none⟩) n c) ∧ w'.cell? ⟨b, off + i, none⟩ = some (.int .u64 x) ∧ Below wr.heap.size wr w') (first | exact ⟨c0, hc, (Below.refl _ _).drew⟩ | assumption | (refine keepC (p := ⟨w.heap.size, 0, none⟩) (q := ⟨b, off + i, none⟩) z1 hb' ?_ hb2; assumption)) (first | (go_at_call 71; (with_reducible refine (gold_mul _ _ _ y0 (by omega) q0 (by omega)).mono ?_); rintro e w2 ⟨rfl, hb2⟩) | (go_at_call 57; (with_reducible refine (gold_add _ _ _ t0 (by omega) x0 x1).mono ?_); rintro e w2 ⟨rfl, rfl⟩))
        have hS2 := Lib.hid (by assumption : _ ∧ _ ∧ Below wr.heap.size wr _)
        rw [HS.out]
        go_wp2_with fail
        go_roundw
        case rel => exact ⟨i, by omega, by go_num, rfl, hS2.out.1, by have := hS2.out.2.2.size; omega, hB.trans (hS2.out.2.2.mono hB.size)⟩
        case measure => (first | (simp [intOf]; done) | (simp [intOf]; omega) | (simp only [intOf]; omega))
theorem at_point (p : Option Addr) (n c k : Nat) (xs : List Int) (r : Int) (w : World) (hr : Row w p n xs) (r0 : 0 ≤ r) (r1 : r ≤ 18446744069414584320) (hk : k ≤ 4096) :
    Calls Try.prog 64 #[.agg #[.slice p n c, .int .u64 r], .int .i64 k] w fun e w' => e = .returned (.int .u64 (hor (fm (r ^ k)) xs)) ∧ Below w.heap.size w w' :=
  at_pointz p n c k k xs r w hr r0 (by omega) (by omega) (by omega) (by omega)
/-- The transform by the powers of r. -/
def horl (r : Int) (xs : List Int) (n : Nat) : List Int := (List.range n).map fun k => hor (fm (r ^ k)) xs
theorem horl_len (r : Int) (xs : List Int) (n : Nat) : (horl r xs n).length = n := by unfold horl; simp
theorem horl_at (r : Int) (xs : List Int) (n k : Nat) (h : k < n) : (horl r xs n).getD k 0 = hor (fm (r ^ k)) xs := by unfold horl; simp [List.getD, h]
theorem horl_wf (r : Int) (xs : List Int) (n : Nat) : ∀ z ∈ horl r xs n, (Lit.int .u64 z).wf = true := by
  intro z hz
  unfold horl at hz
  obtain ⟨k, _, rfl⟩ := List.mem_map.1 hz
  exact WalkArith.wf_u64 ⟨hor_lo _ _, by have := hor_hi (fm (r ^ k)) xs; omega⟩
set_option maxRecDepth 100000 in
theorem dft_each (p : Option Addr) (n c : Nat) (xs : List Int) (r : Int) (w : World) (hr : Row w p n xs) (r0 : 0 ≤ r) (r1 : r ≤ 18446744069414584320) (hn : n ≤ 4096) :
    Calls Try.prog 63 #[.int .i64 n, .func (.func 64) #[.agg #[.slice p n c, .int .u64 r]] #[]] w fun e w' => e = .returned (.slice (some ⟨w.heap.size, 0, none⟩) n n) ∧ RowAt w' w.heap.size 35 (horl r xs n) ∧ Below w.heap.size w w' := by
  have hmk := make_u64 n (by omega)
  have HL := Lib.hid (horl_len r xs n)
  have HA := Lib.hid (horl_at r xs n)
  have HX := Lib.hid hr
  clear hr
  go_enter Try.func63, Try.ntmps63
  go_wp2_with fail
  go_loopw [11] (fun i wr => ∃ k : Nat, k ≤ n ∧ i = .int .i64 k ∧ Hid (Filling wr w.heap.size 35 (horl r xs n) k n) ∧ Below w.heap.size w wr) (fun i _ => n - (intOf i).toNat)
  case atStart => exact ⟨0, Nat.zero_le _, rfl, Lib.hid (Filling.start w _ _ n), (Below.refl _ _).alloc (Nat.le_refl _) _⟩
  case round =>
    obtain ⟨k, hk, rfl, HFL, hB⟩ := hrel
    have hsz := HFL.out.lt
    by_cases hlt : k < n
    · have HS := Lib.hid (HA.out k hlt)
      have HX2 := Lib.hid (HX.out.below hB)
      go_wp2_with fail
      refine (at_point p n c k xs r _ HX2.out r0 r1 (by omega)).mono ?_
      rintro e w1 ⟨rfl, hb1⟩
      have hfl := HFL.out.below hb1
      obtain ⟨u, hu⟩ := hfl.cell hlt HL.out
      have hfr := hfl.free k
      have HG := Lib.hid (hfl.step hlt HL.out HS.out)
      clear hfl
      go_wp2_with fail
      go_roundw
      case rel => exact ⟨k + 1, by omega, by go_num, HG, (hB.trans (hb1.mono hB.size)).setCell (Nat.le_refl _) _⟩
      case measure => (first | (simp [intOf]; done) | (simp [intOf]; omega) | (simp only [intOf]; omega))
    · obtain rfl : k = n := by omega
      go_wp2_with fail
      go_ret
      exact ⟨rfl, HFL.out.done HL.out, hB⟩
set_option maxRecDepth 100000 in
theorem dft_dft (p : Option Addr) (n c : Nat) (xs : List Int) (w : World) (hr : Row w p n xs) (h1 : n ≤ 4096) (hh : hasb n = true) :
    Calls Try.prog 26 #[.slice p n c, .int .i64 0] w (GivesOk w n (horl (rt n) xs n)) := by
  have C := Lib.hid (fun w => dft_base n w (by omega) (by omega) hh)
  have HX := Lib.hid hr
  have r0 := rt_lo n
  have r1 := rt_hi n
  clear hh hr
  generalize rt n = r at *
  go_enter Try.func26, Try.ntmps26
  go_wp2_with fail
  refine (C.out _).mono ?_
  rintro e w1 ⟨rfl, b1⟩
  have HX1 := Lib.hid (HX.out.below b1)
  go_wp2_with fail
  refine (dft_each p n c xs r _ HX1.out r0 r1 h1).mono ?_
  rintro e w2 ⟨rfl, hq, b2⟩
  have HQ := Lib.hid hq
  clear hq
  go_wp2_with fail
  go_ret2
  exact ⟨_, _, rfl, Row.of_at HQ.out (horl_wf r xs n) (horl_len r xs n) (by omega), b1.trans (b2.mono b1.size)⟩
end Go.Proofs.Ytkijiljipacfjaa
