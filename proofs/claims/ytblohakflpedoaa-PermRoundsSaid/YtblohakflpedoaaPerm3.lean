/- Package perm: the inverse modulo a number, tables of two sides, Crt; the page's example of layer 8. -/
import Derived.Test.YtblohakflpedoaaPerm2
namespace Go.Proofs.Ytblohakflpedoaa
open Go.ChangeShapes Go.WideShapes Go.ChangeAt Go.RowKit
set_option linter.unusedVariables false
theorem coprime_ok (a b : Nat) (W : World) (hs : sidesb a b = true) (hg : Nat.gcd a b = 1) :
    Calls Try.prog 17 #[.int .i64 a, .int .i64 b] W fun e w' => e = .returned (.int .i64 0) ∧ Below W.heap.size W w' := by
  have ab : a ≤ 16777216 ∧ b ≤ 16777216 := by
    obtain ⟨m, n, e1, e2, _, _, _, _, _⟩ := sides_yes hs
    omega
  have H := fun w => perm_within a b w
  rw [hs] at H
  have H := Lib.hid H
  have G := fun w => fact_gcd a b w (by omega) (by omega)
  rw [gcdz_nat, hg] at G
  have G := Lib.hid G
  clear hs hg ab
  go_enter Try.func17, Try.ntmps17
  go_wp2_with fail
  refine (H.out _).mono ?_
  rintro e w1 ⟨rfl, rfl⟩
  go_wp2_with fail
  refine (G.out _).mono ?_
  rintro e w1 ⟨rfl, b1⟩
  go_wp2_with fail
  go_ret
  exact ⟨rfl, b1⟩
theorem coprime_no (a b z : Int) (W : World) (a1 : a ≤ 9223372036854775807) (b1 : b ≤ 9223372036854775807) (hz : (sidesb a b = false ∧ z = 3) ∨ (sidesb a b = true ∧ gcdz a b ≠ 1 ∧ z = 2)) :
    Calls Try.prog 17 #[.int .i64 a, .int .i64 b] W fun e w' => e = .returned (.int .i64 z) ∧ Below W.heap.size W w' := by
  have H := fun w => perm_within a b w
  have hB : Below W.heap.size W W := Below.refl _ _
  rcases hz with ⟨hs, rfl⟩ | ⟨hs, hg, rfl⟩
  · rw [hs] at H
    have H := Lib.hid H
    go_enter Try.func17, Try.ntmps17
    go_wp2_with fail
    refine (H.out _).mono ?_
    rintro e w1 ⟨rfl, rfl⟩
    go_wp2_with fail
    go_ret
    exact ⟨rfl, hB⟩
  · rw [hs] at H
    have H := Lib.hid H
    have G := Lib.hid (fun w => fact_gcd a b w a1 b1)
    have d : (gcdz a b != 1) = true := by simpa using hg
    generalize gcdz a b = g at *
    go_enter Try.func17, Try.ntmps17
    go_wp2_with fail
    refine (H.out _).mono ?_
    rintro e w1 ⟨rfl, rfl⟩
    go_wp2_with fail
    refine (G.out _).mono ?_
    rintro e w1 ⟨rfl, b1⟩
    go_wp2_with fail
    go_ret
    exact ⟨rfl, b1⟩
set_option maxRecDepth 100000 in
theorem perm_inv (a m : Nat) (W : World) (hm : 1 ≤ m) (hm2 : m ≤ 16777216) (ha : a ≤ 16777216) (hg : Nat.gcd a m = 1) :
    Calls Try.prog 19 #[.int .i64 a, .int .i64 m] W fun e w' => ∃ v : Nat, e = .returned (.int .i64 (v : Int)) ∧ v < m ∧ a * v % m = 1 % m ∧ Below W.heap.size W w' := by
  have hB : Below W.heap.size W W := Below.refl _ _
  have db : ((m : Int) == 0) = false := by simp; omega
  have db2 : ¬ ((m : Int) = 0) := by omega
  have db3 : ¬ (m = 0) := by omega
  have q1 : a % m < m := Nat.mod_lt _ (by omega)
  have hmod0 : ((a : Int)).tmod (m : Int) = ((a % m : Nat) : Int) := rfl
  have hmod1 : ((a : Int)) % (m : Int) = ((a % m : Nat) : Int) := rfl
  have I0 := Lib.hid (invOk_start a m (by omega))
  have IE := Lib.hid (fun r x y h => invOk_end (a := a) (m := m) (r := r) (x := x) (y := y) h hg (by omega))
  generalize a % m = a0 at *
  go_enter Try.func19, Try.ntmps19
  go_wp2_with fail
  go_quiet (fail)
  go_wp2_with fail
  go_loopw [5, 6, 7, 8] (fun vr vs vx vy wr => ∃ (r s : Nat) (x y : Int), vr = .int .i64 (r : Int) ∧ vs = .int .i64 (s : Int) ∧ vx = .int .i64 x ∧ vy = .int .i64 y ∧ r ≤ m ∧ s < m + 1 ∧ Hid (InvOk a m r s x y) ∧ Below W.heap.size W wr) (fun _ vs _ _ _ => (intOf vs).toNat)
  case atStart => exact ⟨m, a0, 0, 1, rfl, rfl, rfl, rfl, Nat.le_refl _, by omega, I0, below_drewN hB _⟩
  case round =>
    clear hB I0
    obtain ⟨r, s, x, y, rfl, rfl, rfl, rfl, hr, hs, HI, hB⟩ := hrel
    by_cases h0 : s = 0
    · subst h0
      obtain ⟨⟨b1, b2⟩, v, hv, hv2, hv3⟩ := IE.out r x y HI.out
      obtain ⟨t1, t2, t3⟩ := tmod_twice (x := x) (m := m) (by omega)
      rw [hv] at t1
      clear HI IE hv
      have hx1 : ((x.tmod (m : Int)) + (m : Int)) % (m : Int) = (v : Int) := by
        rw [← Int.tmod_eq_emod_of_nonneg (by omega)]; exact t1
      have hw1 : IntKind.i64.wrap (x.tmod (m : Int) + (m : Int)) = x.tmod (m : Int) + (m : Int) := IntWalk.i64_in _ (by omega)
      go_wp2_with fail
      go_ret
      exact ⟨v, by first | rfl | (simp only [t1]; rfl) | (simp only [hx1]; rfl), hv2, hv3, hB⟩
    · have hz : ((s : Int) == 0) = false := by simp; omega
      have hz2 : ((s : Int) != 0) = true := by simp; omega
      have hz3 : ¬ ((s : Int) = 0) := by omega
      obtain ⟨qn, hqn⟩ : ∃ qn, r / s = qn := ⟨_, rfl⟩
      obtain ⟨qs, hqs⟩ : ∃ qs, qn * s = qs := ⟨_, rfl⟩
      obtain ⟨rs, hrs⟩ : ∃ rs, r % s = rs := ⟨_, rfl⟩
      have hq : ((r : Int)).tdiv (s : Int) = ((qn : Nat) : Int) := by rw [← hqn]; rfl
      have hq' : ((r : Int)) / (s : Int) = ((qn : Nat) : Int) := hq
      have HI2 := invOk_step HI.out (by omega)
      have hcq := invOk_q HI.out
      have hlt : r % s < s := Nat.mod_lt _ (by omega)
      have hqr : r / s ≤ r := Nat.div_le_self r s
      have hds := Nat.div_add_mod r s
      rw [hqn] at HI2 hcq hqr hds
      rw [hrs] at HI2 hlt hds
      rw [Nat.mul_comm, hqs] at hds
      obtain ⟨y0, y1⟩ := invOk_y HI.out
      have x0 := HI.out.1.2.1
      have x1 := HI.out.1.2.2
      have hw1 : IntKind.i64.wrap ((qn : Nat) : Int) = ((qn : Nat) : Int) := IntWalk.i64_in _ (by omega)
      have hw2 : IntKind.i64.wrap (((qn : Nat) : Int) * (s : Int)) = ((qs : Nat) : Int) := by rw [mul_cast, hqs]; exact IntWalk.i64_in _ (by omega)
      have hw3 : IntKind.i64.wrap ((r : Int) - ((qs : Nat) : Int)) = ((rs : Nat) : Int) := by rw [IntWalk.i64_in _ (by omega)]; omega
      obtain ⟨qy, hqy⟩ : ∃ qy, ((qn : Nat) : Int) * y = qy := ⟨_, rfl⟩
      rw [hqy] at HI2 hcq
      obtain ⟨c0, c1⟩ := hcq
      have hw4 : IntKind.i64.wrap (((qn : Nat) : Int) * y) = qy := by rw [hqy]; exact IntWalk.i64_in _ (by omega)
      have hw5 : IntKind.i64.wrap (x - qy) = x - qy := IntWalk.i64_in _ (by omega)
      have HI2 := Lib.hid HI2
      clear HI hqs hrs hqn hqy
      go_wp2_with fail
      go_roundw
      case rel => exact ⟨s, rs, y, x - qy, rfl, rfl, rfl, rfl, by omega, by omega, HI2, hB⟩
      case measure => (first | (simp [intOf]; done) | (simp [intOf]; omega) | (simp only [intOf]; omega))
/-- A table of two sides: i times d and j times l, modulo all. -/
def gridn (a b d l k : Nat) : Nat := (k / b * d + k % b * l) % (a * b)
def gridl (a b d l : Nat) : List Int := tab (a * b) fun k => ((gridn a b d l k : Nat) : Int)
theorem gridl_len (a b d l : Nat) : (gridl a b d l).length = a * b := tab_len _ _
theorem gridl_at (a b d l k : Nat) (h : k < a * b) : (gridl a b d l).getD k 0 = ((gridn a b d l k : Nat) : Int) := tab_at (a * b) (fun k => ((gridn a b d l k : Nat) : Int)) k h
theorem gridl_wf (a b d l : Nat) (h : a * b ≤ 16777216) : ∀ z ∈ gridl a b d l, (Lit.int .i64 z).wf = true := by
  intro z hz
  unfold gridl tab at hz
  obtain ⟨k, hk, rfl⟩ := List.mem_map.1 hz
  have hk' : k < a * b := by simpa using hk
  have : gridn a b d l k < a * b := Nat.mod_lt _ (by omega)
  exact WalkArith.wf_i64 ⟨by omega, by omega⟩
theorem grid_flat {a b d l i j : Nat} (hi : i < a) (hj : j < b) : i * b + j < a * b ∧ (gridl a b d l).getD (i * b + j) 0 = (((i * d + j * l) % (a * b) : Nat) : Int) := by
  have h := flat_lt (a := b) (b := a) hi hj
  rw [Nat.mul_comm b a] at h
  refine ⟨h, ?_⟩
  rw [gridl_at _ _ _ _ _ h]
  obtain ⟨h1, h2⟩ := flat_parts (j := i) hj
  unfold gridn
  rw [h1, h2]
theorem grid_next (i d j l N : Nat) : ((i * d + j * l) % N + l) % N = (i * d + (j + 1) * l) % N := by
  rw [Nat.mod_add_mod, Nat.succ_mul, Nat.add_assoc]
set_option maxRecDepth 100000 in
set_option maxHeartbeats 1000000 in
theorem perm_grid (a b d l : Nat) (W : World) (ha : 1 ≤ a) (hb : 1 ≤ b) (h : a * b ≤ 16777216) (hd : d ≤ 16777216) (hl : l ≤ 16777216) :
    Calls Try.prog 18 #[.int .i64 a, .int .i64 b, .int .i64 d, .int .i64 l] W (GivesI W (a * b) (gridl a b d l)) := by
  have hmk := make_i64 (a * b) (by omega)
  have GF := Lib.hid (fun i j hi hj => grid_flat (a := a) (b := b) (d := d) (l := l) (i := i) (j := j) hi hj)
  have GN := Lib.hid (fun i j => grid_next i d j l (a * b))
  have SW := Lib.hid (gridl_wf a b d l h)
  have SL := Lib.hid (gridl_len a b d l)
  have hw0 : IntKind.i64.wrap ((a : Int) * (b : Int)) = ((a * b : Nat) : Int) := by rw [mul_cast]; exact IntWalk.i64_in _ (by omega)
  have a2 : a ≤ a * b := Nat.le_mul_of_pos_right a (by omega)
  have b2 : b ≤ a * b := Nat.le_mul_of_pos_left b (by omega)
  have F0 := Lib.hid (FillingI.start W 3 (gridl a b d l) (a * b))
  have hB0 := (Below.refl W.heap.size W).alloc (Nat.le_refl _) (.cells (Array.replicate (a * b) (.int .i64 0)) 3)
  have M1 := Lib.hid (fun i (hi : i < a) => (show i * b ≤ a * b from Nat.mul_le_mul_right b (by omega)))
  have M2 := Lib.hid (fun i (hi : i < a) => (show i * d ≤ 16777216 * 16777216 from Nat.mul_le_mul (by omega) hd))
  have MS := Lib.hid (fun i => (show i * b + b = (i + 1) * b by rw [Nat.succ_mul]))
  have N0 : 0 < a * b := by omega
  generalize gridl a b d l = ys at *
  generalize hN : a * b = N at *
  have HNE := Lib.hid hN
  clear hN
  have dN : ((N : Int) == 0) = false := by simp; omega
  have dN2 : ¬ ((N : Int) = 0) := by omega
  have dN3 : ¬ (N = 0) := by omega
  go_enter Try.func18, Try.ntmps18
  go_wp2_with fail
  generalize W.alloc (.cells (Array.replicate N (.int .i64 0)) 3) = w1 at *
  go_loopw [20] (fun v wr => ∃ i : Nat, i ≤ a ∧ v = .int .i64 i ∧ Hid (FillingI wr W.heap.size 3 ys (i * b) N) ∧ Below W.heap.size W wr) (fun v _ => a - (intOf v).toNat)
  case atStart => exact ⟨0, Nat.zero_le _, rfl, Lib.hid (by rw [Nat.zero_mul]; exact F0.out), hB0⟩
  case round =>
    clear F0 hB0
    obtain ⟨i, hi, rfl, HF, hB⟩ := hrel
    by_cases hlt : i < a
    · have hd1 : decide ((i : Int) < (a : Int)) = true := decide_eq_true (by omega)
      have m1 := M1.out i hlt
      have m2 := M2.out i hlt
      have hw1 : IntKind.i64.wrap ((i : Int) * (d : Int)) = ((i * d : Nat) : Int) := by rw [mul_cast]; exact IntWalk.i64_in _ (by omega)
      have hm1 : (((i * d : Nat) : Int)).tmod (N : Int) = ((i * d % N : Nat) : Int) := rfl
      have hm2 : (((i * d : Nat) : Int)) % (N : Int) = ((i * d % N : Nat) : Int) := rfl
      have HZ := Lib.hid (show i * d % N = (i * d + 0 * l) % N by rw [Nat.zero_mul, Nat.add_zero])
      obtain ⟨di, hdi⟩ : ∃ di, i * d = di := ⟨_, rfl⟩
      rw [hdi] at hw1 hm1 hm2 HZ m2
      generalize di % N = d0 at *
      go_wp2_with fail
      go_loopw [12, 29] (fun t v wr => ∃ j : Nat, j ≤ b ∧ v = .int .i64 j ∧ t = .int .i64 (((di + j * l) % N : Nat) : Int) ∧ Hid (FillingI wr W.heap.size 3 ys (i * b + j) N) ∧ Below W.heap.size W wr) (fun _ v _ => b - (intOf v).toNat)
      case atStart => exact ⟨0, Nat.zero_le _, rfl, by rw [← HZ.out], Lib.hid (by rw [Nat.add_zero]; exact HF.out), hB⟩
      case round =>
        clear HF hB
        obtain ⟨j, hj, rfl, rfl, HF, hB⟩ := hrel
        have hsz := HF.out.lt
        by_cases hlt2 : j < b
        · have hd2 : decide ((j : Int) < (b : Int)) = true := decide_eq_true (by omega)
          obtain ⟨fl, fa⟩ := GF.out i j hlt hlt2
          rw [hdi] at fa
          have hst := Lib.hid (HF.out.step fl SL.out fa)
          obtain ⟨u, hu⟩ := HF.out.cell fl SL.out
          have hfr := HF.out.free (i * b + j)
          have HG := GN.out i j
          rw [hdi] at HG
          have ht : (di + j * l) % N < N := Nat.mod_lt _ N0
          have hw3 : IntKind.i64.wrap ((i : Int) * (b : Int)) = ((i * b : Nat) : Int) := by rw [mul_cast]; exact IntWalk.i64_in _ (by omega)
          have hw4 : IntKind.i64.wrap (((i * b : Nat) : Int) + (j : Int)) = ((i * b + j : Nat) : Int) := by rw [IntWalk.i64_in _ (by omega)]; omega
          have hm0 : (0 : Int) ≤ ((i * b + j : Nat) : Int) := by omega
          have hm3 : ((i * b + j : Nat) : Int) < (N : Int) := by omega
          have HN := Lib.hid (show i * b + j + 1 = i * b + (j + 1) by omega)
          clear fa
          generalize ht2 : (di + (j + 1) * l) % N = t2 at *
          have HT2 := Lib.hid ht2
          clear ht2
          generalize (di + j * l) % N = t at *
          have hw5 : IntKind.i64.wrap ((t : Int) + (l : Int)) = (t : Int) + (l : Int) := IntWalk.i64_in _ (by omega)
          have hm4 : ((t : Int) + (l : Int)).tmod (N : Int) = ((t2 : Nat) : Int) := by
            rw [← HG, show ((t : Int) + (l : Int)) = ((t + l : Nat) : Int) from by omega]; rfl
          have hm5 : ((t : Int) + (l : Int)) % (N : Int) = ((t2 : Nat) : Int) := hm4
          generalize hk : i * b + j = k at *
          generalize hib : i * b = ib at *
          clear HG
          go_wp2_with fail
          go_roundw
          case rel => exact ⟨j + 1, by omega, by go_num, by rw [HT2.out], Lib.hid (by rw [← HN.out]; exact hst.out), hB.setCell (Nat.le_refl _) _⟩
          case measure => (first | (simp [intOf]; done) | (simp [intOf]; omega) | (simp only [intOf]; omega))
        · obtain rfl : j = b := by omega
          have hd2 : decide ((j : Int) < (j : Int)) = false := decide_eq_false (by omega)
          have HF2 := HF.out
          rw [MS.out i] at HF2
          have HF2 := Lib.hid HF2
          clear HF
          generalize (di + j * l) % N = t at *
          go_wp2_with fail
          go_roundw
          case rel => exact ⟨i + 1, by omega, by go_num, HF2, hB⟩
          case measure => (first | (simp [intOf]; done) | (simp [intOf]; omega) | (simp only [intOf]; omega))
    · obtain rfl : i = a := by omega
      have hd1 : decide ((i : Int) < (i : Int)) = false := decide_eq_false (by omega)
      have HF2 := HF.out
      rw [HNE.out] at HF2
      have HF2 := Lib.hid HF2
      go_wp2_with fail
      go_ret
      exact ⟨_, _, rfl, RowI.of_at (HF2.out.done SL.out) SW.out SL.out (by omega), hB⟩
end Go.Proofs.Ytblohakflpedoaa
