/- package root's sizes: its iterator. -/
import Derived.Test.YtcbiennifmfkgaaFirm
import Derived.Test.YtcbiennifmfkgaaRanget
import Derived.Test.YtcbiennifmfkgaaStk
namespace Go.Proofs.Ytcbiennifmfkgaa
open Go.ChangeShapes Go.WideShapes Go.ChangeAt Go.RowKit
set_option linter.unusedVariables false
open Go.Shelf
set_option linter.unusedSimpArgs false
attribute [local go_sem] Oper.semAt_some
def ints (L : List Nat) : List Int := L.map fun (n : Nat) => (n : Int)
theorem ints_len (L : List Nat) : (ints L).length = L.length := by simp [ints]
theorem ints_at (L : List Nat) (i : Nat) (h : i < L.length) : (ints L).getD i 0 = ((L.getD i 0 : Nat) : Int) := by simp [ints, List.getD, h]
/-- One prime more, behind i numbers. -/
def stepT (m p : Nat) (L : List Nat) (i : Nat) : List Nat := L ++ ((L.take i).filter fun n => decide (n * p ≤ m)).map fun n => n * p
theorem stepT_zero (m p : Nat) (L : List Nat) : stepT m p L 0 = L := by simp [stepT]
theorem stepT_all (m p : Nat) (L : List Nat) : stepT m p L L.length = stepP m p L := by unfold stepT stepP; rw [List.take_length]
theorem stepT_succ (m p : Nat) (L : List Nat) (i : Nat) (h : i < L.length) : stepT m p L (i + 1) = stepT m p L i ++ (if L.getD i 0 * p ≤ m then [L.getD i 0 * p] else []) := by
  unfold stepT
  have e : L.take (i + 1) = L.take i ++ [L.getD i 0] := by rw [List.take_succ_eq_append_getElem h]; simp [List.getD, h]
  rw [e, List.filter_append, List.map_append, List.append_assoc]
  congr 1
  congr 1
  generalize L.getD i 0 = y
  by_cases hc : y * p ≤ m
  · rw [if_pos hc, List.filter_cons, if_pos (decide_eq_true hc)]; rfl
  · rw [if_neg hc, List.filter_cons, if_neg (by simpa using hc)]; rfl
theorem stepT_len (m p : Nat) (L : List Nat) (i : Nat) : (stepT m p L i).length ≤ 2 * L.length := by
  unfold stepT
  rw [List.length_append, List.length_map]
  have := List.length_filter_le (fun n => decide (n * p ≤ m)) (L.take i)
  rw [List.length_take] at this
  omega
def ODDS : List Nat := [3, 5, 17, 257, 65537]
def oddT (m : Nat) : Nat → List Nat
  | 0 => [1]
  | j + 1 => stepP m (ODDS.getD j 0) (oddT m j)
theorem oddT_all (m : Nat) : oddT m 5 = oddL m := rfl
theorem oddT_len (m : Nat) : ∀ j, (oddT m j).length ≤ 2 ^ j
  | 0 => Nat.le_refl _
  | j + 1 => by
    have := oddT_len m j
    have h := stepT_len m (ODDS.getD j 0) (oddT m j) (oddT m j).length
    rw [stepT_all] at h
    rw [oddT, Nat.pow_succ]; omega
theorem oddT_b (m : Nat) : ∀ j, j ≤ 5 → ∀ y ∈ oddT m j, 1 ≤ y ∧ y ≤ 4294967295
  | 0, _, y, h => by rw [oddT] at h; rw [List.mem_singleton.1 h]; omega
  | j + 1, hj, y, h => by
    have key : ∀ i, i ≤ 5 → ∀ y ∈ oddT m i, y ∣ (ODDS.take i).foldl (· * ·) 1 := fun i => by
      induction i with
      | zero => intro _ y hy; rw [oddT] at hy; rw [List.mem_singleton.1 hy]; exact Nat.dvd_refl _
      | succ i ih =>
        intro hi y hy
        have e : (ODDS.take (i + 1)).foldl (· * ·) 1 = (ODDS.take i).foldl (· * ·) 1 * ODDS.getD i 0 := by
          rw [List.take_succ_eq_append_getElem (show i < ODDS.length by simp [ODDS]; omega), List.foldl_append]; simp [List.getD, show i < ODDS.length by simp [ODDS]; omega]
        rw [e]
        exact step_dvd (ih (by omega)) y hy
    have h1 := key (j + 1) hj y h
    have h2 : (ODDS.take (j + 1)).foldl (· * ·) 1 ∣ 4294967295 := by
      match j, hj with
      | 0, _ => decide
      | 1, _ => decide
      | 2, _ => decide
      | 3, _ => decide
      | 4, _ => decide
    have h3 := Nat.dvd_trans h1 h2
    exact ⟨Nat.pos_of_dvd_of_pos h3 (by decide), Nat.le_of_dvd (by decide) h3⟩
theorem primes_c (w : World) : Calls Try.prog 13 #[] w fun e w' => e = .returned (.slice (some ⟨w.heap.size, 0, none⟩) 6 6) ∧ w' = w.alloc (.cells #[.int .i64 2, .int .i64 3, .int .i64 5, .int .i64 17, .int .i64 257, .int .i64 65537] 3) := by
  go_enter Try.func13, Try.ntmps13
  go_wp2_with fail
  go_ret
  exact ⟨rfl, rfl⟩
theorem odds_at (w : World) (b : Nat) (h : w.heap[b]? = some (.cells #[.int .i64 2, .int .i64 3, .int .i64 5, .int .i64 17, .int .i64 257, .int .i64 65537] 3 (0, 0))) (j : Nat) (hj : j < 5) : w.cell? ⟨b, 1 + j, none⟩ = some (.int .i64 ((ODDS.getD j 0 : Nat) : Int)) ∧ 3 ≤ ODDS.getD j 0 ∧ ODDS.getD j 0 ≤ 65537 := by
  rw [cell_of_row _ _ _ _ _ _ h]
  match j, hj with
  | 0, _ => exact ⟨rfl, by decide, by decide⟩
  | 1, _ => exact ⟨rfl, by decide, by decide⟩
  | 2, _ => exact ⟨rfl, by decide, by decide⟩
  | 3, _ => exact ⟨rfl, by decide, by decide⟩
  | 4, _ => exact ⟨rfl, by decide, by decide⟩
/-- The odd numbers lie in a row of the call's own; the primes in theirs. -/
structure OddR (B g c : Nat) (L : List Nat) (wr : World) : Prop where
  o : Owns wr B 3 .i64 (.slice (some ⟨g, 0, none⟩) L.length c) (ints L)
  p : wr.heap[B + 1]? = some (.cells #[.int .i64 2, .int .i64 3, .int .i64 5, .int .i64 17, .int .i64 257, .int .i64 65537] 3 (0, 0))
  n : g ≠ B + 1
theorem OddR.cell {B g c : Nat} {L : List Nat} {wr : World} (h : OddR B g c L wr) (i : Nat) (hi : i < L.length) : wr.cell? ⟨g, i, none⟩ = some (.int .i64 ((L.getD i 0 : Nat) : Int)) := by
  obtain ⟨a, c', e, hr, _⟩ := h.o.shape
  rw [ints_len] at e
  simp only [Value.slice.injEq] at e
  obtain ⟨rfl, -, rfl⟩ := e
  rcases hr with hn | ⟨b, off, e2, hb, hc⟩
  · have h2 : L.length = 0 := by rw [← ints_len L, hn]; rfl
    omega
  · simp only [Option.some.injEq, Addr.mk.injEq, and_true] at e2
    obtain ⟨rfl, rfl⟩ := e2
    have := hc i (by rw [ints_len]; exact hi)
    rw [ints_at _ _ hi, Nat.zero_add] at this
    exact this
theorem OddR.lt {B g c : Nat} {L : List Nat} {wr : World} (h : OddR B g c L wr) : B ≤ g ∧ g < wr.heap.size := by
  have := World.ownsRow.lt h.o g rfl
  exact this
theorem OddR.cap {B g c : Nat} {L : List Nat} {wr : World} (h : OddR B g c L wr) : L.length ≤ c ∧ c ≤ 9223372036854775807 := by
  obtain ⟨a, c', e, hr, h1, h2⟩ := h.o.shape
  rw [ints_len] at e h1
  simp only [Value.slice.injEq] at e
  obtain ⟨rfl, -, rfl⟩ := e
  exact ⟨h1, by unfold maxLen at h2; omega⟩
/-- What is still to come. -/
def encI (x : Nat) : Array Value := #[.int .i64 (x : Int)]
def RelI (all : List Nat) (pre : List Nat) (x : Nat) : Prop := ∃ r, pre ++ x :: r = all
set_option maxRecDepth 100000 in
set_option maxHeartbeats 4000000 in
theorem sizes_g (g : Nat) (hg : 1 ≤ g) (B1 l : Nat) (mm : Int) (W : World) (hm : mm ≤ 16777216) (hm2 : -9223372036854775808 ≤ mm) (hB1 : W.cell? ⟨B1, 0, none⟩ = some (.int .i64 mm)) (hB0 : B1 < W.heap.size)
    (J : Nat → List Nat → World → Prop) (Jx : List Nat → World → Prop) (hJ : ∀ C, Below W.heap.size W C → J C.heap.size [] C)
    (hY : ∀ T pre x V, J T pre V → W.heap.size ≤ T → T ≤ V.heap.size → RelI (sizL mm.toNat) pre x → YieldAt Fence.wide (g - 1) Try.prog l (encI x) V fun e V' => (e = .returned (.bool true) ∧ J T (pre ++ [x]) V' ∧ Kt B1 W.heap.size T V V') ∨ (e = .returned (.bool false) ∧ Jx (pre ++ [x]) V')) :
    CallsIn Fence.wide g Try.prog 12 #[.func (.yield l) #[] #[], .pointer (some ⟨B1, 0, none⟩)] W fun e W' => (∃ v, e = .returned v) ∧
      ((∃ T xs, xs = sizL mm.toNat ∧ J T xs W') ∨ ∃ pre, (∃ r, pre ++ r = sizL mm.toNat) ∧ Jx pre W') := by
  obtain ⟨m, hmm⟩ : ∃ m, mm.toNat = m := ⟨_, rfl⟩
  have hm16 : m ≤ 16777216 := by omega
  obtain ⟨W2, hW2⟩ : ∃ W2, (W.alloc (.cells #[.int .i64 1] 3)).alloc (.cells #[.int .i64 2, .int .i64 3, .int .i64 5, .int .i64 17, .int .i64 257, .int .i64 65537] 3) = W2 := ⟨_, rfl⟩
  have hb2 : Below W.heap.size W W2 := by rw [← hW2]; exact ((Below.refl _ W).alloc (Nat.le_refl _) _).alloc (by simp) _
  have hO2 : Owns W2 W.heap.size 3 .i64 (.slice (some ⟨W.heap.size, 0, none⟩) 1 1) (ints [1]) := by
    refine ⟨rfl, .inr ⟨W.heap.size, 1, #[.int .i64 1], rfl, Nat.le_refl _, ?_, Nat.le_refl _, by unfold maxLen; omega, rfl, rfl⟩⟩
    rw [← hW2, Below.heap_alloc _ _ _ (by simp)]; exact heap_alloc_new W _
  have hP2 : W2.heap[W.heap.size + 1]? = some (.cells #[.int .i64 2, .int .i64 3, .int .i64 5, .int .i64 17, .int .i64 257, .int .i64 65537] 3 (0, 0)) := by
    rw [← hW2]
    have := heap_alloc_new (W.alloc (.cells #[.int .i64 1] 3)) (.cells #[.int .i64 2, .int .i64 3, .int .i64 5, .int .i64 17, .int .i64 257, .int .i64 65537] 3)
    rwa [World.size_alloc] at this
  have hs2 : W2.heap.size = W.heap.size + 2 := by rw [← hW2]; simp
  have HJ2 := Lib.hid (fun C (hC : Below W.heap.size W2 C) => hJ C (hb2.trans hC))
  have hM : ∀ w', Below W.heap.size W w' → w'.cell? ⟨B1, 0, none⟩ = some (.int .i64 mm) := fun w' hb => (hb.cell (p := ⟨B1, 0, none⟩) (by show B1 < W.heap.size; omega)).trans hB1
  have HM := Lib.hid hM
  generalize hBB : W.heap.size = B at *
  have PR := Lib.hid (primes_c (W.alloc (.cells #[.int .i64 1] 3)))
  refine callsIn_of_wp Try.func12 rfl trivial ?_ rfl
  simp only [Try.ntmps12, List.size_toArray, List.length_cons, List.length_nil, Nat.reduceAdd, Nat.reduceSub, Array.replicate_succ, Array.replicate_zero, List.push_toArray, List.append_toArray, List.nil_append, List.cons_append]
  refine wpIn_wide.2 ?_
  go_wp2_with fail
  refine (PR.out).mono ?_
  rintro e w1 ⟨rfl, rfl⟩
  rw [World.size_alloc, hBB, hW2]
  have HS2 := Lib.hid (show OddR B B 1 (oddT m 0) W2 from ⟨hO2, hP2, by omega⟩)
  go_wp2_with fail
  have HW2 := Lib.hid hb2
  clear hW2 hb2 hO2 hP2 hB1 hM
  go_loopw [3, 14] (fun v x wr => ∃ (j g2 c : Nat), j ≤ 5 ∧ x = .int .i64 j ∧ v = .slice (some ⟨g2, 0, none⟩) (oddT m j).length c ∧ Hid (Below B W2 wr) ∧ Hid (OddR B g2 c (oddT m j) wr)) (fun _ x _ => 5 - (intOf x).toNat)
  case atStart => exact ⟨0, B, 1, by omega, rfl, rfl, Lib.hid (Below.refl _ _), HS2⟩
  case round =>
    clear HS2
    obtain ⟨j, g2, c, hj, rfl, rfl, HB, HS⟩ := hrel
    have hBz := HB.out.size
    have hcap := HS.out.cap
    have hlt2 := HS.out.lt
    obtain ⟨L, hL⟩ : ∃ L, oddT m j = L := ⟨_, rfl⟩
    obtain ⟨N, hN⟩ : ∃ N, (oddT m j).length = N := ⟨_, rfl⟩
    have hN2 := hN
    rw [hL] at hN2 HS
    rw [hN] at hcap ⊢
    by_cases hj5 : j < 5
    · have dj : decide ((j : Int) < 5) = true := decide_eq_true (by omega)
      obtain ⟨p0, p1, p2⟩ := odds_at wr (B + 1) HS.out.p j hj5
      obtain ⟨p, hp⟩ : ∃ p, ODDS.getD j 0 = p := ⟨_, rfl⟩
      rw [hp] at p0 p1 p2
      have j0 : (0 : Int) ≤ (j : Int) := by omega
      have j1 : (j : Int) < 5 := by omega
      go_wp2_with fail
      have HS0 := Lib.hid (show OddR B g2 c (stepT m p L 0) wr by rw [stepT_zero]; exact HS.out)
      have HC := Lib.hid (fun k (hk : k < L.length) => HS.out.cell k hk)
      have HBJ := Lib.hid (oddT_b m j hj)
      have hNb : N ≤ 32 := by have h1 := oddT_len m j; have h2 := Nat.pow_le_pow_right (n := 2) (by decide) hj; omega
      rw [hL] at HBJ
      clear HS
      go_loopw [3, 20] (fun v x wr2 => ∃ (i n g3 c3 : Nat), i ≤ N ∧ x = .int .i64 i ∧ (stepT m p L i).length = n ∧ v = .slice (some ⟨g3, 0, none⟩) n c3 ∧ Hid (Below B wr wr2) ∧ Hid (OddR B g3 c3 (stepT m p L i) wr2) ∧ Hid (∀ k, k < L.length → wr2.cell? ⟨g2, k, none⟩ = some (.int .i64 ((L.getD k 0 : Nat) : Int)))) (fun _ x _ => N - (intOf x).toNat)
      case atStart => exact ⟨0, N, g2, c, Nat.zero_le _, rfl, by rw [stepT_zero, hN2], rfl, Lib.hid (Below.refl _ _), HS0, HC⟩
      case round =>
        clear HC HS0
        obtain ⟨i, n, g3, c3, hi, rfl, hn, rfl, HB4, HS4, HC4⟩ := hrel
        have hcap3 := HS4.out.cap
        have hlt3 := HS4.out.lt
        by_cases hlt : i < N
        · have di : decide ((i : Int) < (N : Int)) = true := decide_eq_true (by omega)
          have ci := HC4.out i (by omega)
          have hsu := stepT_succ m p L i (by omega)
          obtain ⟨y, hy⟩ : ∃ y, L.getD i 0 = y := ⟨_, rfl⟩
          have hyb := HBJ.out y (by rw [← hy]; simp only [List.getD, List.getElem?_eq_getElem (show i < L.length by omega), Option.getD_some]; exact List.getElem_mem _)
          rw [hy] at ci hsu
          obtain ⟨z, hz⟩ : ∃ z, y * p = z := ⟨_, rfl⟩
          have hzb : z ≤ 4294967295 * 65537 := by rw [← hz]; exact Nat.mul_le_mul hyb.2 p2
          have hz1 : 1 ≤ z := by rw [← hz]; exact Nat.mul_pos (by omega) (by omega)
          have wz : IntKind.i64.wrap ((y : Int) * (p : Int)) = (z : Int) := by rw [← Int.natCast_mul, hz]; exact IntWalk.i64_in _ (by omega)
          have i0 : (0 : Int) ≤ (i : Int) := by omega
          have i1 : (i : Int) < (N : Int) := by omega
          have cM := HM.out wr (HW2.out.trans (HB.out.trans HB4.out))
          have HSU := Lib.hid hsu
          have HN3 := Lib.hid (show (ints (stepT m p L i)).length = n by rw [ints_len]; exact hn)
          have hnN : N ≤ n := by have h : (stepT m p L i).length = n := hn; unfold stepT at h; rw [List.length_append] at h; omega
          have hn64 : n ≤ 64 := by have h := stepT_len m p L i; omega
          have hBw : B ≤ wr.heap.size := by omega
          have hgw : g2 < wr.heap.size := block_lt_of_cell (a := ⟨g2, i, none⟩) ci
          have hpw : B + 1 < wr.heap.size := (Array.getElem?_eq_some_iff.1 HS4.out.p).1
          clear hsu
          by_cases hle : (z : Int) ≤ mm
          · have dz : decide ((z : Int) ≤ mm) = true := decide_eq_true hle
            have hle2 : y * p ≤ m := by omega
            have HOW := Lib.hid (show Owns wr B 3 .i64 (.slice (some ⟨g3, 0, none⟩) n c3) (ints (stepT m p L i)) by have h := HS4.out.o; rw [hn] at h; exact h)
            go_wp2_with (at_builtin; refine append_firm' (y := (z : Int)) HN3.out rfl _ _ rfl rfl HOW.out rfl hBw (by omega) ?_; intro g4 c4 w5 hO hBb hfm hot hg4; have HO := Lib.hid hO; have HBb := Lib.hid hBb; have HFM := Lib.hid hfm; have HOT := Lib.hid hot; have HG4 := Lib.hid hg4; clear hO hBb hfm hot hg4)
            go_roundw
            case rel =>
              refine ⟨i + 1, n + 1, g4, c4, by omega, by go_num, ?_, rfl, Lib.hid (HB4.out.trans HBb.out), Lib.hid ⟨?_, ?_, ?_⟩, Lib.hid (fun k hk => ?_)⟩
              · rw [HSU.out, if_pos hle2, List.length_append, hn]; rfl
              · have h := HO.out
                rw [HSU.out, if_pos hle2, hz, List.length_append, hn]
                have e : ints (stepT m p L i ++ [z]) = ints (stepT m p L i) ++ [(z : Int)] := by simp [ints]
                rw [e]; exact h
              · exact (HOT.out (B + 1) hpw (fun e => HS4.out.n e.symm)).trans HS4.out.p
              · rcases HG4.out with h | h
                · rw [h]; exact HS4.out.n
                · omega
              · by_cases hg : g2 = g3
                · have h := HFM.out k (by omega)
                  rw [hg, h]
                  have hk2 : k < (stepT m p L i).length := by rw [hn]; omega
                  rw [ints_at _ _ hk2]
                  unfold stepT
                  simp [List.getD, List.getElem?_append_left hk]
                · rw [World.cell?_of_block (a := ⟨g2, k, none⟩) (HOT.out g2 hgw hg)]
                  exact HC4.out k hk
            case measure => (first | (simp [intOf]; done) | (simp [intOf]; omega) | (simp only [intOf]; omega))
          · have dz : decide ((z : Int) ≤ mm) = false := decide_eq_false hle
            have hle2 : ¬ y * p ≤ m := by omega
            go_wp2_with fail
            go_roundw
            case rel =>
              have e1 : stepT m p L (i + 1) = stepT m p L i := by rw [HSU.out, if_neg hle2, List.append_nil]
              exact ⟨i + 1, n, g3, c3, by omega, by go_num, by rw [e1]; exact hn, rfl, HB4, by rw [e1]; exact HS4, HC4⟩
            case measure => (first | (simp [intOf]; done) | (simp [intOf]; omega) | (simp only [intOf]; omega))
        · obtain rfl : i = N := by omega
          have di : decide ((i : Int) < (i : Int)) = false := decide_eq_false (by omega)
          have HN := Lib.hid (show OddR B g3 c3 (oddT m (j + 1)) wr by have h := HS4.out; rw [← hN2, stepT_all] at h; rw [oddT, hp, hL]; exact h)
          have hlen1 : (oddT m (j + 1)).length = n := by rw [oddT, hp, hL, ← stepT_all, hN2]; exact hn
          go_wp2_with fail
          go_roundw
          case rel => exact ⟨j + 1, g3, c3, by omega, by go_num, by rw [hlen1], Lib.hid (HB.out.trans HB4.out), HN⟩
          case measure => (first | (simp [intOf]; done) | (simp [intOf]; omega) | (simp only [intOf]; omega))
    · obtain rfl : j = 5 := by omega
      rw [show ((5 : Nat) : Int) = (5 : Int) from rfl]
      have dj : decide ((5 : Int) < 5) = false := rfl
      go_wp2_with fail
      refine (wpIn_wide (n := g)).1 ?_
      have hcM := HM.out wr (HW2.out.trans HB.out)
      have HBB := Lib.hid (oddT_b m 5 (Nat.le_refl _))
      rw [hL] at HBB
      obtain ⟨T, hT⟩ : ∃ T, wr.heap.size = T := ⟨_, rfl⟩
      have HJ0 := Lib.hid (show J T [] wr by have h := HJ2.out wr HB.out; rw [hT] at h; exact h)
      have hgT : g2 < T := by omega
      have hpT : B + 1 < T := by omega
      have hBT : B ≤ T := by omega
      have hT0 : T ≤ wr.heap.size := by omega
      have HS0 := HS
      have HC0 := Lib.hid hcM
      have hall : (L.drop 0).flatMap (fun n => dblL m 25 n) = sizL m := by rw [List.drop_zero, ← hL, oddT_all]; rfl
      have HA0 := Lib.hid (show ([] : List Nat) ++ (L.drop 0).flatMap (fun n => dblL m 25 n) = sizL m by rw [List.nil_append]; exact hall)
      rw [hmm] at hY
      have HY := Lib.hid hY
      clear HS hcM hall HB HJ2 HM PR HW2 hY
      gi_loopw [39] (fun x wr => ∃ (i : Nat) (pre : List Nat), i ≤ N ∧ x = .int .i64 i ∧ T ≤ wr.heap.size ∧ Hid (OddR B g2 c L wr) ∧ Hid (wr.cell? ⟨B1, 0, none⟩ = some (.int .i64 mm)) ∧ Hid (J T pre wr) ∧ Hid (pre ++ (L.drop i).flatMap (fun n => dblL m 25 n) = sizL m)) (fun x _ => N - (intOf x).toNat)
      case atStart => exact ⟨0, [], Nat.zero_le _, rfl, hT0, HS0, HC0, HJ0, HA0⟩
      case round =>
        clear HS0 HC0 HJ0 HA0 hT0 hT
        obtain ⟨i, pre, hi, rfl, hBw, HS, HC, HJ1, HA⟩ := hrel
        by_cases hlt : i < N
        · have di : decide ((i : Int) < (N : Int)) = true := decide_eq_true (by omega)
          have ci := HS.out.cell i (by omega)
          obtain ⟨y0, hy0⟩ : ∃ y0, L.getD i 0 = y0 := ⟨_, rfl⟩
          have hy0m : y0 ∈ L := by rw [← hy0]; simp only [List.getD, List.getElem?_eq_getElem (show i < L.length by omega), Option.getD_some]; exact List.getElem_mem _
          have hyb := HBB.out y0 hy0m
          rw [hy0] at ci
          have i0 : (0 : Int) ≤ (i : Int) := by omega
          have i1 : (i : Int) < (N : Int) := by omega
          have hdr : L.drop i = y0 :: L.drop (i + 1) := by rw [← hy0]; simp only [List.getD, List.getElem?_eq_getElem (show i < L.length by omega), Option.getD_some]; exact List.drop_eq_getElem_cons (by omega)
          have HA1 := Lib.hid (show pre ++ (dblL m 25 y0 ++ (L.drop (i + 1)).flatMap (fun n => dblL m 25 n)) = sizL m by have h := HA.out; rw [hdr, List.flatMap_cons] at h; exact h)
          clear hdr HA
          gi_wp2
          clear ci
          gi_loopw [9] (fun x wr => ∃ (y f : Nat) (pre2 : List Nat), x = .int .i64 y ∧ 1 ≤ y ∧ y ≤ 4294967295 ∧ m < y * 2 ^ f ∧ T ≤ wr.heap.size ∧ Hid (OddR B g2 c L wr) ∧ Hid (wr.cell? ⟨B1, 0, none⟩ = some (.int .i64 mm)) ∧ Hid (J T pre2 wr) ∧ Hid (pre2 ++ (dblL m f y ++ (L.drop (i + 1)).flatMap (fun n => dblL m 25 n)) = sizL m)) (fun x _ => (mm + 1 - intOf x).toNat)
          case atStart => exact ⟨y0, 25, pre, rfl, hyb.1, hyb.2, by rw [show (2 : Nat) ^ 25 = 33554432 from rfl]; omega, hBw, HS, HC, HJ1, HA1⟩
          case round =>
            clear HS HC HJ1 HA1
            obtain ⟨y, f, pre2, rfl, hy1, hy2, hyf, hBw2, HS, HC, HJ1, HA1⟩ := hrel
            have cM := HC.out
            by_cases hle : (y : Int) ≤ mm
            · have dy : decide ((y : Int) ≤ mm) = true := decide_eq_true hle
              have hle2 : y ≤ m := by omega
              obtain ⟨f', rfl⟩ : ∃ f', f = f' + 1 := by
                cases f with
                | zero => rw [Nat.pow_zero] at hyf; omega
                | succ f' => exact ⟨f', rfl⟩
              have hd : dblL m (f' + 1) y = y :: dblL m f' (y * 2) := by rw [dblL, if_pos hle2]
              have hA := HA1.out
              rw [hd] at hA
              have hYx := HY.out T pre2 y wr HJ1.out hBT hBw2 ⟨_, hA⟩
              have wy : IntKind.i64.wrap ((y : Int) * 2) = ((y * 2 : Nat) : Int) := by rw [Int.natCast_mul]; exact IntWalk.i64_in _ (by omega)
              obtain ⟨fn, tmps, assign, body, hy', hR⟩ := hYx
              dsimp only [encI] at hy' hR
              have HA2 := Lib.hid hA
              clear hA hd
              gi_wp2
              refine hR.mono ?_
              rintro e W3 (⟨rfl, hJ3, hk3⟩ | ⟨rfl, hJx3⟩)
              · have HS3 := Lib.hid (show OddR B g2 c L W3 from by
                  obtain ⟨a1, a2, a3⟩ := HS.out
                  have hg := HS.out.lt
                  obtain ⟨q0, q1⟩ := a1
                  refine ⟨⟨q0, q1.imp id (fun ⟨g, cap, cur, e, hB, hg, h3⟩ => ⟨g, cap, cur, e, hB, hk3.2 g _ hB (by
                    simp only [Value.slice.injEq, Option.some.injEq, Addr.mk.injEq, and_true] at e
                    have := e.1
                    omega) hg, h3⟩)⟩, hk3.2 _ _ (by omega) hpT a2, a3⟩)
                have HC3 := Lib.hid (show W3.cell? ⟨B1, 0, none⟩ = some (.int .i64 mm) from by
                  obtain ⟨o, ho⟩ : ∃ o, wr.heap[B1]? = some o := ⟨_, Array.getElem?_eq_getElem (block_lt_of_cell (a := ⟨B1, 0, none⟩) cM)⟩
                  exact (World.cell?_of_block (a := ⟨B1, 0, none⟩) ((hk3.1 o ho).trans ho.symm)).trans cM)
                have HJ3 := Lib.hid hJ3
                have hBz3 : T ≤ W3.heap.size := by
                  have h2 := Kt.size hk3 (show T - 1 < wr.heap.size by omega) (by omega) (by omega)
                  omega
                have HA3 := Lib.hid (show (pre2 ++ [y]) ++ (dblL m f' (y * 2) ++ (L.drop (i + 1)).flatMap (fun n => dblL m 25 n)) = sizL m by rw [← HA2.out]; simp)
                clear hJ3 hk3 hR HS HC HJ1 HA1 cM hy'
                gi_wp2
                go_roundw
                case rel => exact ⟨y * 2, f', _, by go_num, by omega, by omega, by rw [Nat.pow_succ] at hyf; rw [Nat.mul_assoc, Nat.mul_comm 2]; exact hyf, hBz3, HS3, HC3, HJ3, HA3⟩
                case measure => simp only [intOf]; omega
              · gi_wp2
                refine bodyPost_ret (results_none rfl _ _ _) rfl ?_
                exact ⟨⟨_, rfl⟩, .inr ⟨_, ⟨dblL m f' (y * 2) ++ (L.drop (i + 1)).flatMap (fun n => dblL m 25 n), by rw [hmm, ← HA2.out]; simp⟩, hJx3⟩⟩
            · have dy : decide ((y : Int) ≤ mm) = false := decide_eq_false hle
              have hd : dblL m f y = [] := by
                cases f with
                | zero => rfl
                | succ f' => rw [dblL, if_neg (by omega)]
              have HA2 := Lib.hid (show pre2 ++ (L.drop (i + 1)).flatMap (fun n => dblL m 25 n) = sizL m by have h := HA1.out; rw [hd, List.nil_append] at h; exact h)
              clear hd
              gi_wp2
              go_roundw
              case rel => exact ⟨i + 1, pre2, by omega, by go_num, hBw2, HS, HC, HJ1, HA2⟩
              case measure => (first | (simp [intOf]; done) | (simp [intOf]; omega) | (simp only [intOf]; omega))
        · obtain rfl : i = N := by omega
          have di : decide ((i : Int) < (i : Int)) = false := decide_eq_false (by omega)
          have hfin : pre = sizL m := by have h := HA.out; rw [← hN2, List.drop_length, List.flatMap_nil, List.append_nil] at h; exact h
          gi_wp2
          go_end0
          exact ⟨⟨_, rfl⟩, .inl ⟨T, pre, by rw [hmm]; exact hfin, HJ1.out⟩⟩
theorem sizes_to (g : Nat) (hg : 1 ≤ g) (B1 : Nat) (mm : Int) (w : World) (hm : mm ≤ 16777216) (hm2 : -9223372036854775808 ≤ mm) (hB1 : w.cell? ⟨B1, 0, none⟩ = some (.int .i64 mm)) :
    SeqTo Fence.wide g Try.prog 12 #[.pointer (some ⟨B1, 0, none⟩)] encI B1 (fun xs => xs = sizL mm.toNat) (fun pre => ∃ r, pre ++ r = sizL mm.toNat) (RelI (sizL mm.toNat)) w := fun l J Jx W hW hJ hY =>
  sizes_g g hg B1 l mm W hm hm2 ((hW.cell (p := ⟨B1, 0, none⟩) (block_lt_of_cell (a := ⟨B1, 0, none⟩) hB1)).trans hB1) (Nat.lt_of_lt_of_le (block_lt_of_cell (a := ⟨B1, 0, none⟩) hB1) hW.size) J Jx hJ hY
end Go.Proofs.Ytcbiennifmfkgaa
