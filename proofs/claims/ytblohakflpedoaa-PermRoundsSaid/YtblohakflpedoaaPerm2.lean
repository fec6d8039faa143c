/- Package perm: Stride, the inverse, tables of coprime sides; reference 8's Stride. -/
import Derived.Test.YtblohakflpedoaaPerm
import Derived.Test.YtblohakflpedoaaPermd
import Derived.Test.YtblohakflpedoaaFact
namespace Go.Proofs.Ytblohakflpedoaa
open Go.ChangeShapes Go.WideShapes Go.ChangeAt Go.RowKit
set_option linter.unusedVariables false
theorem mul_cast (a b : Nat) : ((a : Int)) * (b : Int) = ((a * b : Nat) : Int) := (Int.natCast_mul a b).symm
theorem strl_wf (a b : Nat) (h : a * b ≤ 16777216) : ∀ z ∈ strl a b, (Lit.int .i64 z).wf = true := by
  intro z hz
  unfold strl tab at hz
  obtain ⟨k, hk, rfl⟩ := List.mem_map.1 hz
  have := (strn_parts (show k < a * b by simpa using hk)).2.2.2
  exact WalkArith.wf_i64 ⟨by omega, by omega⟩
theorem flat_lt {a b i j : Nat} (hj : j < b) (hi : i < a) : j * a + i < a * b := by
  have := Nat.mul_le_mul_right a (show j + 1 ≤ b from hj)
  rw [Nat.succ_mul] at this
  rw [Nat.mul_comm a b]; omega
theorem flat_parts {a i j : Nat} (hi : i < a) : (j * a + i) % a = i ∧ (j * a + i) / a = j := by
  constructor
  · rw [Nat.add_comm, Nat.add_mul_mod_self_right, Nat.mod_eq_of_lt hi]
  · rw [Nat.add_comm, Nat.add_mul_div_right _ _ (by omega), Nat.div_eq_of_lt hi, Nat.zero_add]
theorem strl_flat {a b i j : Nat} (hj : j < b) (hi : i < a) : (strl a b).getD (j * a + i) 0 = ((i * b + j : Nat) : Int) := by
  rw [strl_at a b _ (flat_lt hj hi)]
  obtain ⟨h1, h2⟩ := flat_parts (j := j) hi
  unfold strn
  rw [h1, h2]
set_option maxRecDepth 100000 in
theorem perm_stride (a b : Nat) (W : World) (ha : 1 ≤ a) (hb : 1 ≤ b) (h : a * b ≤ 16777216) :
    Calls Try.prog 10 #[.int .i64 a, .int .i64 b] W (GivesIOk W (a * b) (strl a b)) := by
  have H := fun w => perm_within a b w
  rw [sides_of ha hb h] at H
  have H := Lib.hid H
  have hmk := make_i64 (a * b) (by omega)
  have SF := Lib.hid (fun i j hj hi => strl_flat (a := a) (b := b) (i := i) (j := j) hj hi)
  have FLT := Lib.hid (fun i j hj hi => flat_lt (a := a) (b := b) (i := i) (j := j) hj hi)
  have SW := Lib.hid (strl_wf a b h)
  have SL := Lib.hid (strl_len a b)
  have hw0 : IntKind.i64.wrap ((a : Int) * (b : Int)) = ((a * b : Nat) : Int) := by rw [mul_cast]; exact IntWalk.i64_in _ (by omega)
  have a2 : a ≤ a * b := Nat.le_mul_of_pos_right a (by omega)
  have b2 : b ≤ a * b := Nat.le_mul_of_pos_left b (by omega)
  have F0 := Lib.hid (FillingI.start W 3 (strl a b) (a * b))
  have hB0 := (Below.refl W.heap.size W).alloc (Nat.le_refl _) (.cells (Array.replicate (a * b) (.int .i64 0)) 3)
  have M1 := Lib.hid (fun j (hj : j < b) => (show j * a ≤ a * b by rw [Nat.mul_comm a b]; exact Nat.mul_le_mul_right a (by omega)))
  have M2 := Lib.hid (fun i (hi : i < a) => (show i * b ≤ a * b from Nat.mul_le_mul_right b (by omega)))
  have ME := Lib.hid (show b * a = a * b from Nat.mul_comm b a)
  have MS := Lib.hid (fun j => (show j * a + a = (j + 1) * a by rw [Nat.succ_mul]))
  generalize strl a b = ys at *
  generalize hN : a * b = N at *
  go_enter Try.func10, Try.ntmps10
  go_wp2_with fail
  refine (H.out _).mono ?_
  rintro e w1 ⟨rfl, rfl⟩
  go_wp2_with fail
  generalize W.alloc (.cells (Array.replicate N (.int .i64 0)) 3) = w1 at *
  go_loopw [18] (fun v wr => ∃ j : Nat, j ≤ b ∧ v = .int .i64 j ∧ Hid (FillingI wr W.heap.size 3 ys (j * a) N) ∧ Below W.heap.size W wr) (fun v _ => b - (intOf v).toNat)
  case atStart => exact ⟨0, Nat.zero_le _, rfl, Lib.hid (by rw [Nat.zero_mul]; exact F0.out), hB0⟩
  case round =>
    clear F0 hB0
    obtain ⟨j, hj, rfl, HF, hB⟩ := hrel
    by_cases hlt : j < b
    · have hd : decide ((j : Int) < (b : Int)) = true := decide_eq_true (by omega)
      have m1 := M1.out j hlt
      go_wp2_with fail
      go_loopw [22] (fun v wr => ∃ i : Nat, i ≤ a ∧ v = .int .i64 i ∧ Hid (FillingI wr W.heap.size 3 ys (j * a + i) N) ∧ Below W.heap.size W wr) (fun v _ => a - (intOf v).toNat)
      case atStart => exact ⟨0, Nat.zero_le _, rfl, Lib.hid (by rw [Nat.add_zero]; exact HF.out), hB⟩
      case round =>
        clear HF hB
        obtain ⟨i, hi, rfl, HF, hB⟩ := hrel
        have hsz := HF.out.lt
        by_cases hlt2 : i < a
        · have hd2 : decide ((i : Int) < (a : Int)) = true := decide_eq_true (by omega)
          have m2 := M2.out i hlt2
          have fl := FLT.out i j hlt hlt2
          have hst := Lib.hid (HF.out.step fl SL.out (SF.out i j hlt hlt2))
          obtain ⟨u, hu⟩ := HF.out.cell fl SL.out
          have hfr := HF.out.free (j * a + i)
          have hw1 : IntKind.i64.wrap ((j : Int) * (a : Int)) = ((j * a : Nat) : Int) := by rw [mul_cast]; exact IntWalk.i64_in _ (by omega)
          have hw2 : IntKind.i64.wrap (((j * a : Nat) : Int) + (i : Int)) = ((j * a + i : Nat) : Int) := by rw [IntWalk.i64_in _ (by omega)]; omega
          have hw3 : IntKind.i64.wrap ((i : Int) * (b : Int)) = ((i * b : Nat) : Int) := by rw [mul_cast]; exact IntWalk.i64_in _ (by omega)
          have hw4 : IntKind.i64.wrap (((i * b : Nat) : Int) + (j : Int)) = ((i * b + j : Nat) : Int) := by rw [IntWalk.i64_in _ (by omega)]; omega
          have hm0 : (0 : Int) ≤ ((j * a + i : Nat) : Int) := by omega
          have hm1 : ((j * a + i : Nat) : Int) < (N : Int) := by omega
          have HN := Lib.hid (show j * a + i + 1 = j * a + (i + 1) by omega)
          generalize hy : i * b + j = y at *
          generalize i * b = ib at *
          generalize hk : j * a + i = k at *
          generalize hja : j * a = ja at *
          go_wp2_with fail
          go_roundw
          case rel => exact ⟨i + 1, by omega, by go_num, Lib.hid (by rw [← HN.out]; exact hst.out), hB.setCell (Nat.le_refl _) _⟩
          case measure => (first | (simp [intOf]; done) | (simp [intOf]; omega) | (simp only [intOf]; omega))
        · obtain rfl : i = a := by omega
          have hd2 : decide ((i : Int) < (i : Int)) = false := decide_eq_false (by omega)
          have HF2 := Lib.hid (show FillingI wr W.heap.size 3 ys ((j + 1) * i) N by rw [← MS.out j]; exact HF.out)
          clear HF
          go_wp2_with fail
          go_roundw
          case rel => exact ⟨j + 1, by omega, by go_num, HF2, hB⟩
          case measure => (first | (simp [intOf]; done) | (simp [intOf]; omega) | (simp only [intOf]; omega))
    · obtain rfl : j = b := by omega
      have hd : decide ((j : Int) < (j : Int)) = false := decide_eq_false (by omega)
      have HF2 := HF.out
      rw [ME.out] at HF2
      have HF2 := Lib.hid HF2
      go_wp2_with fail
      go_ret2
      exact ⟨_, _, rfl, RowI.of_at (HF2.out.done SL.out) SW.out SL.out (by omega), hB⟩
theorem perm_strideno (a b : Int) (W : World) (h : sidesb a b = false) :
    Calls Try.prog 10 #[.int .i64 a, .int .i64 b] W fun e w' => e = .returned (.tuple #[.slice none 0 0, .int .i64 3]) ∧ W = w' := by
  have H := fun w => perm_within a b w
  rw [h] at H
  have H := Lib.hid H
  go_enter Try.func10, Try.ntmps10
  go_wp2_with fail
  refine (H.out _).mono ?_
  rintro e w1 ⟨rfl, rfl⟩
  go_wp2_with fail
  go_ret2
  exact ⟨rfl, rfl⟩
end Go.Proofs.Ytblohakflpedoaa
