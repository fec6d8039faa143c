/- Reference 15's Same: are two rows of names one? -/
import Derived.Test.YticljddfdeocbaaTabl
import Derived.Test.YticljddfdeocbaaNamc
namespace Go.Proofs.Yticljddfdeocbaa
open Go.ChangeShapes Go.WideShapes Go.ChangeAt Go.RowKit
set_option linter.unusedVariables false
theorem neq_names (x y : Nam) (u : World) : (binOp .neq 54 (.agg #[.int .i64 y.k, .int .i64 y.n, .int .i64 y.m, .int .i64 y.d]) (.agg #[.int .i64 x.k, .int .i64 x.n, .int .i64 x.m, .int .i64 x.d])).run Try.prog u = .ok (.bool (decide (y ≠ x))) u := by
  have EQ := Nam.eq_iff y x
  go_simp
  by_cases a : y.k = x.k <;> by_cases b : y.n = x.n <;> by_cases c : y.m = x.m <;> by_cases d : y.d = x.d <;> simp [a, b, c, d]
set_option maxRecDepth 100000 in
set_option maxHeartbeats 2000000 in
theorem r15_same (la lb : List Nam) (p q : Option Addr) (c d : Nat) (limp limq : Nat) (W : World) (hp : NRow W limp p la) (hq : NRow W limq q lb) (hlp : limp ≤ W.heap.size) (hlq : limq ≤ W.heap.size) (h1 : la.length ≤ 1048576) :
    Calls Try.prog 51 #[.slice p la.length c, .slice q lb.length d] W fun e w' => e = .returned (.bool (decide (la = lb))) ∧ Below W.heap.size W w' := by
  have hp := hp.carry (Below.refl _ _)
  by_cases hne : la.length = lb.length
  case neg =>
    have E := Lib.hid (show decide (la = lb) = false from decide_eq_false (fun h => hne (by rw [h])))
    have hz : ((la.length : Int) != (lb.length : Int)) = true := by simp; omega
    generalize decide (la = lb) = z at *
    generalize la.length = m at *
    generalize lb.length = m' at *
    go_enter Try.func51, Try.ntmps51
    go_wp2_with fail
    go_ret
    exact ⟨ret_bool E.out.symm, Below.refl _ _⟩
  obtain ⟨m, hm⟩ : ∃ m, la.length = m := ⟨_, rfl⟩
  have hm2 : lb.length = m := by omega
  have HM := Lib.hid hm
  have HM2 := Lib.hid hm2
  have HP := Lib.hid hp
  have HQ := Lib.hid hq
  have hz : ((m : Int) != (m : Int)) = false := by simp
  rw [hm] at h1 ⊢
  rw [hm2]
  have EY := Lib.hid (fun (h : la.take m = lb.take m) => (show decide (la = lb) = true from decide_eq_true (by rwa [List.take_of_length_le (by omega), List.take_of_length_le (by omega)] at h)))
  have EN := Lib.hid (fun (i : Nat) (hi : i < la.length) (hi2 : i < lb.length) (h : la[i] ≠ lb[i]) => (show decide (la = lb) = false from decide_eq_false (fun e => h (by subst e; rfl))))
  have TS := Lib.hid (fun (i : Nat) (hi : i < la.length) (hi2 : i < lb.length) (h : la.take i = lb.take i) (e : la[i] = lb[i]) => (show la.take (i + 1) = lb.take (i + 1) by rw [List.take_succ_eq_append_getElem hi, List.take_succ_eq_append_getElem hi2, h, e]))
  generalize decide (la = lb) = z at *
  clear hm hm2 hp hq hne
  go_enter Try.func51, Try.ntmps51
  go_wp2_with fail
  go_loopw [5] (fun y wr => ∃ i : Nat, i ≤ m ∧ y = .int .i64 i ∧ Hid (la.take i = lb.take i) ∧ Hid (Below W.heap.size W wr)) (fun y _ => m - (intOf y).toNat)
  case atStart => exact ⟨0, Nat.zero_le _, rfl, Lib.hid (by simp), Lib.hid (Below.refl _ _)⟩
  case round =>
    obtain ⟨i, hi, rfl, HT, HB⟩ := hrel
    by_cases hlt : i < m
    · have hi1 : i < la.length := by rw [HM.out]; exact hlt
      have hi2 : i < lb.length := by rw [HM2.out]; exact hlt
      obtain ⟨b, o, rfl, hb, g0, g1, g2, g3⟩ := HP.out.get hi1
      obtain ⟨b', o', rfl, hb', k0, k1, k2, k3⟩ := HQ.out.get hi2
      have g0 := (HB.out.cell (p := ⟨b, _, none⟩) (by show b < _; omega)).trans g0
      have g1 := (HB.out.cell (p := ⟨b, _, none⟩) (by show b < _; omega)).trans g1
      have g2 := (HB.out.cell (p := ⟨b, _, none⟩) (by show b < _; omega)).trans g2
      have g3 := (HB.out.cell (p := ⟨b, _, none⟩) (by show b < _; omega)).trans g3
      have k0 := (HB.out.cell (p := ⟨b', _, none⟩) (by show b' < _; omega)).trans k0
      have k1 := (HB.out.cell (p := ⟨b', _, none⟩) (by show b' < _; omega)).trans k1
      have k2 := (HB.out.cell (p := ⟨b', _, none⟩) (by show b' < _; omega)).trans k2
      have k3 := (HB.out.cell (p := ⟨b', _, none⟩) (by show b' < _; omega)).trans k3
      have dd : decide ((i : Int) < (m : Int)) = true := decide_eq_true (by omega)
      have qe := neq_names lb[i] la[i]
      have EN1 := Lib.hid (EN.out i hi1 hi2)
      have TS1 := Lib.hid (TS.out i hi1 hi2 HT.out)
      generalize la[i] = X at *
      generalize lb[i] = Y at *
      by_cases hxy : X = Y
      · rw [decide_eq_false (not_not_intro hxy)] at qe
        have HT1 := Lib.hid (TS1.out hxy)
        clear hxy TS1 EN1
        obtain ⟨x1, x2, x3, x4⟩ := X
        obtain ⟨y1, y2, y3, y4⟩ := Y
        dsimp only at *
        go_wp2_with fail
        go_quiet (fail)
        go_wp2_with fail
        go_roundw
        case rel => exact ⟨i + 1, by omega, by go_num, HT1, Lib.hid (below_drewN HB.out _)⟩
        case measure => (first | (simp [intOf]; done) | (simp [intOf]; omega) | (simp only [intOf]; omega))
      · rw [decide_eq_true hxy] at qe
        have HE := Lib.hid (EN1.out hxy)
        clear hxy TS1 EN1
        obtain ⟨x1, x2, x3, x4⟩ := X
        obtain ⟨y1, y2, y3, y4⟩ := Y
        dsimp only at *
        go_wp2_with fail
        go_quiet (fail)
        go_wp2_with fail
        go_ret
        exact ⟨ret_bool HE.out.symm, below_drewN HB.out _⟩
    · obtain rfl : i = m := by omega
      have dd : decide ((i : Int) < (i : Int)) = false := decide_eq_false (by omega)
      have HE := Lib.hid (EY.out HT.out)
      go_wp2_with fail
      go_ret
      exact ⟨ret_bool HE.out.symm, HB.out⟩
end Go.Proofs.Yticljddfdeocbaa
