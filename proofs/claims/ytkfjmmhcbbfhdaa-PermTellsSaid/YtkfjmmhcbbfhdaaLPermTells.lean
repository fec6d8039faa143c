/- PermTells: for every order, other order and row of numbers: the inverse, one after the other and the row moved, or why there are none. -/
import Derived.Test.YtkfjmmhcbbfhdaaPerm8
import Derived.Test.YtkfjmmhcbbfhdaaPerm4
namespace Go.Proofs.Ytkfjmmhcbbfhdaa
open Go.ChangeShapes Go.WideShapes Go.ChangeAt Go.RowKit
set_option linter.unusedVariables false
namespace permTells
theorem far (W : World) (a0 a1 a2 : Option Addr) (n m r c0 c1 c2 : Nat) (h : 60 < n ∨ 60 < m ∨ 60 < r) :
    Calls Try.prog 9 #[.slice a0 n c0, .slice a1 m c1, .slice a2 r c2] W fun e W' => e = .returned (.bool true) ∧ Below W.heap.size W W' := by
  by_cases h1 : 60 < n
  · clear h
    have g0 : decide (60 < (n : Int)) = true := decide_eq_true (by omega)
    go_enter Try.func9, Try.ntmps9
    go_wp2_with fail
    refine (live8 _).mono ?_
    rintro e w1 ⟨rfl, b1⟩
    go_wp2_with fail
    go_ret
    exact ⟨rfl, b1⟩
  by_cases h2 : 60 < m
  · clear h
    have g0 : decide (60 < (n : Int)) = false := decide_eq_false (by omega)
    have g1 : decide (60 < (m : Int)) = true := decide_eq_true (by omega)
    go_enter Try.func9, Try.ntmps9
    go_wp2_with fail
    refine (live8 _).mono ?_
    rintro e w1 ⟨rfl, b1⟩
    go_wp2_with fail
    go_ret
    exact ⟨rfl, b1⟩
  have h3 : 60 < r := by omega
  · clear h
    have g0 : decide (60 < (n : Int)) = false := decide_eq_false (by omega)
    have g1 : decide (60 < (m : Int)) = false := decide_eq_false (by omega)
    have g2 : decide (60 < (r : Int)) = true := decide_eq_true (by omega)
    go_enter Try.func9, Try.ntmps9
    go_wp2_with fail
    refine (live8 _).mono ?_
    rintro e w1 ⟨rfl, b1⟩
    go_wp2_with fail
    go_ret
    exact ⟨rfl, b1⟩
set_option maxRecDepth 100000 in
theorem refuses (W : World) (a0 a1 a2 : Option Addr) (n m r c0 c1 c2 : Nat) (ps : List Int) (hp : RowI W a0 n ps) (hn : n ≤ 60) (hm : m ≤ 60) (hr : r ≤ 60) (hg : rgt ps n n = false) :
    Calls Try.prog 9 #[.slice a0 n c0, .slice a1 m c1, .slice a2 r c2] W fun e W' => e = .returned (.bool true) ∧ Below W.heap.size W W' := by
  have g0 : decide (60 < (n : Int)) = false := decide_eq_false (by omega)
  have g1 : decide (60 < (m : Int)) = false := decide_eq_false (by omega)
  have g2 : decide (60 < (r : Int)) = false := decide_eq_false (by omega)
  have IV := Lib.hid (fun w h => perm_inverseno a0 n c0 ps w h hg)
  have AF := Lib.hid (fun w h => perm_afterno a0 a1 n m c0 c1 ps w h hg)
  have AP := Lib.hid (fun w h => perm_applyno a0 a2 n r c0 c2 ps w h hg)
  have RT := fun w h => perm_right a0 n c0 ps w h
  have R8 := fun w h => r8_right a0 n c0 ps w h
  rw [hg] at RT R8
  have RT := Lib.hid RT
  have R8 := Lib.hid R8
  have R1 := Lib.hid hp
  have hB : Below W.heap.size W W := Below.refl _ _
  clear hp hg
  go_enter Try.func9, Try.ntmps9
  go_wp2_with fail
  refine (IV.out _ R1.out).mono ?_
  rintro e w1 ⟨rfl, b1⟩
  have R1 := Lib.hid (R1.out.below b1); have hB := hB.trans (b1.mono hB.size); clear b1
  go_wp2_with fail
  refine (AF.out _ R1.out).mono ?_
  rintro e w1 ⟨rfl, b1⟩
  have R1 := Lib.hid (R1.out.below b1); have hB := hB.trans (b1.mono hB.size); clear b1
  go_wp2_with fail
  refine (AP.out _ R1.out).mono ?_
  rintro e w1 ⟨rfl, b1⟩
  have R1 := Lib.hid (R1.out.below b1); have hB := hB.trans (b1.mono hB.size); clear b1
  go_wp2_with fail
  refine (RT.out _ R1.out).mono ?_
  rintro e w1 ⟨rfl, b1⟩
  have R1 := Lib.hid (R1.out.below b1); have hB := hB.trans (b1.mono hB.size); clear b1
  go_wp2_with fail
  refine (R8.out _ R1.out).mono ?_
  rintro e w1 ⟨rfl, rfl⟩
  go_wp2_with fail
  refine (R8.out _ R1.out).mono ?_
  rintro e w1 ⟨rfl, rfl⟩
  go_wp2_with fail
  refine (live8 _).mono ?_
  rintro e w1 ⟨rfl, b1⟩
  have hB := hB.trans (b1.mono hB.size); clear b1
  go_wp2_with fail
  go_ret
  exact ⟨rfl, hB⟩
set_option maxRecDepth 100000 in
theorem main (W : World) (a0 a1 a2 : Option Addr) (n m r c0 c1 c2 : Nat) (ps qs xs : List Int) (hp : RowI W a0 n ps) (hq : RowI W a1 m qs) (hx : Row W a2 r xs) (hn : n ≤ 60) (hm : m ≤ 60) (hr : r ≤ 60) (hg : rgt ps n n = true) :
    Calls Try.prog 9 #[.slice a0 n c0, .slice a1 m c1, .slice a2 r c2] W fun e W' => e = .returned (.bool true) ∧ Below W.heap.size W W' := by
  have g0 : decide (60 < (n : Int)) = false := decide_eq_false (by omega)
  have g1 : decide (60 < (m : Int)) = false := decide_eq_false (by omega)
  have g2 : decide (60 < (r : Int)) = false := decide_eq_false (by omega)
  have IV := Lib.hid (fun w h => perm_inverse a0 n c0 ps w h hg)
  have AF := Lib.hid (fun w h k => perm_after a0 a1 n m c0 c1 ps qs w h k hg)
  have AP := Lib.hid (fun w h k => perm_apply a0 a2 n r c0 c2 ps xs w h k hg)
  have RT := fun w h => perm_right a0 n c0 ps w h
  have R8 := fun w h => r8_right a0 n c0 ps w h
  rw [hg] at RT R8
  have RT := Lib.hid RT
  have R8 := Lib.hid R8
  have RB := fun p c w h => r8_right p n c (inverl ps n) w h
  rw [inverl_right hg] at RB
  have RB := Lib.hid RB
  have FO := Lib.hid (fun a l f z w h1 h2 h3 => c_follows a0 a1 a n m l c0 c1 f z ps qs w h1 h2 h3)
  have AL := Lib.hid (fun a l f z w h1 h2 h3 => c_applies a0 a2 a n r l c0 c2 f z ps xs w h1 h2 hg h3)
  have HIN := Lib.hid (rgt_in hg)
  have IB := Lib.hid (fun k (hk : k < n) => inv_back hg hk)
  have IA := Lib.hid (fun v (hv : v < n) => inverl_at ps n v hv)
  have R1 := Lib.hid hp
  have R2 := Lib.hid hq
  have R3 := Lib.hid hx
  have hB : Below W.heap.size W W := Below.refl _ _
  clear hp hq hx hg
  generalize inverl ps n = bs at *
  go_enter Try.func9, Try.ntmps9
  go_wp2_with fail
  refine (IV.out _ R1.out).mono ?_
  rintro e w1 ⟨p4, k4, rfl, h, b1⟩
  have R4 := Lib.hid h; clear h
  have R1 := Lib.hid (R1.out.below b1); have R2 := Lib.hid (R2.out.below b1); have R3 := Lib.hid (R3.out.below b1); have hB := hB.trans (b1.mono hB.size); clear b1
  go_wp2_with fail
  refine (AF.out _ R1.out R2.out).mono ?_
  rintro e w1 ⟨p5, l5, k5, z5, rfl, h, b1⟩
  have R5 := Lib.hid h; clear h
  have R1 := Lib.hid (R1.out.below b1); have R2 := Lib.hid (R2.out.below b1); have R3 := Lib.hid (R3.out.below b1); have R4 := Lib.hid (R4.out.below b1); have hB := hB.trans (b1.mono hB.size); clear b1
  go_wp2_with fail
  refine (AP.out _ R1.out R3.out).mono ?_
  rintro e w1 ⟨p6, l6, k6, z6, rfl, h, b1⟩
  have R6 := Lib.hid h; clear h
  have R1 := Lib.hid (R1.out.below b1); have R2 := Lib.hid (R2.out.below b1); have R3 := Lib.hid (R3.out.below b1); have R4 := Lib.hid (R4.out.below b1); have R5 := Lib.hid (R5.out.below b1); have hB := hB.trans (b1.mono hB.size); clear b1
  go_wp2_with fail
  refine (RT.out _ R1.out).mono ?_
  rintro e w1 ⟨rfl, b1⟩
  have R1 := Lib.hid (R1.out.below b1); have R2 := Lib.hid (R2.out.below b1); have R3 := Lib.hid (R3.out.below b1); have R4 := Lib.hid (R4.out.below b1); have R5 := Lib.hid (R5.out.below b1); have R6 := Lib.hid (R6.out.below b1); have hB := hB.trans (b1.mono hB.size); clear b1
  go_wp2_with fail
  refine (R8.out _ R1.out).mono ?_
  rintro e w1 ⟨rfl, rfl⟩
  go_wp2_with fail
  refine (R8.out _ R1.out).mono ?_
  rintro e w1 ⟨rfl, rfl⟩
  go_wp2_with fail
  refine (RB.out _ _ _ R4.out).mono ?_
  rintro e w1 ⟨rfl, rfl⟩
  go_wp2_with fail
  go_loopw [13] (fun i wr => ∃ k : Nat, k ≤ n ∧ i = .int .i64 k ∧ Hid (RowI wr a0 n ps) ∧ Hid (RowI wr a1 m qs) ∧ Hid (Row wr a2 r xs) ∧ Hid (RowI wr p4 n bs) ∧ Hid (AftOk wr p5 l5 z5 n m ps qs) ∧ Hid (AppOk wr p6 l6 z6 n r ps xs) ∧ Below W.heap.size W wr) (fun i _ => n - (intOf i).toNat)
  case atStart => exact ⟨0, Nat.zero_le _, rfl, R1, R2, R3, R4, R5, R6, hB⟩
  case round =>
    clear R1 R2 R3 R4 R5 R6 hB
    obtain ⟨k, hk, rfl, R1, R2, R3, R4, R5, R6, hB⟩ := hrel
    by_cases hlt : k < n
    · obtain ⟨b, off, hp0, hb, hc, x0, x1⟩ := R1.out.cell hlt
      obtain ⟨h0, h1⟩ := HIN.out k hlt
      have IB1 := IB.out k hlt
      have hpn := Lib.hid hp0
      obtain ⟨x, hx⟩ : ∃ x, ps.getD k 0 = x := ⟨_, rfl⟩
      rw [hx] at hc x0 x1 h0 h1 IB1
      obtain ⟨v, rfl⟩ : ∃ v : Nat, x = v := ⟨x.toNat, by omega⟩
      have hv : v < n := by omega
      obtain ⟨b2, off2, hq0, hb2, hd, y0, y1⟩ := R4.out.cell hv
      rw [IA.out v hv, IB1] at hd y0 y1
      have hkk : ((k : Int) != (k : Int)) = false := by simp
      have dd : decide ((k : Int) < (n : Int)) = true := decide_eq_true (by omega)
      have hv0 : (0 : Int) ≤ (v : Int) := by omega
      have hv1 : (v : Int) < (n : Int) := by omega
      clear hx IB1 hpn
      subst hp0 hq0
      go_wp2_with fail
      go_roundw
      case rel => exact ⟨k + 1, by omega, by go_num, R1, R2, R3, R4, R5, R6, hB⟩
      case measure => (first | (simp [intOf]; done) | (simp [intOf]; omega) | (simp only [intOf]; omega))
    · obtain rfl : k = n := by omega
      have dd : decide ((k : Int) < (k : Int)) = false := decide_eq_false (by omega)
      go_wp2_with fail
      refine (FO.out _ _ _ _ _ R1.out R2.out R5.out).mono ?_
      rintro e w1 ⟨rfl, b1⟩
      have R1 := Lib.hid (R1.out.below b1); have R3 := Lib.hid (R3.out.below b1); have R6 := Lib.hid (R6.out.below b1); have hB := hB.trans (b1.mono hB.size); clear b1
      go_wp2_with fail
      refine (AL.out _ _ _ _ _ R1.out R3.out R6.out).mono ?_
      rintro e w1 ⟨rfl, b1⟩
      have hB := hB.trans (b1.mono hB.size); clear b1
      go_wp2_with fail
      refine (live8 _).mono ?_
      rintro e w1 ⟨rfl, b1⟩
      have hB := hB.trans (b1.mono hB.size); clear b1
      go_wp2_with fail
      go_ret
      exact ⟨rfl, hB⟩
theorem walk (W : World) (a0 : Option Addr) (n0 c0 : Nat) (w0 : IsRow .i64 W a0 n0 c0) (a1 : Option Addr) (n1 c1 : Nat) (w1 : IsRow .i64 W a1 n1 c1) (a2 : Option Addr) (n2 c2 : Nat) (w2 : IsRow .u64 W a2 n2 c2) :
    Calls Try.prog 9 #[.slice a0 n0 c0, .slice a1 n1 c1, .slice a2 n2 c2] W fun e W' => e = .returned (.bool true) ∧ Below W.heap.size W W' := by
  by_cases h : 60 < n0 ∨ 60 < n1 ∨ 60 < n2
  · exact far W a0 a1 a2 n0 n1 n2 c0 c1 c2 h
  · obtain ⟨ps, hp⟩ := RowI.of_isRow w0 (by omega)
    obtain ⟨qs, hq⟩ := RowI.of_isRow w1 (by omega)
    obtain ⟨xs, hx⟩ := Row.of_isRow w2 (by omega)
    cases hg : rgt ps n0 n0 with
    | false => exact refuses W a0 a1 a2 n0 n1 n2 c0 c1 c2 ps hp (by omega) (by omega) (by omega) hg
    | true => exact main W a0 a1 a2 n0 n1 n2 c0 c1 c2 ps qs xs hp hq hx (by omega) (by omega) (by omega) hg
end permTells
end Go.Proofs.Ytkfjmmhcbbfhdaa
