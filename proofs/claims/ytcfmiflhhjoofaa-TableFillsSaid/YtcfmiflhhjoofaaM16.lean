/- Put together by program (merge.py): Table. -/
import Derived.Test.YtcfmiflhhjoofaaM11
import Derived.Test.YtcfmiflhhjoofaaM14
import Derived.Test.YtcfmiflhhjoofaaM15
/- Package table: Clear, Clean; the page's example of layer 16. -/
namespace Go.Proofs.Ytcfmiflhhjoofaa
open Go.ChangeShapes Go.WideShapes Go.ChangeAt Go.RowKit
set_option linter.unusedVariables false
def allz (xs : List Int) : Bool := xs.all (· == 0)
theorem allz_yes {xs : List Int} (h : ∀ k, k < xs.length → xs.getD k 0 = 0) : allz xs = true := by
  unfold allz
  rw [List.all_eq_true]
  intro x hx
  obtain ⟨k, hk, rfl⟩ := List.getElem_of_mem hx
  have := h k hk
  simp [List.getD, hk] at this
  simp [this]
theorem allz_no {xs : List Int} {k : Nat} (hk : k < xs.length) (h : xs.getD k 0 ≠ 0) : allz xs = false := by
  unfold allz
  rw [List.all_eq_false]
  refine ⟨xs[k], List.getElem_mem _, ?_⟩
  simp [List.getD, hk] at h
  simpa using h
theorem clean1 (x : Int) (W : World) : Calls Try.prog 32 #[.int .u64 x] W fun e w' => e = .returned (.bool (x != 0)) ∧ W = w' := by
  go_enter Try.func32, Try.ntmps32
  go_wp2_with fail
  go_ret
  exact ⟨rfl, rfl⟩
set_option maxRecDepth 100000 in
theorem index_func (p : Option Addr) (n c : Nat) (xs : List Int) (W : World) (hr : Row W p n xs) :
    Calls Try.prog 50 #[.slice p n c, .func (.func 32) #[] #[]] W fun e w' => ∃ r : Int, e = .returned (.int .i64 r) ∧ decide (0 ≤ r) = !allz xs ∧ W = w' := by
  have HX := Lib.hid hr
  have hs := hr.small
  have AY := Lib.hid (fun h => (allz_yes (xs := xs) h))
  have AN := Lib.hid (fun k hk h => (allz_no (xs := xs) (k := k) hk h))
  clear hr
  go_enter Try.func50, Try.ntmps50
  go_wp2_with fail
  go_loopw [8] (fun i wr => ∃ k : Nat, k ≤ n ∧ i = .int .i64 k ∧ Hid (∀ j, j < k → xs.getD j 0 = 0) ∧ W = wr) (fun i _ => n - (intOf i).toNat)
  case atStart => refine ⟨0, Nat.zero_le _, rfl, Lib.hid (fun j hj => by omega), ?_⟩; first | rfl | trivial
  case round =>
    obtain ⟨k, hk, rfl, HZ, rfl⟩ := hrel
    by_cases hlt : k < n
    · obtain ⟨b, off, rfl, hb, hc, x0, x1⟩ := HX.out.cell hlt
      have AN1 := Lib.hid (fun h => AN.out k (by rw [HX.out.len]; exact hlt) h)
      have HZ2 := Lib.hid (fun (h : xs.getD k 0 = 0) j (hj : j < k + 1) => (show xs.getD j 0 = 0 by
        by_cases e : j = k
        · rw [e]; exact h
        · exact HZ.out j (by omega)))
      generalize xs.getD k 0 = x at *
      have hd : decide ((k : Int) < (n : Int)) = true := decide_eq_true (by omega)
      by_cases hx : x = 0
      · subst hx
        have HZ3 := Lib.hid (HZ2.out rfl)
        clear HZ HZ2 AN1
        go_wp2_with fail
        refine (clean1 _ _).mono ?_
        rintro e w1 ⟨rfl, rfl⟩
        go_wp2_with fail
        go_roundw
        case rel => refine ⟨k + 1, by omega, by go_num, HZ3, ?_⟩; first | rfl | trivial
        case measure => (first | (simp [intOf]; done) | (simp [intOf]; omega) | (simp only [intOf]; omega))
      · have hx2 : (x != 0) = true := by simpa using hx
        have HA := Lib.hid (AN1.out hx)
        clear HZ HZ2 AN1
        go_wp2_with fail
        refine (clean1 _ _).mono ?_
        rintro e w1 ⟨rfl, rfl⟩
        go_wp2_with fail
        go_ret
        exact ⟨_, rfl, by rw [HA.out]; exact decide_eq_true (by omega), rfl⟩
    · obtain rfl : k = n := by omega
      have hd : decide ((k : Int) < (k : Int)) = false := decide_eq_false (by omega)
      have HA := Lib.hid (AY.out (fun j hj => HZ.out j (by rw [HX.out.len] at hj; exact hj)))
      go_wp2_with fail
      go_ret
      exact ⟨_, rfl, by rw [HA.out]; rfl, rfl⟩
theorem contains_func (p : Option Addr) (n c : Nat) (xs : List Int) (W : World) (hr : Row W p n xs) :
    Calls Try.prog 31 #[.slice p n c, .func (.func 32) #[] #[]] W fun e w' => e = .returned (.bool (!allz xs)) ∧ W = w' := by
  have I := Lib.hid (index_func p n c xs W hr)
  clear hr
  go_enter Try.func31, Try.ntmps31
  go_wp2_with fail
  refine I.out.mono ?_
  rintro e w1 ⟨r, rfl, hd, rfl⟩
  go_wp2_with fail
  go_ret
  exact ⟨rfl, rfl⟩
theorem table_clean (p : Option Addr) (n c : Nat) (xs : List Int) (W : World) (hr : Row W p n xs) :
    Calls Try.prog 12 #[.slice p n c] W fun e w' => e = .returned (.bool (allz xs)) ∧ W = w' := by
  have I := Lib.hid (contains_func p n c xs W hr)
  clear hr
  generalize allz xs = b at *
  go_enter Try.func12, Try.ntmps12
  go_wp2_with fail
  refine I.out.mono ?_
  rintro e w1 ⟨rfl, rfl⟩
  go_wp2_with fail
  go_ret
  exact ⟨by cases b <;> rfl, rfl⟩
/-- The name of the page's example. -/
def nm2 : Value := .agg #[.int .i64 1, .int .i64 2, .int .i64 0, .int .i64 0]
set_option maxRecDepth 100000 in
theorem right2 (W : World) : Calls Try.prog 15 #[.agg #[.int .i64 1, .int .i64 2, .int .i64 0, .int .i64 0]] W fun e w' => e = .returned (.bool true) ∧ Below W.heap.size W w' := by
  have H := fun w => root_has 2 w (by omega) (by omega)
  rw [show hasb 2 = true from rfl] at H
  have H := Lib.hid H
  have hB := (Below.refl W.heap.size W).alloc (Nat.le_refl _) (.cells #[.int .i64 1, .int .i64 2, .int .i64 0, .int .i64 0] 23)
  go_enter Try.func15, Try.ntmps15
  go_wp2_with fail
  refine (H.out _).mono ?_
  rintro e w1 ⟨rfl, rfl⟩
  go_wp2_with fail
  go_ret
  exact ⟨rfl, hB⟩
set_option maxRecDepth 100000 in
theorem by2 (W : World) : Calls Try.prog 23 #[.agg #[.int .i64 1, .int .i64 2, .int .i64 0, .int .i64 0]] W fun e w' => e = .returned (.func (.func 43) #[.agg #[.int .i64 1, .int .i64 2, .int .i64 0, .int .i64 0]] #[]) ∧ Below W.heap.size W w' := by
  have hB := fun o => (Below.refl W.heap.size W).alloc (Nat.le_refl _) o
  go_enter Try.func23, Try.ntmps23
  go_wp2_with fail
  go_ret
  exact ⟨rfl, hB _⟩
set_option maxRecDepth 100000 in
theorem root2 (W : World) : Calls Try.prog 60 #[.agg #[.int .i64 1, .int .i64 2, .int .i64 0, .int .i64 0]] W fun e w' => e = .returned (.tuple #[.int .u64 18446744069414584320, .int .i64 0]) ∧ Below W.heap.size W w' := by
  have R := fun w => root_root 2 w (by omega) (by omega) rfl
  rw [rt_two] at R
  have R := Lib.hid R
  have hB := fun o => (Below.refl W.heap.size W).alloc (Nat.le_refl _) o
  go_enter Try.func60, Try.ntmps60
  go_wp2_with fail
  refine (R.out _).mono ?_
  rintro e w1 ⟨rfl, b1⟩
  go_wp2_with fail
  go_ret2
  exact ⟨rfl, (hB _).trans (b1.mono (hB _).size)⟩
set_option maxRecDepth 100000 in
theorem powers2 (W : World) : Calls Try.prog 43 #[.agg #[.int .i64 1, .int .i64 2, .int .i64 0, .int .i64 0]] W (GivesOk W 2 [1, 18446744069414584320]) := by
  have PW : ∀ w, Calls Try.prog 61 #[.int .u64 18446744069414584320, .int .i64 2] w fun e w' => e = .returned (.tuple #[.slice (some ⟨w.heap.size, 0, none⟩) 2 2, .int .i64 0]) ∧ RowAt w' w.heap.size 43 (powl 18446744069414584320 2) ∧ Below w.heap.size w w' := fun w => root_powers 18446744069414584320 2 w (by omega) (by omega) (by omega)
  rw [show powl 18446744069414584320 2 = [1, 18446744069414584320] by decide +kernel] at PW
  have PW := Lib.hid PW
  have hB := fun o => (Below.refl W.heap.size W).alloc (Nat.le_refl _) o
  go_enter Try.func43, Try.ntmps43
  go_wp2_with fail
  refine (root2 _).mono ?_
  rintro e w1 ⟨rfl, b1⟩
  have hc := fun j (hj : j < 4) => b1.cell (p := ⟨W.heap.size, j, none⟩) (by simp)
  have c0 := hc 0 (by omega)
  have c1 := hc 1 (by omega)
  have c2 := hc 2 (by omega)
  have c3 := hc 3 (by omega)
  simp at c0 c1 c2 c3
  have b3 := (hB _).trans (b1.mono (hB _).size)
  clear b1 hB hc
  go_wp2_with fail
  refine (PW.out _).mono ?_
  rintro e w2 ⟨rfl, hq, b2⟩
  have HQ := Lib.hid hq
  have b4 := b3.trans (b2.mono b3.size)
  clear hq b2
  go_wp2_with fail
  go_ret2
  exact ⟨_, _, rfl, Row.of_at HQ.out (by decide) rfl (by omega), b4⟩
set_option maxRecDepth 100000 in
theorem make2 (W : World) : Calls Try.prog 7 #[.agg #[.int .i64 1, .int .i64 2, .int .i64 0, .int .i64 0]] W (GivesOk W 2 [1, 18446744069414584320]) := by
  have hB := fun o => (Below.refl W.heap.size W).alloc (Nat.le_refl _) o
  go_enter Try.func7, Try.ntmps7
  go_wp2_with fail
  refine (right2 _).mono ?_
  rintro e w1 ⟨rfl, b1⟩
  have b2 := (hB (.cells #[.int .i64 1, .int .i64 2, .int .i64 0, .int .i64 0] 23)).trans (b1.mono (hB _).size)
  have hc := fun j (hj : j < 4) => b1.cell (p := ⟨W.heap.size, j, none⟩) (by simp)
  have c0 := hc 0 (by omega)
  have c1 := hc 1 (by omega)
  have c2 := hc 2 (by omega)
  have c3 := hc 3 (by omega)
  simp at c0 c1 c2 c3
  clear b1 hB hc
  go_wp2_with fail
  refine (by2 _).mono ?_
  rintro e w2 ⟨rfl, b3⟩
  have b4 := b2.trans (b3.mono b2.size)
  clear b3 b2 c0 c1 c2 c3
  go_wp2_with fail
  refine (powers2 _).mono ?_
  rintro e w3 ⟨p, k, rfl, h, b5⟩
  have HR := Lib.hid h
  have b6 := b4.trans (b5.mono b4.size)
  clear h b5 b4
  go_wp2_with fail
  go_ret2
  exact ⟨_, _, rfl, HR.out, b6⟩
theorem live16 (w : World) : Calls Try.prog 8 #[] w fun e w' => e = .returned (.bool true) ∧ Below w.heap.size w w' := by
  have A := Lib.hid (fun w => rowat2 w 1 18446744069414584320)
  go_enter Try.func8, Try.ntmps8
  go_wp2_with fail
  refine (make2 _).mono ?_
  rintro e w1 ⟨p, k, rfl, h, b1⟩
  have HR := Lib.hid (Row.alloc h (.cells #[.int .u64 1, .int .u64 18446744069414584320] 43))
  have r1 := Lib.hid (Row.of_at (A.out w1) (by decide) (n := 2) rfl (by omega))
  have b2 := b1.alloc b1.size (.cells #[.int .u64 1, .int .u64 18446744069414584320] 43)
  clear h b1
  go_wp2_with fail
  generalize w1.alloc (.cells #[.int .u64 1, .int .u64 18446744069414584320] 43) = W3 at *
  refine (c_same HR.out r1.out).mono ?_
  rintro e w4 ⟨rfl, b3⟩
  go_wp2_with fail
  go_ret
  exact ⟨rfl, b2.trans (b3.mono b2.size)⟩
end Go.Proofs.Ytcfmiflhhjoofaa
