/- Put together by program (merge2.py): Namc Src Sri. -/
import Derived.BigRegion
import Derived.Deep.DeepCutAuto
import Derived.Deep.DrawnRows
import Derived.Deep.RegionHeld
import Derived.Test.YtafmiilkdhdngaaGreatDoorD11
import Derived.Test.YtafmiilkdhdngaaGreatDoorR1
/- Names of tables: need.Right, Room, Cmp, and reference 15's. -/
namespace Go.Proofs.YtafmiilkdhdngaaGreatDoor
open Go.ChangeShapes Go.WideShapes Go.ChangeAt Go.RowKit
set_option linter.unusedVariables false
/-- How two numbers stand. -/
def cmp3 (x y : Int) : Int := if x < y then -1 else if y < x then 1 else 0
theorem cmp3_lt {x y : Int} (h : x < y) : cmp3 x y = -1 := by unfold cmp3; rw [if_pos h]
theorem cmp3_gt {x y : Int} (h : y < x) : cmp3 x y = 1 := by unfold cmp3; rw [if_neg (by omega), if_pos h]
theorem cmp3_eq {x y : Int} (h : x = y) : cmp3 x y = 0 := by unfold cmp3; rw [if_neg (by omega), if_neg (by omega)]
theorem cmp_nan (x : Int) (W : World) : Calls Tryz.prog 79 #[.int .i64 x] W fun e w' => e = .returned (.bool false) ∧ W = w' := by
  have hx : (x != x) = false := by simp
  go_enter Tryz.func79, Tryz.ntmps79
  go_wp2_with fail
  go_ret
  exact ⟨rfl, rfl⟩
theorem cmp_compare (x y : Int) (W : World) : Calls Tryz.prog 59 #[.int .i64 x, .int .i64 y] W fun e w' => e = .returned (.int .i64 (cmp3 x y)) ∧ W = w' := by
  have NN := Lib.hid (fun x w => cmp_nan x w)
  rcases Int.lt_trichotomy x y with h | h | h
  · have E := Lib.hid (cmp3_lt h)
    have d1 : decide (x < y) = true := decide_eq_true h
    go_enter Tryz.func59, Tryz.ntmps59
    go_wp2_with fail
    refine (NN.out _ _).mono ?_
    rintro e w1 ⟨rfl, rfl⟩
    go_wp2_with fail
    refine (NN.out _ _).mono ?_
    rintro e w1 ⟨rfl, rfl⟩
    go_wp2_with fail
    go_ret
    exact ⟨by rw [E.out]; rfl, rfl⟩
  · have E := Lib.hid (cmp3_eq h)
    subst h
    have d1 : decide (x < x) = false := decide_eq_false (by omega)
    go_enter Tryz.func59, Tryz.ntmps59
    go_wp2_with fail
    refine (NN.out _ _).mono ?_
    rintro e w1 ⟨rfl, rfl⟩
    go_wp2_with fail
    refine (NN.out _ _).mono ?_
    rintro e w1 ⟨rfl, rfl⟩
    go_wp2_with fail
    go_ret
    exact ⟨by rw [E.out]; rfl, rfl⟩
  · have E := Lib.hid (cmp3_gt h)
    have d1 : decide (x < y) = false := decide_eq_false (by omega)
    have d2 : decide (y < x) = true := decide_eq_true h
    go_enter Tryz.func59, Tryz.ntmps59
    go_wp2_with fail
    refine (NN.out _ _).mono ?_
    rintro e w1 ⟨rfl, rfl⟩
    go_wp2_with fail
    refine (NN.out _ _).mono ?_
    rintro e w1 ⟨rfl, rfl⟩
    go_wp2_with fail
    go_ret
    exact ⟨by rw [E.out]; rfl, rfl⟩
/-- The first that is not nought. -/
def fz : List Int → Int
  | [] => 0
  | x :: r => if x = 0 then fz r else x
theorem fz_at : ∀ (xs : List Int) (k : Nat), k < xs.length → (∀ j, j < k → xs.getD j 0 = 0) → xs.getD k 0 ≠ 0 → fz xs = xs.getD k 0
  | [], k, h, _, _ => by simp at h
  | x :: r, 0, _, _, hk => by
    simp at hk ⊢
    rw [fz, if_neg hk]
  | x :: r, k + 1, h, h0, hk => by
    have e0 : x = 0 := by simpa using h0 0 (by omega)
    rw [fz, if_pos e0, fz_at r k (by simpa using h) (fun j hj => by simpa using h0 (j + 1) (by omega)) (by simpa using hk)]
    simp
theorem fz_none : ∀ (xs : List Int), (∀ j, j < xs.length → xs.getD j 0 = 0) → fz xs = 0
  | [], _ => rfl
  | x :: r, h => by
    have e0 : x = 0 := by simpa using h 0 (by simp)
    rw [fz, if_pos e0, fz_none r (fun j hj => by simpa using h (j + 1) (by simpa using hj))]
set_option maxRecDepth 100000 in
theorem cmp_or (p : Option Addr) (n c : Nat) (xs : List Int) (W : World) (hr : RowI W p n xs) :
    Calls Tryz.prog 58 #[.slice p n c] W fun e w' => e = .returned (.int .i64 (fz xs)) ∧ W = w' := by
  have HX := Lib.hid hr
  have hs := hr.small
  have FA := Lib.hid (fun k h => fz_at xs k (by rw [hr.len]; exact h))
  have FZ := Lib.hid (fz_none xs)
  generalize fz xs = z at *
  clear hr
  go_enter Tryz.func58, Tryz.ntmps58
  go_wp2_with fail
  go_loopw [8] (fun i wr => ∃ k : Nat, k ≤ n ∧ i = .int .i64 k ∧ Hid (∀ j, j < k → xs.getD j 0 = 0) ∧ W = wr) (fun i _ => n - (intOf i).toNat)
  case atStart => refine ⟨0, Nat.zero_le _, rfl, Lib.hid (fun j hj => by omega), ?_⟩; first | rfl | trivial
  case round =>
    obtain ⟨k, hk, rfl, HZ, rfl⟩ := hrel
    by_cases hlt : k < n
    · have hd : decide ((k : Int) < (n : Int)) = true := decide_eq_true (by omega)
      obtain ⟨b, off, rfl, hb, hc, x0, x1⟩ := HX.out.cell hlt
      have FA1 := Lib.hid (fun h => FA.out k hlt HZ.out h)
      have HZ2 := Lib.hid (fun (h : xs.getD k 0 = 0) j (hj : j < k + 1) => (show xs.getD j 0 = 0 by
        by_cases e : j = k
        · rw [e]; exact h
        · exact HZ.out j (by omega)))
      generalize xs.getD k 0 = x at *
      by_cases hx : x = 0
      · have HZ3 := Lib.hid (HZ2.out hx)
        subst hx
        go_wp2_with fail
        go_roundw
        case rel => exact ⟨k + 1, by omega, by go_num, HZ3, trivial⟩
        case measure => (first | (simp [intOf]; done) | (simp [intOf]; omega) | (simp only [intOf]; omega))
      · have E := Lib.hid (FA1.out hx)
        have hx0 : (x != 0) = true := by simp; omega
        go_wp2_with fail
        go_ret
        exact ⟨by rw [E.out]; rfl, rfl⟩
    · obtain rfl : k = n := by omega
      have hd : decide ((k : Int) < (k : Int)) = false := decide_eq_false (by omega)
      have E := Lib.hid (FZ.out (fun j hj => HZ.out j (by rw [HX.out.len] at hj; exact hj)))
      go_wp2_with fail
      go_ret
      exact ⟨by rw [E.out]; rfl, rfl⟩
theorem cmp3_wf (x y : Int) : (Lit.int .i64 (cmp3 x y)).wf = true := by
  unfold cmp3
  split
  · rfl
  · split <;> rfl
theorem cmp3_neg (x y : Int) : cmp3 y x = - cmp3 x y := by
  rcases Int.lt_trichotomy x y with h | h | h
  · rw [cmp3_lt h, cmp3_gt h]; rfl
  · rw [cmp3_eq h, cmp3_eq h.symm]; rfl
  · rw [cmp3_gt h, cmp3_lt h]
end Go.Proofs.YtafmiilkdhdngaaGreatDoor
/- entry.Cmp, and the sorter's closure over it. -/
namespace Go.Proofs.YtafmiilkdhdngaaGreatDoor
open Go.ChangeShapes Go.WideShapes Go.ChangeAt Go.RowKit
set_option linter.unusedVariables false
set_option linter.unusedSimpArgs false
def cmpK (a b a' b' : Int) : Int := fz [cmp3 a a', cmp3 b b']
theorem cmpK_lt (a b a' b' : Int) : decide (cmpK a b a' b' < 0) = Srt.klt (a, b) (a', b') := by
  unfold cmpK Srt.klt cmp3
  simp only [fz]
  by_cases h1 : a < a'
  · simp [h1]
  · by_cases h2 : a' < a
    · simp [h1, h2]; omega
    · have : a = a' := by omega
      subst this
      by_cases h3 : b < b'
      · simp [h3]
      · by_cases h4 : b' < b
        · simp [h3, h4]
        · simp [h3, h4]
theorem row2i (w : World) (x y : Int) (T : TypeId) (hx : (Lit.int .i64 x).wf = true) (hy : (Lit.int .i64 y).wf = true) : RowI (w.alloc (.cells #[.int .i64 x, .int .i64 y] T)) (some ⟨w.heap.size, 0, none⟩) 2 [x, y] :=
  RowI.of_at (T := T) (by unfold RowAtI; exact heap_alloc_new _ _) (by
    intro u hu
    simp only [List.mem_cons, List.not_mem_nil, or_false] at hu
    rcases hu with rfl | rfl <;> assumption) rfl (by decide)
theorem box2k (W : World) (a b a' b' : Int) (T : TypeId) : ∃ w0 : World, w0 = (W.alloc (.cells #[.int .i64 a, .int .i64 b] T)).alloc (.cells #[.int .i64 a', .int .i64 b'] T) ∧ w0.cell? ⟨W.heap.size, 0, none⟩ = some (.int .i64 a) ∧ w0.cell? ⟨W.heap.size, 1, none⟩ = some (.int .i64 b) ∧ w0.cell? ⟨W.heap.size + 1, 0, none⟩ = some (.int .i64 a') ∧ w0.cell? ⟨W.heap.size + 1, 1, none⟩ = some (.int .i64 b') ∧ Below W.heap.size W w0 ∧ w0.heap.size = W.heap.size + 2 := by
  have h1 := heap_alloc_new W (.cells #[.int .i64 a, .int .i64 b] T)
  have h2 := heap_alloc_new (W.alloc (.cells #[.int .i64 a, .int .i64 b] T)) (.cells #[.int .i64 a', .int .i64 b'] T)
  have h3 := (Below.heap_alloc (W.alloc (.cells #[.int .i64 a, .int .i64 b] T)) (.cells #[.int .i64 a', .int .i64 b'] T) W.heap.size (by simp)).trans h1
  simp only [World.size_alloc] at h2
  exact ⟨_, rfl, by rw [cell_of_row _ _ _ _ _ _ h3]; rfl, by rw [cell_of_row _ _ _ _ _ _ h3]; rfl, by rw [cell_of_row _ _ _ _ _ _ h2]; rfl, by rw [cell_of_row _ _ _ _ _ _ h2]; rfl, ((Below.refl _ _).alloc (Nat.le_refl _) _).alloc (by simp) _, by simp⟩
attribute [local go_sem ↓] Go.wp_at_zero Go.wp_at_succ
set_option maxRecDepth 100000 in
set_option maxHeartbeats 4000000 in
theorem e_cmp (a b a' b' : Int) (W : World) : Calls Tryz.prog 36 #[.agg #[.int .i64 a, .int .i64 b], .agg #[.int .i64 a', .int .i64 b']] W fun e w' => e = .returned (.int .i64 (cmpK a b a' b')) ∧ Below W.heap.size W w' := by
  obtain ⟨w0, hw0, x0, x1, y0, y1, hB0, hs0⟩ := box2k W a b a' b' 39
  have HW0 := Lib.hid hw0.symm
  have c1 := cmp3_wf a a'
  have c2 := cmp3_wf b b'
  have E := Lib.hid (show cmpK a b a' b' = fz [cmp3 a a', cmp3 b b'] from rfl)
  have CC := Lib.hid (fun x y w => cmp_compare x y w)
  have OR := Lib.hid (cmp_or (some ⟨w0.heap.size, 0, none⟩) 2 2 [cmp3 a a', cmp3 b b'] (w0.alloc (.cells #[.int .i64 (cmp3 a a'), .int .i64 (cmp3 b b')] 3)).drew ((row2i w0 _ _ 3 c1 c2).below (Below.refl _ _).drew))
  have lt0 : W.heap.size < w0.heap.size := by omega
  have lt1 : W.heap.size + 1 < w0.heap.size := by omega
  have MK := Lib.hid (fun w' (hb : Below w0.heap.size w0 w') => (show w'.cell? ⟨W.heap.size, 0, none⟩ = some (.int .i64 a) ∧ w'.cell? ⟨W.heap.size, 1, none⟩ = some (.int .i64 b) ∧ w'.cell? ⟨W.heap.size + 1, 0, none⟩ = some (.int .i64 a') ∧ w'.cell? ⟨W.heap.size + 1, 1, none⟩ = some (.int .i64 b') ∧ Below w0.heap.size w0 w' from
    ⟨(hb.cell (p := ⟨W.heap.size, 0, none⟩) lt0).trans x0, (hb.cell (p := ⟨W.heap.size, 1, none⟩) lt0).trans x1, (hb.cell (p := ⟨W.heap.size + 1, 0, none⟩) lt1).trans y0, (hb.cell (p := ⟨W.heap.size + 1, 1, none⟩) lt1).trans y1, hb⟩))
  generalize cmpK a b a' b' = z at *
  have HB0 := Lib.hid hB0
  clear hw0 hs0 c1 c2 lt0 lt1 hB0
  go_enter Tryz.func36, Tryz.ntmps36
  go_upto_region 1 with fail
  rw [HW0.out]
  generalize W.heap.size + 1 = Y at *
  generalize hX : W.heap.size = X at *
  go_region_held3 (fun w' => w'.cell? ⟨X, 0, none⟩ = some (.int .i64 a) ∧ w'.cell? ⟨X, 1, none⟩ = some (.int .i64 b) ∧ w'.cell? ⟨Y, 0, none⟩ = some (.int .i64 a') ∧ w'.cell? ⟨Y, 1, none⟩ = some (.int .i64 b') ∧ Below w0.heap.size w0 w') (first | exact MK.out _ ((Below.refl _ _).drew) | assumption | exact MK.out _ (((Below.refl _ _).alloc (Nat.le_refl _) _).drew) | exact MK.out _ (((Below.refl _ _).drew).alloc (by simp) _).drew) (first | (go_at_call 59; (with_reducible refine (CC.out _ _ _).mono ?_); rintro e w' ⟨rfl, rfl⟩) | (go_at_call 58; (with_reducible refine OR.out.mono ?_); rintro e w' ⟨rfl, rfl⟩))
  rename_i hSS
  obtain ⟨_, _, _, _, hBB⟩ := hSS
  go_wp2_with fail
  go_ret
  exact ⟨by rw [E.out]; rfl, by rw [hX]; exact HB0.out.trans (hBB.mono (by have := HB0.out.size; omega))⟩
end Go.Proofs.YtafmiilkdhdngaaGreatDoor
/- The sorter's closure; insertion sort in place. -/
namespace Go.Proofs.YtafmiilkdhdngaaGreatDoor
open Go.ChangeShapes Go.WideShapes Go.ChangeAt Go.RowKit
set_option linter.unusedVariables false
set_option linter.unusedSimpArgs false
attribute [local go_sem ↓] Go.wp_at_zero Go.wp_at_succ
theorem box5e (W : World) (a b k n : Int) (v : Value) (T : TypeId) : ∃ w0 : World, w0 = W.alloc (.cells #[.int .i64 a, .int .i64 b, .int .i64 k, .int .i64 n, v] T) ∧ w0.cell? ⟨W.heap.size, 0, none⟩ = some (.int .i64 a) ∧ w0.cell? ⟨W.heap.size, 1, none⟩ = some (.int .i64 b) ∧ Below W.heap.size W w0 ∧ w0.heap.size = W.heap.size + 1 :=
  ⟨_, rfl, by rw [cell_of_row _ _ _ _ _ _ (heap_alloc_new _ _)]; rfl, by rw [cell_of_row _ _ _ _ _ _ (heap_alloc_new _ _)]; rfl, (Below.refl _ _).alloc (Nat.le_refl _) _, by simp⟩
/-- Block B is the sorter by entry.Cmp. -/
def Srtr (w : World) (B : Nat) : Prop := w.heap[B]? = some (.cells #[.func (.func 36) #[] #[]] 78 (0, 0))
theorem Srtr.lt {w : World} {B : Nat} (h : Srtr w B) : B < w.heap.size := by
  by_cases hl : B < w.heap.size
  · exact hl
  · unfold Srtr at h; rw [Array.getElem?_eq_none (by omega)] at h; cases h
theorem Srtr.below {w w' : World} {B : Nat} (h : Srtr w B) (hb : Below w.heap.size w w') : Srtr w' B := (hb.block B h.lt).trans h
theorem Srtr.but {w w' : World} {B g : Nat} (h : Srtr w B) (hb : But w w' g) (hne : B ≠ g) : Srtr w' B := (hb.heap h.lt hne).trans h
set_option maxRecDepth 100000 in
set_option maxHeartbeats 4000000 in
theorem e_clo (B : Nat) (x y : E5) (W : World) (h : Srtr W B) : Calls Tryz.prog 62 #[agE x, agE y, .pointer (some ⟨B, 0, none⟩)] W fun e w' => e = .returned (.int .i64 (cmpK x.a x.b y.a y.b)) ∧ Below W.heap.size W w' := by
  obtain ⟨a, b, k, n, v⟩ := x
  obtain ⟨a', b', k', n', v'⟩ := y
  unfold agE
  obtain ⟨w0, hw0, x0, x1, hB0, hs0⟩ := box5e W a b k n v 44
  obtain ⟨w1, hw1, y0, y1, hB1, hs1⟩ := box5e w0 a' b' k' n' v' 44
  have HW1 := Lib.hid (show (W.alloc (.cells #[.int .i64 a, .int .i64 b, .int .i64 k, .int .i64 n, v] 44)).alloc (.cells #[.int .i64 a', .int .i64 b', .int .i64 k', .int .i64 n', v'] 44) = w1 by rw [hw1, hw0])
  have x0 := (hB1.cell (p := ⟨W.heap.size, 0, none⟩) (by show W.heap.size < _; omega)).trans x0
  have x1 := (hB1.cell (p := ⟨W.heap.size, 1, none⟩) (by show W.heap.size < _; omega)).trans x1
  rw [hs0] at y0 y1
  have hB := hB0.trans (hB1.mono hB0.size)
  have z0 : w1.cell? ⟨B, 0, none⟩ = some (.func (.func 36) #[] #[]) := by
    have := h.below hB
    rw [cell_of_row _ _ _ _ _ _ this]; rfl
  have C := e_cmp a b a' b' w1
  clear hw0 hw1 hB0 hB1 hs0 hs1 h
  go_enter Tryz.func62, Tryz.ntmps62
  go_upto_region 1 with fail
  rw [HW1.out]
  go_wp2_with fail
  refine C.mono ?_
  rintro e w2 ⟨rfl, hb2⟩
  go_wp2_with fail
  go_ret
  exact ⟨rfl, hB.trans (hb2.mono hB.size)⟩
end Go.Proofs.YtafmiilkdhdngaaGreatDoor
