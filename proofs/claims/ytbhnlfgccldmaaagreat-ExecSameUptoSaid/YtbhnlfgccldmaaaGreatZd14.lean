/- Put together by program (merge2.py): Namc Tab3 Stock Stock2 Stock3 Rturn Stock4 Givn. -/
import Derived.StillTailTactics
import Derived.Outline
import Derived.Deep.DrawnRows
import Derived.Test.YtbhnlfgccldmaaaGreatZd11
import Derived.Test.YtbhnlfgccldmaaaGreatZd13
/- Names of tables: need.Right, Room, Cmp, and reference 15's. -/
namespace Go.Proofs.YtbhnlfgccldmaaaGreat
open Go.ChangeShapes Go.WideShapes Go.ChangeAt Go.RowKit
set_option linter.unusedVariables false
set_option maxRecDepth 100000 in
set_option maxHeartbeats 4000000 in
theorem r15_right (k n m d : Int) (W : World) (wn : -9223372036854775808 ≤ n ∧ n ≤ 9223372036854775807) (wm : m ≤ 9223372036854775807) :
    Calls Tryz.prog 85 #[.agg #[.int .i64 k, .int .i64 n, .int .i64 m, .int .i64 d]] W fun e w' => e = .returned (.bool (rightb k n m d)) ∧ Below W.heap.size W w' := by
  have H := Lib.hid (fun w => r4_has n w wn.1 wn.2)
  have FP := Lib.hid (fun w => r3_prime n w wn.2)
  have SH := Lib.hid (fun w => r8_power m w wm)
  have hB := (Below.refl W.heap.size W).alloc (Nat.le_refl _) (.cells #[.int .i64 k, .int .i64 n, .int .i64 m, .int .i64 d] 82)
  cases hh : hasb n with
  | false =>
    rw [hh] at H
    have E := Lib.hid (rightb_has (k := k) (m := m) (d := d) hh)
    go_enter Tryz.func85, Tryz.ntmps85
    go_wp2_with fail
    refine (H.out _).mono ?_
    rintro e w1 ⟨rfl, rfl⟩
    go_wp2_with fail
    go_ret
    exact ⟨by rw [E.out]; rfl, hB⟩
  | true =>
  rw [hh] at H
  obtain ⟨n1, n2, _⟩ := hasb_dvd hh
  have w2 : IntKind.i64.wrap (2 * n - 1) = 2 * n - 1 := IntWalk.i64_in _ (by omega)
  have w3 : IntKind.i64.wrap (2 * n) = 2 * n := IntWalk.i64_in _ (by omega)
  by_cases hd : d = 0 ∨ d = 1
  case neg =>
    have E := Lib.hid (rightb_dir (k := k) (n := n) (m := m) hd)
    by_cases h0 : d < 0
    · have d0 : decide (d < 0) = true := decide_eq_true h0
      go_enter Tryz.func85, Tryz.ntmps85
      go_wp2_with fail
      refine (H.out _).mono ?_
      rintro e w1 ⟨rfl, rfl⟩
      go_wp2_with fail
      go_ret
      exact ⟨by rw [E.out]; rfl, hB⟩
    · have d0 : decide (d < 0) = false := decide_eq_false h0
      have d1 : decide (1 < d) = true := decide_eq_true (by omega)
      go_enter Tryz.func85, Tryz.ntmps85
      go_wp2_with fail
      refine (H.out _).mono ?_
      rintro e w1 ⟨rfl, rfl⟩
      go_wp2_with fail
      go_ret
      exact ⟨by rw [E.out]; rfl, hB⟩
  by_cases hk : k = 1 ∨ k = 2
  · have E := Lib.hid (rightb_12 (m := m) hh hd hk)
    have hm : (m == 0) = decide (m = 0) := rfl
    generalize decide (m = 0) = z at *
    rcases hd with rfl | rfl <;> rcases hk with rfl | rfl
    all_goals
      go_enter Tryz.func85, Tryz.ntmps85
      go_wp2_with fail
      refine (H.out _).mono ?_
      rintro e w1 ⟨rfl, rfl⟩
      go_wp2_with fail
      go_ret
      exact ⟨by rw [E.out]; rfl, hB⟩
  by_cases hk3 : k = 3
  · subst hk3
    by_cases hm : m = 0
    · by_cases h3 : 3 ≤ n
      · have E := Lib.hid (show rightb 3 n m d = prb n by rw [rightb_3 hh hd, decide_eq_true ⟨hm, h3⟩, Bool.true_and])
        subst hm
        have d3 : decide (2 < n) = true := decide_eq_true (by omega)
        generalize prb n = z at *
        rcases hd with rfl | rfl
        all_goals
          go_enter Tryz.func85, Tryz.ntmps85
          go_wp2_with fail
          refine (H.out _).mono ?_
          rintro e w1 ⟨rfl, rfl⟩
          go_wp2_with fail
          refine (FP.out _).mono ?_
          rintro e w2 ⟨rfl, rfl⟩
          go_wp2_with fail
          go_ret
          exact ⟨by rw [E.out]; rfl, hB⟩
      · have E := Lib.hid (show rightb 3 n m d = false by rw [rightb_3 hh hd, decide_eq_false (fun h => h3 h.2), Bool.false_and])
        subst hm
        have d3 : decide (2 < n) = false := decide_eq_false (by omega)
        rcases hd with rfl | rfl
        all_goals
          go_enter Tryz.func85, Tryz.ntmps85
          go_wp2_with fail
          refine (H.out _).mono ?_
          rintro e w1 ⟨rfl, rfl⟩
          go_wp2_with fail
          go_ret
          exact ⟨by rw [E.out]; rfl, hB⟩
    · have E := Lib.hid (show rightb 3 n m d = false by rw [rightb_3 hh hd, decide_eq_false (fun h => hm h.1), Bool.false_and])
      have e0 : (m == 0) = false := by simp; omega
      rcases hd with rfl | rfl
      all_goals
        go_enter Tryz.func85, Tryz.ntmps85
        go_wp2_with fail
        refine (H.out _).mono ?_
        rintro e w1 ⟨rfl, rfl⟩
        go_wp2_with fail
        go_ret
        exact ⟨by rw [E.out]; rfl, hB⟩
  by_cases hk4 : k = 4
  · subst hk4
    by_cases h2 : 2 ≤ n
    · have d2 : decide (2 ≤ n) = true := decide_eq_true h2
      by_cases h3 : 2 * n - 1 ≤ m
      · have d3 : decide (2 * n - 1 ≤ m) = true := decide_eq_true h3
        by_cases h4 : m ≤ 16777216
        · have d4 : decide (m ≤ 16777216) = true := decide_eq_true h4
          have E := Lib.hid (show rightb 4 n m d = pwb m by rw [rightb_4 hh hd, d2, d3]; unfold hasp; rw [d4, Bool.true_and, Bool.true_and, Bool.and_true])
          generalize pwb m = z at *
          rcases hd with rfl | rfl
          all_goals
            go_enter Tryz.func85, Tryz.ntmps85
            go_wp2_with fail
            refine (H.out _).mono ?_
            rintro e w1 ⟨rfl, rfl⟩
            go_wp2_with fail
            refine (SH.out _).mono ?_
            rintro e w2 ⟨rfl, rfl⟩
            go_wp2_with fail
            go_ret
            exact ⟨by rw [E.out]; rfl, hB⟩
        · have d4 : decide (m ≤ 16777216) = false := decide_eq_false h4
          have E := Lib.hid (show rightb 4 n m d = false by rw [rightb_4 hh hd]; unfold hasp; rw [d4, Bool.false_and, Bool.and_false, Bool.false_and])
          rcases hd with rfl | rfl
          all_goals
            go_enter Tryz.func85, Tryz.ntmps85
            go_wp2_with fail
            refine (H.out _).mono ?_
            rintro e w1 ⟨rfl, rfl⟩
            go_wp2_with fail
            go_ret
            exact ⟨by rw [E.out]; rfl, hB⟩
      · have d3 : decide (2 * n - 1 ≤ m) = false := decide_eq_false h3
        have E := Lib.hid (show rightb 4 n m d = false by rw [rightb_4 hh hd, d3, Bool.and_false])
        rcases hd with rfl | rfl
        all_goals
          go_enter Tryz.func85, Tryz.ntmps85
          go_wp2_with fail
          refine (H.out _).mono ?_
          rintro e w1 ⟨rfl, rfl⟩
          go_wp2_with fail
          go_ret
          exact ⟨by rw [E.out]; rfl, hB⟩
    · have d2 : decide (2 ≤ n) = false := decide_eq_false h2
      have E := Lib.hid (show rightb 4 n m d = false by rw [rightb_4 hh hd, d2, Bool.false_and, Bool.false_and])
      rcases hd with rfl | rfl
      all_goals
        go_enter Tryz.func85, Tryz.ntmps85
        go_wp2_with fail
        refine (H.out _).mono ?_
        rintro e w1 ⟨rfl, rfl⟩
        go_wp2_with fail
        go_ret
        exact ⟨by rw [E.out]; rfl, hB⟩
  have E := Lib.hid (rightb_no (n := n) (m := m) (d := d) ⟨hk, hk3, hk4⟩)
  have e1 : (k == 1) = false := by simp; omega
  have e2 : (k == 2) = false := by simp; omega
  have e3 : (k == 3) = false := by simp; omega
  have e4 : (k == 4) = false := by simp; omega
  rcases hd with rfl | rfl
  all_goals
    go_enter Tryz.func85, Tryz.ntmps85
    go_wp2_with fail
    refine (H.out _).mono ?_
    rintro e w1 ⟨rfl, rfl⟩
    go_wp2_with fail
    go_ret
    exact ⟨by rw [E.out]; rfl, hB⟩
set_option maxRecDepth 100000 in
theorem need_room (k n m d : Int) (W : World) (wn : -9223372036854775808 ≤ n ∧ n ≤ 9223372036854775807) (wm : m ≤ 9223372036854775807) :
    Calls Tryz.prog 87 #[.agg #[.int .i64 k, .int .i64 n, .int .i64 m, .int .i64 d]] W fun e w' => e = .returned (.int .i64 (if rightb k n m d then roomi k n m else 0)) ∧ Below W.heap.size W w' := by
  have hB := (Below.refl W.heap.size W).alloc (Nat.le_refl _) (.cells #[.int .i64 k, .int .i64 n, .int .i64 m, .int .i64 d] 82)
  have hcell : ∀ j, j < 4 → (W.alloc (.cells #[.int .i64 k, .int .i64 n, .int .i64 m, .int .i64 d] 82)).cell? ⟨W.heap.size, j, none⟩ = (#[Value.int .i64 k, .int .i64 n, .int .i64 m, .int .i64 d] : Array Value)[j]? := fun j hj => by
    rw [cell_of_row _ _ j _ _ _ (heap_alloc_new W (.cells #[.int .i64 k, .int .i64 n, .int .i64 m, .int .i64 d] 82))]
  have RR := Lib.hid (fun w => need_right k n m d w wn)
  have hsz : W.heap.size < (W.alloc (.cells #[.int .i64 k, .int .i64 n, .int .i64 m, .int .i64 d] 82)).heap.size := by simp
  cases hr : rightb k n m d with
  | false =>
    rw [hr] at RR
    go_enter Tryz.func87, Tryz.ntmps87
    go_wp2_with fail
    refine (RR.out _).mono ?_
    rintro e w1 ⟨rfl, b1⟩
    go_wp2_with fail
    go_ret
    exact ⟨rfl, hB.trans (b1.mono hB.size)⟩
  | true =>
    rw [hr] at RR
    have n1 : 1 ≤ n ∧ n ≤ 16777216 := by
      cases hh : hasb n with
      | false => rw [rightb_has hh] at hr; cases hr
      | true => obtain ⟨a, b, _⟩ := hasb_dvd hh; exact ⟨a, b⟩
    have E : Hid (∀ z, z = roomi k n m → Ending.returned (Value.int .i64 z) = .returned (.int .i64 (if true = true then roomi k n m else 0))) := Lib.hid (fun z h => by rw [if_pos rfl, h])
    clear hr
    generalize hW0 : W.alloc (.cells #[.int .i64 k, .int .i64 n, .int .i64 m, .int .i64 d] 82) = w0 at *
    by_cases hk3 : k = 3
    · subst hk3
      have HR := Lib.hid (show n - 1 = roomi 3 n m by unfold roomi; rw [if_pos rfl])
      go_enter Tryz.func87, Tryz.ntmps87
      go_wp2_with fail
      refine (RR.out _).mono ?_
      rintro e w1 ⟨rfl, b1⟩
      have c0 := (b1.cell (p := ⟨W.heap.size, 0, none⟩) hsz).trans (hcell 0 (by omega))
      have c1 := (b1.cell (p := ⟨W.heap.size, 1, none⟩) hsz).trans (hcell 1 (by omega))
      simp at c0 c1
      go_wp2_with fail
      go_ret
      exact ⟨E.out _ HR.out, hB.trans (b1.mono hB.size)⟩
    have e3 : (k == 3) = false := by simp; omega
    by_cases hk4 : k = 4
    · subst hk4
      have HR := Lib.hid (show m = roomi 4 n m by unfold roomi; rw [if_neg (by omega), if_pos rfl])
      go_enter Tryz.func87, Tryz.ntmps87
      go_wp2_with fail
      refine (RR.out _).mono ?_
      rintro e w1 ⟨rfl, b1⟩
      have c0 := (b1.cell (p := ⟨W.heap.size, 0, none⟩) hsz).trans (hcell 0 (by omega))
      have c1 := (b1.cell (p := ⟨W.heap.size, 2, none⟩) hsz).trans (hcell 2 (by omega))
      simp at c0 c1
      go_wp2_with fail
      go_ret
      exact ⟨E.out _ HR.out, hB.trans (b1.mono hB.size)⟩
    have e4 : (k == 4) = false := by simp; omega
    have HR := Lib.hid (show n = roomi k n m by unfold roomi; rw [if_neg hk3, if_neg hk4])
    go_enter Tryz.func87, Tryz.ntmps87
    go_wp2_with fail
    refine (RR.out _).mono ?_
    rintro e w1 ⟨rfl, b1⟩
    have c0 := (b1.cell (p := ⟨W.heap.size, 0, none⟩) hsz).trans (hcell 0 (by omega))
    have c1 := (b1.cell (p := ⟨W.heap.size, 1, none⟩) hsz).trans (hcell 1 (by omega))
    simp at c0 c1
    go_wp2_with fail
    go_ret
    exact ⟨E.out _ HR.out, hB.trans (b1.mono hB.size)⟩
set_option maxRecDepth 100000 in
theorem r15_room (k n m d : Int) (W : World) (wn : -9223372036854775808 ≤ n ∧ n ≤ 9223372036854775807) (wm : m ≤ 9223372036854775807) :
    Calls Tryz.prog 50 #[.agg #[.int .i64 k, .int .i64 n, .int .i64 m, .int .i64 d]] W fun e w' => e = .returned (.int .i64 (if rightb k n m d then roomi k n m else 0)) ∧ Below W.heap.size W w' := by
  have hB := (Below.refl W.heap.size W).alloc (Nat.le_refl _) (.cells #[.int .i64 k, .int .i64 n, .int .i64 m, .int .i64 d] 82)
  have hcell : ∀ j, j < 4 → (W.alloc (.cells #[.int .i64 k, .int .i64 n, .int .i64 m, .int .i64 d] 82)).cell? ⟨W.heap.size, j, none⟩ = (#[Value.int .i64 k, .int .i64 n, .int .i64 m, .int .i64 d] : Array Value)[j]? := fun j hj => by
    rw [cell_of_row _ _ j _ _ _ (heap_alloc_new W (.cells #[.int .i64 k, .int .i64 n, .int .i64 m, .int .i64 d] 82))]
  have RR := Lib.hid (fun w => r15_right k n m d w wn wm)
  have hsz : W.heap.size < (W.alloc (.cells #[.int .i64 k, .int .i64 n, .int .i64 m, .int .i64 d] 82)).heap.size := by simp
  cases hr : rightb k n m d with
  | false =>
    rw [hr] at RR
    go_enter Tryz.func50, Tryz.ntmps50
    go_wp2_with fail
    refine (RR.out _).mono ?_
    rintro e w1 ⟨rfl, b1⟩
    go_wp2_with fail
    go_ret
    exact ⟨rfl, hB.trans (b1.mono hB.size)⟩
  | true =>
    rw [hr] at RR
    have n1 : 1 ≤ n ∧ n ≤ 16777216 := by
      cases hh : hasb n with
      | false => rw [rightb_has hh] at hr; cases hr
      | true => obtain ⟨a, b, _⟩ := hasb_dvd hh; exact ⟨a, b⟩
    have E : Hid (∀ z, z = roomi k n m → Ending.returned (Value.int .i64 z) = .returned (.int .i64 (if true = true then roomi k n m else 0))) := Lib.hid (fun z h => by rw [if_pos rfl, h])
    clear hr
    generalize hW0 : W.alloc (.cells #[.int .i64 k, .int .i64 n, .int .i64 m, .int .i64 d] 82) = w0 at *
    by_cases hk3 : k = 3
    · subst hk3
      have HR := Lib.hid (show n - 1 = roomi 3 n m by unfold roomi; rw [if_pos rfl])
      go_enter Tryz.func50, Tryz.ntmps50
      go_wp2_with fail
      refine (RR.out _).mono ?_
      rintro e w1 ⟨rfl, b1⟩
      have c0 := (b1.cell (p := ⟨W.heap.size, 0, none⟩) hsz).trans (hcell 0 (by omega))
      have c1 := (b1.cell (p := ⟨W.heap.size, 1, none⟩) hsz).trans (hcell 1 (by omega))
      simp at c0 c1
      go_wp2_with fail
      go_ret
      exact ⟨E.out _ HR.out, hB.trans (b1.mono hB.size)⟩
    have e3 : (k == 3) = false := by simp; omega
    by_cases hk4 : k = 4
    · subst hk4
      have HR := Lib.hid (show m = roomi 4 n m by unfold roomi; rw [if_neg (by omega), if_pos rfl])
      go_enter Tryz.func50, Tryz.ntmps50
      go_wp2_with fail
      refine (RR.out _).mono ?_
      rintro e w1 ⟨rfl, b1⟩
      have c0 := (b1.cell (p := ⟨W.heap.size, 0, none⟩) hsz).trans (hcell 0 (by omega))
      have c1 := (b1.cell (p := ⟨W.heap.size, 2, none⟩) hsz).trans (hcell 2 (by omega))
      simp at c0 c1
      go_wp2_with fail
      go_ret
      exact ⟨E.out _ HR.out, hB.trans (b1.mono hB.size)⟩
    have e4 : (k == 4) = false := by simp; omega
    have HR := Lib.hid (show n = roomi k n m by unfold roomi; rw [if_neg hk3, if_neg hk4])
    go_enter Tryz.func50, Tryz.ntmps50
    go_wp2_with fail
    refine (RR.out _).mono ?_
    rintro e w1 ⟨rfl, b1⟩
    have c0 := (b1.cell (p := ⟨W.heap.size, 0, none⟩) hsz).trans (hcell 0 (by omega))
    have c1 := (b1.cell (p := ⟨W.heap.size, 1, none⟩) hsz).trans (hcell 1 (by omega))
    simp at c0 c1
    go_wp2_with fail
    go_ret
    exact ⟨E.out _ HR.out, hB.trans (b1.mono hB.size)⟩
end Go.Proofs.YtbhnlfgccldmaaaGreat
/- Names' room: out of Namc. -/
namespace Go.Proofs.YtbhnlfgccldmaaaGreat
open Go.ChangeShapes Go.WideShapes Go.ChangeAt Go.RowKit
set_option linter.unusedVariables false
end Go.Proofs.YtbhnlfgccldmaaaGreat
/- Package stock: a pass. -/
namespace Go.Proofs.YtbhnlfgccldmaaaGreat
open Go.ChangeShapes Go.WideShapes Go.ChangeAt Go.RowKit
set_option linter.unusedVariables false
/-- What a pass's function needs: where x, l and w lie. -/
structure St (W : World) (X Lb Wb BL n : Nat) (ax aw : Option Addr) (cx cw cl : Nat) (xs ws zs : List Int) : Prop where
  bx : Bx W X 25 (.slice ax n cx)
  bl : Bx W Lb 25 (.slice (some ⟨BL, 0, none⟩) n cl)
  bw : Bx W Wb 25 (.slice aw n cw)
  rx : Row W ax n xs
  rw : Row W aw n ws
  rl : RowAt W BL 62 zs
  zl : zs.length = n
  nx : ∀ x, ax = some x → x.block ≠ BL
  nw : ∀ x, aw = some x → x.block ≠ BL
  d : X ≠ BL ∧ Lb ≠ BL ∧ Wb ≠ BL
theorem St.but {W W' : World} {X Lb Wb BL n : Nat} {ax aw : Option Addr} {cx cw cl : Nat} {xs ws zs zs' : List Int} (h : St W X Lb Wb BL n ax aw cx cw cl xs ws zs) (hb : But W W' BL) (hr : RowAt W' BL 62 zs') (hz : zs'.length = n) : St W' X Lb Wb BL n ax aw cx cw cl xs ws zs' :=
  ⟨h.bx.but hb h.d.1, h.bl.but hb h.d.2.1, h.bw.but hb h.d.2.2, h.rx.but hb h.nx, h.rw.but hb h.nw, hr, hz, h.nx, h.nw, h.d⟩
attribute [local go_sem ↓] Go.wp_at_zero Go.wp_at_succ
/-- The cell's value, whatever it is. -/
def rdc (w : World) (p : Addr) : Value := (w.cell? p).getD (.int .u64 0)
theorem rdc_some {w : World} {p : Addr} {v : Value} (h : w.cell? p = some v) : w.cell? p = some (rdc w p) := by unfold rdc; rw [h]; rfl
/-- The row as it was, or with its place t written. -/
def Once (w : World) (B : Nat) (zs : List Int) (t : Nat) (v : Int) : Prop := RowAt w B 62 zs ∨ RowAt w B 62 (zs.set t v)
theorem Once.below {w w' : World} {B : Nat} {zs : List Int} {t : Nat} {v : Int} (h : Once w B zs t v) (hb : Below w.heap.size w w') : Once w' B zs t v := h.elim (fun h => .inl (h.below hb)) (fun h => .inr (h.below hb))
theorem Once.store {w : World} {B : Nat} {zs : List Int} {t : Nat} {v : Int} (h : Once w B zs t v) : RowAt (w.setCell ⟨B, t, none⟩ (.int .u64 v)) B 62 (zs.set t v) := by
  rcases h with h | h
  · exact h.set t v
  · have := h.set t v
    rwa [List.set_set] at this
theorem Once.cell {w : World} {B : Nat} {zs : List Int} {t : Nat} {v : Int} (h : Once w B zs t v) (ht : t < zs.length) : w.cell? ⟨B, t, none⟩ = some (rdc w ⟨B, t, none⟩) ∧ w.frozen? ⟨B, t, none⟩ = false := by
  rcases h with h | h
  · exact ⟨rdc_some (h.cell ht), h.free t⟩
  · exact ⟨rdc_some (h.cell (by simpa using ht)), h.free t⟩
/-- What a pair's second half reads, and where it writes. -/
structure Half (W1 w : World) (X Lb Wb BL n t : Nat) (b1 o1 b2 o2 cx cw cl a b p : Nat) (x y v u : Int) (zs : List Int) : Prop where
  on : Once w BL zs t u
  bt : But W1 w BL
theorem half_cells {W1 w : World} {X Lb Wb BL n t b1 o1 b2 o2 cx cw cl a b p : Nat} {x y v u : Int} {zs : List Int} (h : Half W1 w X Lb Wb BL n t b1 o1 b2 o2 cx cw cl a b p x y v u zs) (ht : t < zs.length)
    (hX : Bx W1 X 25 (.slice (some ⟨b1, o1, none⟩) n cx)) (hL : Bx W1 Lb 25 (.slice (some ⟨BL, 0, none⟩) n cl)) (hW : Bx W1 Wb 25 (.slice (some ⟨b2, o2, none⟩) n cw)) (d : X ≠ BL ∧ Lb ≠ BL ∧ Wb ≠ BL) (z1 : b1 < W1.heap.size) (n1 : b1 ≠ BL) (z2 : b2 < W1.heap.size) (n2 : b2 ≠ BL)
    (ca : W1.cell? ⟨b1, o1 + a, none⟩ = some (.int .u64 x)) (cb : W1.cell? ⟨b1, o1 + b, none⟩ = some (.int .u64 y)) (cp : W1.cell? ⟨b2, o2 + p, none⟩ = some (.int .u64 v)) :
    w.cell? ⟨X, 0, none⟩ = some (.slice (some ⟨b1, o1, none⟩) n cx) ∧ w.cell? ⟨Lb, 0, none⟩ = some (.slice (some ⟨BL, 0, none⟩) n cl) ∧ w.cell? ⟨Wb, 0, none⟩ = some (.slice (some ⟨b2, o2, none⟩) n cw) ∧
    w.cell? ⟨b1, o1 + a, none⟩ = some (.int .u64 x) ∧ w.cell? ⟨b1, o1 + b, none⟩ = some (.int .u64 y) ∧ w.cell? ⟨b2, o2 + p, none⟩ = some (.int .u64 v) ∧
    w.cell? ⟨BL, t, none⟩ = some (rdc w ⟨BL, t, none⟩) ∧ w.frozen? ⟨BL, t, none⟩ = false ∧ BL < w.heap.size :=
  ⟨(hX.but h.bt d.1).cell, (hL.but h.bt d.2.1).cell, (hW.but h.bt d.2.2).cell, (World.cell?_of_block (h.bt.o b1 z1 n1)).trans ca, (World.cell?_of_block (h.bt.o b1 z1 n1)).trans cb, (World.cell?_of_block (h.bt.o b2 z2 n2)).trans cp, (h.on.cell ht).1, (h.on.cell ht).2, h.on.elim (fun x => x.lt) (fun x => x.lt)⟩
theorem Half.below {W1 w w' : World} {X Lb Wb BL n t b1 o1 b2 o2 cx cw cl a b p : Nat} {x y v u : Int} {zs : List Int} (h : Half W1 w X Lb Wb BL n t b1 o1 b2 o2 cx cw cl a b p x y v u zs) (hb : Below w.heap.size w w') : Half W1 w' X Lb Wb BL n t b1 o1 b2 o2 cx cw cl a b p x y v u zs := ⟨h.on.below hb, h.bt.trans (But.of_below _ hb)⟩
theorem Half.store {W1 w : World} {X Lb Wb BL n t b1 o1 b2 o2 cx cw cl a b p : Nat} {x y v u : Int} {zs : List Int} (h : Half W1 w X Lb Wb BL n t b1 o1 b2 o2 cx cw cl a b p x y v u zs) : Half W1 (w.setCell ⟨BL, t, none⟩ (.int .u64 u)) X Lb Wb BL n t b1 o1 b2 o2 cx cw cl a b p x y v u zs := ⟨.inr h.on.store, h.bt.trans (But.set _ _ _ _)⟩
/-- What a pair's turn leaves. -/
def Turned (W : World) (X Lb Wb BL n : Nat) (ax aw : Option Addr) (cx cw cl : Nat) (xs ws zs : List Int) (e : Ending) (W' : World) : Prop := e = .returned (.tuple #[]) ∧ St W' X Lb Wb BL n ax aw cx cw cl xs ws zs ∧ But W W' BL
set_option maxRecDepth 100000 in
set_option maxHeartbeats 4000000 in
theorem into_pair (X Lb Wb BL n : Nat) (ax aw : Option Addr) (cx cw cl : Nat) (xs ws zs : List Int) (a b s t p : Nat) (W : World) (ha : a < n) (hb : b < n) (hs : s < n) (ht : t < n) (hp : p < n) (hst : s ≠ t) (h : St W X Lb Wb BL n ax aw cx cw cl xs ws zs) :
    Calls Tryz.prog 208 #[.int .i64 a, .int .i64 b, .int .i64 s, .int .i64 t, .int .i64 p, .pointer (some ⟨X, 0, none⟩), .pointer (some ⟨Lb, 0, none⟩), .pointer (some ⟨Wb, 0, none⟩)] W
      (Turned W X Lb Wb BL n ax aw cx cw cl xs ws ((zs.set s (fm (xs.getD a 0 + xs.getD b 0))).set t (fm (fm (xs.getD a 0 - xs.getD b 0) * ws.getD p 0)))) := by
  have hsm := h.rx.small
  obtain ⟨b1, o1, rfl, z1, c1, x0, x1⟩ := h.rx.cell ha
  obtain ⟨b1', o1', e1, z1', c2, y0, y1⟩ := h.rx.cell hb
  cases e1
  obtain ⟨b2, o2, rfl, z2, c3, v0, v1⟩ := h.rw.cell hp
  have n1 : b1 ≠ BL := h.nx _ rfl
  have n2 : b2 ≠ BL := h.nw _ rfl
  have cX := h.bx.cell
  have cL := h.bl.cell
  have cW := h.bw.cell
  have zX := h.bx.lt
  have zL := h.bl.lt
  have zW := h.bw.lt
  have zB := h.rl.lt
  have uS := h.rl.cell (k := s) (by rw [h.zl]; exact hs)
  have fS := h.rl.free s
  have HH := Lib.hid h
  have q0 := fm_lo (xs.getD a 0 - xs.getD b 0)
  have q1 := fm_hi (xs.getD a 0 - xs.getD b 0)
  obtain ⟨dX, dL, dW⟩ := h.d
  have hzl := h.zl
  generalize zs.getD s 0 = us at uS
  clear h
  obtain ⟨x, hx⟩ : ∃ x, xs.getD a 0 = x := ⟨_, rfl⟩
  obtain ⟨y, hy⟩ : ∃ y, xs.getD b 0 = y := ⟨_, rfl⟩
  obtain ⟨v, hv⟩ : ∃ v, ws.getD p 0 = v := ⟨_, rfl⟩
  rw [hx] at c1 x0 x1 q0 q1 ⊢
  rw [hy] at c2 y0 y1 q0 q1 ⊢
  rw [hv] at c3 v0 v1 ⊢
  have XA := Lib.hid hx
  have XB := Lib.hid hy
  have XV := Lib.hid hv
  clear hx hy hv
  have ia0 : (0 : Int) ≤ (a : Int) := by omega
  have ia1 : (a : Int) < (n : Int) := by omega
  have ib0 : (0 : Int) ≤ (b : Int) := by omega
  have ib1 : (b : Int) < (n : Int) := by omega
  have is0 : (0 : Int) ≤ (s : Int) := by omega
  have is1 : (s : Int) < (n : Int) := by omega
  have it0 : (0 : Int) ≤ (t : Int) := by omega
  have it1 : (t : Int) < (n : Int) := by omega
  have ip0 : (0 : Int) ≤ (p : Int) := by omega
  have ip1 : (p : Int) < (n : Int) := by omega
  go_enter Tryz.func208, Tryz.ntmps208
  go_wp2_with fail
  refine wp_region_still_tail 12 (by kernel_rfl) (by kernel_rfl) ?_
  simp only [List.take_succ_cons, List.take_zero, List.drop_succ_cons, List.drop_zero]
  iterate 10 still_step
  still_call ((gold_add x y _ x0 x1 y0 y1).mono fun e w' ⟨he, hw⟩ => ⟨he, hw.symm⟩)
  still_step
  refine wpStill_nil ?_
  go_wp2_with fail
  have K1 := (But.set W BL s (.int .u64 (fm (x + y)))).trans (But.drew _ _)
  have R1 : RowAt (W.setCell ⟨BL, s, none⟩ (.int .u64 (fm (x + y)))).drew BL 62 (zs.set s (fm (x + y))) := (HH.out.rl.set s _).drew
  have S1 := Lib.hid (HH.out.but K1 R1 (by rw [List.length_set]; exact hzl))
  have K1' := Lib.hid K1
  clear HH K1 R1 cX cL cW uS fS zX zL zW zB c1 c2 c3
  have w1 : b1 < (W.setCell ⟨BL, s, none⟩ (.int .u64 (fm (x + y)))).drew.heap.size := by simpa using z1
  have w2 : b2 < (W.setCell ⟨BL, s, none⟩ (.int .u64 (fm (x + y)))).drew.heap.size := by simpa using z2
  generalize (W.setCell ⟨BL, s, none⟩ (.int .u64 (fm (x + y)))).drew = W1 at *
  have hlz : (zs.set s (fm (x + y))).length = n := by rw [List.length_set]; exact hzl
  have ca : W1.cell? ⟨b1, o1 + a, none⟩ = some (.int .u64 x) := by
    obtain ⟨b', o', e', _, h', _, _⟩ := S1.out.rx.cell ha
    cases e'
    rw [h', XA.out]
  have cb : W1.cell? ⟨b1, o1 + b, none⟩ = some (.int .u64 y) := by
    obtain ⟨b', o', e', _, h', _, _⟩ := S1.out.rx.cell hb
    cases e'
    rw [h', XB.out]
  have cp : W1.cell? ⟨b2, o2 + p, none⟩ = some (.int .u64 v) := by
    obtain ⟨b', o', e', _, h', _, _⟩ := S1.out.rw.cell hp
    cases e'
    rw [h', XV.out]
  have HK := Lib.hid (fun w' (h : Half W1 w' X Lb Wb BL n t b1 o1 b2 o2 cx cw cl a b p x y v (fm (fm (x - y) * v)) (zs.set s (fm (x + y)))) => And.intro h (half_cells h (by rw [hlz]; exact ht) S1.out.bx S1.out.bl S1.out.bw S1.out.d w1 n1 w2 n2 ca cb cp))
  have H0 := Lib.hid (show Half W1 W1.drew X Lb Wb BL n t b1 o1 b2 o2 cx cw cl a b p x y v (fm (fm (x - y) * v)) (zs.set s (fm (x + y))) from ⟨.inl S1.out.rl.drew, But.drew _ _⟩)
  clear hlz ca cb cp
  go_region_held3 (fun w' => Half W1 w' X Lb Wb BL n t b1 o1 b2 o2 cx cw cl a b p x y v (fm (fm (x - y) * v)) (zs.set s (fm (x + y))) ∧ w'.cell? ⟨X, 0, none⟩ = some (.slice (some ⟨b1, o1, none⟩) n cx) ∧ w'.cell? ⟨Lb, 0, none⟩ = some (.slice (some ⟨BL, 0, none⟩) n cl) ∧ w'.cell? ⟨Wb, 0, none⟩ = some (.slice (some ⟨b2, o2, none⟩) n cw) ∧ w'.cell? ⟨b1, o1 + a, none⟩ = some (.int .u64 x) ∧ w'.cell? ⟨b1, o1 + b, none⟩ = some (.int .u64 y) ∧ w'.cell? ⟨b2, o2 + p, none⟩ = some (.int .u64 v) ∧ w'.cell? ⟨BL, t, none⟩ = some (rdc w' ⟨BL, t, none⟩) ∧ w'.frozen? ⟨BL, t, none⟩ = false ∧ BL < w'.heap.size) (first | exact HK.out _ H0.out | assumption | exact HK.out _ ((by assumption : Half W1 _ X Lb Wb BL n t b1 o1 b2 o2 cx cw cl a b p x y v (fm (fm (x - y) * v)) (zs.set s (fm (x + y))) ∧ _).1.below hb2) | exact HK.out _ ((by assumption : Half W1 _ X Lb Wb BL n t b1 o1 b2 o2 cx cw cl a b p x y v (fm (fm (x - y) * v)) (zs.set s (fm (x + y))) ∧ _).1.store)) (first | (go_at_call 206; (with_reducible refine (gold_sub _ _ _ x0 x1 y0 y1).mono ?_); rintro e w' ⟨rfl, rfl⟩) | (go_at_call 81; (with_reducible refine (gold_mul _ _ _ q0 (by omega) v0 v1).mono ?_); rintro e w3 ⟨rfl, hb2⟩))
  have H2 := H0.out.below hb2
  have KK := H2.store.bt
  have RR := H2.on.store
  have E := Lib.hid (S1.out.but KK RR (by rw [List.length_set, List.length_set]; exact hzl))
  have KK' := Lib.hid (K1'.out.trans KK)
  clear H2 KK RR
  go_wp2_with fail
  go_end0
  exact ⟨rfl, E.out, KK'.out⟩
end Go.Proofs.YtbhnlfgccldmaaaGreat
/- Package stock: all pairs of a pass. -/
namespace Go.Proofs.YtbhnlfgccldmaaaGreat
open Go.ChangeShapes Go.WideShapes Go.ChangeAt Go.RowKit
set_option linter.unusedVariables false
/-- What a pass leaves at the place k. -/
def pk (xs ws : List Int) (s n k : Nat) : Int :=
  if k / s % 2 = 0 then fm (xs.getD (k % s + s * (k / s / 2)) 0 + xs.getD (k % s + s * (k / s / 2) + n / 2) 0)
  else fm (fm (xs.getD (k % s + s * (k / s / 2)) 0 - xs.getD (k % s + s * (k / s / 2) + n / 2) 0) * ws.getD (k / s / 2 * s) 0)
def passl (xs ws : List Int) (s n : Nat) : List Int := (List.range n).map (pk xs ws s n)
theorem passl_len (xs ws : List Int) (s n : Nat) : (passl xs ws s n).length = n := by unfold passl; simp
theorem passl_at (xs ws : List Int) (s n k : Nat) (h : k < n) : (passl xs ws s n).getD k 0 = pk xs ws s n k := by unfold passl; simp [List.getD, h]
theorem pk_lo (xs ws : List Int) (s n k : Nat) : 0 ≤ pk xs ws s n k := by unfold pk; split <;> exact fm_lo _
theorem pk_hi (xs ws : List Int) (s n k : Nat) : pk xs ws s n k ≤ 18446744069414584320 := by unfold pk; split <;> exact fm_hi _
theorem passl_wf (xs ws : List Int) (s n : Nat) : ∀ z ∈ passl xs ws s n, (Lit.int .u64 z).wf = true := by
  intro z hz
  unfold passl at hz
  obtain ⟨k, _, rfl⟩ := List.mem_map.1 hz
  exact WalkArith.wf_u64 ⟨pk_lo _ _ _ _ _, by have := pk_hi xs ws s n k; omega⟩
theorem even_at (q s i : Nat) (hq : q < s) : (q + s * 2 * i) % s = q ∧ (q + s * 2 * i) / s = 2 * i := by
  have e : s * 2 * i = s * (2 * i) := Nat.mul_assoc _ _ _
  rw [e]
  exact ⟨by rw [Nat.add_mul_mod_self_left, Nat.mod_eq_of_lt hq], by rw [Nat.add_mul_div_left _ _ (by omega), Nat.div_eq_of_lt hq, Nat.zero_add]⟩
theorem odd_at (q s i : Nat) (hq : q < s) : (q + s * (2 * i + 1)) % s = q ∧ (q + s * (2 * i + 1)) / s = 2 * i + 1 :=
  ⟨by rw [Nat.add_mul_mod_self_left, Nat.mod_eq_of_lt hq], by rw [Nat.add_mul_div_left _ _ (by omega), Nat.div_eq_of_lt hq, Nat.zero_add]⟩
theorem half_n (s h : Nat) : 2 * s * h / 2 = s * h := by rw [Nat.mul_assoc]; omega
theorem pk_even (xs ws : List Int) (q s i h : Nat) (hq : q < s) : pk xs ws s (2 * s * h) (q + s * 2 * i) = fm (xs.getD (q + s * i) 0 + xs.getD (q + s * (i + h)) 0) := by
  obtain ⟨e1, e2⟩ := even_at q s i hq
  unfold pk
  rw [e1, e2, if_pos (by omega), half_n, show 2 * i / 2 = i by omega, Nat.mul_add, Nat.add_assoc]
theorem pk_odd (xs ws : List Int) (q s i h : Nat) (hq : q < s) : pk xs ws s (2 * s * h) (q + s * (2 * i + 1)) = fm (fm (xs.getD (q + s * i) 0 - xs.getD (q + s * (i + h)) 0) * ws.getD (i * s) 0) := by
  obtain ⟨e1, e2⟩ := odd_at q s i hq
  unfold pk
  rw [e1, e2, if_neg (by omega), half_n, show (2 * i + 1) / 2 = i by omega, Nat.mul_add, Nat.add_assoc]
/-- The first i rounds, and q pairs of the next one, are done. -/
def Upto (xs ws zs : List Int) (s n i q : Nat) : Prop := ∀ k, k < n → (k / s < 2 * i ∨ (k / s < 2 * i + 2 ∧ k % s < q)) → zs.getD k 0 = pk xs ws s n k
theorem upto_start (xs ws zs : List Int) (s n : Nat) : Upto xs ws zs s n 0 0 := fun k _ h => (h.elim (fun h => absurd h (Nat.not_lt_zero _)) (fun h => absurd h.2 (Nat.not_lt_zero _)))
theorem upto_next (xs ws zs : List Int) (s n i : Nat) (h : Upto xs ws zs s n i s) (hs : 0 < s) : Upto xs ws zs s n (i + 1) 0 := fun k hk h' => by
  have hm := Nat.mod_lt k hs
  by_cases c : k / s < 2 * i
  · exact h k hk (.inl c)
  · exact h k hk (.inr ⟨by omega, hm⟩)
theorem upto_done (xs ws zs : List Int) (s h : Nat) (hs : 0 < s) (hz : zs.length = 2 * s * h) (hu : Upto xs ws zs s (2 * s * h) h 0) : zs = passl xs ws s (2 * s * h) := by
  apply List.ext_getElem (by rw [hz, passl_len])
  intro k h1 h2
  have hk : k < 2 * s * h := by omega
  have hd : k / s < 2 * h := by
    rw [Nat.div_lt_iff_lt_mul hs]
    have : 2 * h * s = 2 * s * h := by rw [Nat.mul_assoc, Nat.mul_comm h s, ← Nat.mul_assoc]
    omega
  have := hu k hk (.inl hd)
  rw [← passl_at xs ws s _ k hk] at this
  simpa [List.getD, h1, h2] using this
theorem upto_pair (xs ws zs : List Int) (s h i q : Nat) (hq : q < s) (hi : i < h) (hz : zs.length = 2 * s * h) (hu : Upto xs ws zs s (2 * s * h) i q) :
    Upto xs ws ((zs.set (q + s * 2 * i) (fm (xs.getD (q + s * i) 0 + xs.getD (q + s * (i + h)) 0))).set (q + s * (2 * i + 1)) (fm (fm (xs.getD (q + s * i) 0 - xs.getD (q + s * (i + h)) 0) * ws.getD (i * s) 0))) s (2 * s * h) i (q + 1) := by
  intro k hk hd
  obtain ⟨e1, e2⟩ := even_at q s i hq
  obtain ⟨o1, o2⟩ := odd_at q s i hq
  have key := Nat.div_add_mod k s
  by_cases c1 : k = q + s * (2 * i + 1)
  · rw [c1, getD_set_same (by rw [List.length_set, hz]; omega), pk_odd xs ws q s i h hq]
  · rw [getD_set_ne c1]
    by_cases c2 : k = q + s * 2 * i
    · rw [c2, getD_set_same (by rw [hz]; omega), pk_even xs ws q s i h hq]
    · rw [getD_set_ne c2]
      refine hu k hk ?_
      rcases hd with hd | ⟨hd, hm⟩
      · exact .inl hd
      · by_cases c3 : k / s < 2 * i
        · exact .inl c3
        · refine .inr ⟨hd, ?_⟩
          have hne : k % s ≠ q := by
            intro e
            have hcase : k / s = 2 * i ∨ k / s = 2 * i + 1 := by omega
            rcases hcase with hc | hc
            · apply c2; rw [← key, hc, e, Nat.mul_assoc]; omega
            · apply c1; rw [← key, hc, e]; omega
          omega
theorem prod_facts (s h i q n : Nat) (hn : 2 * s * h = n) (hi : i < h) (hq : q < s) : q + s * i < n ∧ q + s * (i + h) < n ∧ q + s * 2 * i < n ∧ q + s * (2 * i + 1) < n ∧ i * s < n ∧ s * i ≤ n ∧ s * (i + h) ≤ n ∧ s * 2 * i ≤ n ∧ s * (2 * i + 1) ≤ n := by
  have a1 : s * (i + 1) ≤ s * h := Nat.mul_le_mul_left s (by omega)
  have e1 : s * (i + 1) = s * i + s := by rw [Nat.mul_add, Nat.mul_one]
  have e2 : s * (i + h) = s * i + s * h := Nat.mul_add _ _ _
  have e3 : s * 2 * i = 2 * (s * i) := by rw [Nat.mul_comm s 2, Nat.mul_assoc]
  have e4 : s * (2 * i + 1) = 2 * (s * i) + s := by rw [Nat.mul_add, Nat.mul_one, ← Nat.mul_assoc, Nat.mul_comm s 2, Nat.mul_assoc]
  have e5 : i * s = s * i := Nat.mul_comm _ _
  have e6 : n = 2 * (s * h) := by rw [← hn, Nat.mul_assoc]
  omega
end Go.Proofs.YtbhnlfgccldmaaaGreat
/- Package stock: a pass. -/
namespace Go.Proofs.YtbhnlfgccldmaaaGreat
open Go.ChangeShapes Go.WideShapes Go.ChangeAt Go.RowKit
set_option linter.unusedVariables false
abbrev stF (X Lb Wb : Nat) : Value := .func (.func 208) #[] #[.pointer (some ⟨X, 0, none⟩), .pointer (some ⟨Lb, 0, none⟩), .pointer (some ⟨Wb, 0, none⟩)]
def Ran (W : World) (X Lb Wb BL n : Nat) (ax aw : Option Addr) (cx cw cl : Nat) (xs ws zs : List Int) (e : Ending) (W' : World) : Prop := e = .returned (.tuple #[]) ∧ St W' X Lb Wb BL n ax aw cx cw cl xs ws zs ∧ But W W' BL
theorem but_drewN (W : World) (q B : Nat) : But W (W.drewN q) B := But.of_below B (below_drewN (Below.refl _ _) q)
set_option maxRecDepth 100000 in
set_option maxHeartbeats 4000000 in
theorem pass_run (X Lb Wb BL s h n : Nat) (ax aw : Option Addr) (cx cw cl : Nat) (xs ws zs : List Int) (W : World) (hn : 2 * s * h = n) (hs : 0 < s) (hh : 0 < h) (hsm : n ≤ 16777216) (hS : St W X Lb Wb BL n ax aw cx cw cl xs ws zs) :
    Calls Tryz.prog 209 #[.agg #[.int .i64 n, .int .i64 s, stF X Lb Wb]] W (Ran W X Lb Wb BL n ax aw cx cw cl xs ws (passl xs ws s n)) := by
  have hle : s ≤ n := by rw [← hn, Nat.mul_comm 2 s, Nat.mul_assoc]; exact Nat.le_mul_of_pos_right s (by omega)
  have hhl : h ≤ n := by rw [← hn]; exact Nat.le_mul_of_pos_left h (by omega)
  have hdiv : n / 2 / s = h := by rw [← hn, half_n, Nat.mul_div_cancel_left h hs]
  have BZ := hS.rl.lt
  have hW0 : (W.alloc (.cells #[.int .i64 n, .int .i64 s, stF X Lb Wb] 197)).heap[W.heap.size]? = some (.cells #[.int .i64 n, .int .i64 s, stF X Lb Wb] 197 (0, 0)) := heap_alloc_new _ _
  have p0 : (W.alloc (.cells #[.int .i64 n, .int .i64 s, stF X Lb Wb] 197)).cell? ⟨W.heap.size, 0, none⟩ = some (.int .i64 n) := by rw [cell_of_row _ _ 0 _ _ _ hW0]; rfl
  have p1 : (W.alloc (.cells #[.int .i64 n, .int .i64 s, stF X Lb Wb] 197)).cell? ⟨W.heap.size, 1, none⟩ = some (.int .i64 s) := by rw [cell_of_row _ _ 1 _ _ _ hW0]; rfl
  have HP := Lib.hid (fun w' (hb : But (W.alloc (.cells #[.int .i64 n, .int .i64 s, stF X Lb Wb] 197)) w' BL) => show w'.cell? ⟨W.heap.size, 2, none⟩ = some (stF X Lb Wb) from (World.cell?_of_block (hb.o W.heap.size (by simp) (by omega))).trans (by rw [cell_of_row _ _ 2 _ _ _ hW0]; rfl))
  have B0 := Lib.hid (But.of_below BL ((Below.refl W.heap.size W).alloc (Nat.le_refl _) (.cells #[.int .i64 n, .int .i64 s, stF X Lb Wb] 197)))
  have S0 := Lib.hid (hS.but B0.out (hS.rl.alloc _) hS.zl)
  have hnz : ((s : Int) == 0) = false := by simp; omega
  have hnz2 : ¬ ((s : Int) = 0) := by omega
  have hnz3 : ¬ (s = 0) := by omega
  have HQ := Lib.hid (show (n : Int) / 2 / (s : Int) = (h : Int) by rw [← hdiv]; rfl)
  have PS := Lib.hid hn
  have HN := Lib.hid hn
  have PZ : W.heap.size < (W.alloc (.cells #[.int .i64 n, .int .i64 s, stF X Lb Wb] 197)).heap.size := by simp
  clear hW0 hS hdiv hn
  go_enter Tryz.func209, Tryz.ntmps209
  go_wp2_with fail
  go_quiet (fail)
  go_wp2_with fail
  have HP1 := Lib.hid (fun q w' (hb : But ((W.alloc (.cells #[.int .i64 n, .int .i64 s, stF X Lb Wb] 197)).drewN q) w' BL) => HP.out w' ((but_drewN _ q BL).trans hb))
  have B1 := Lib.hid (fun q => B0.out.trans (but_drewN (W.alloc (.cells #[.int .i64 n, .int .i64 s, stF X Lb Wb] 197)) q BL))
  have S1 := Lib.hid (fun q => S0.out.but (but_drewN (W.alloc (.cells #[.int .i64 n, .int .i64 s, stF X Lb Wb] 197)) q BL) S0.out.rl S0.out.zl)
  clear HP B0 S0 p0 p1
  rw [HQ.out]
  have HP2 := Lib.hid (HP1.out nq)
  have B2 := Lib.hid (B1.out nq)
  have S2 := Lib.hid (S1.out nq)
  clear HP1 B1 S1
  replace PZ : W.heap.size < ((W.alloc (.cells #[.int .i64 n, .int .i64 s, stF X Lb Wb] 197)).drewN nq).heap.size := PZ
  generalize (W.alloc (.cells #[.int .i64 n, .int .i64 s, stF X Lb Wb] 197)).drewN nq = W1 at *
  go_loopw [15, 4, 5, 19] (fun i _ _ _ wr => ∃ (k : Nat) (zs : List Int), k ≤ h ∧ i = .int .i64 k ∧ Hid (St wr X Lb Wb BL n ax aw cx cw cl xs ws zs) ∧ Hid (Upto xs ws zs s n k 0) ∧ Hid (But W1 wr BL)) (fun i _ _ _ _ => h - (intOf i).toNat)
  case atStart => exact ⟨0, zs, Nat.zero_le _, rfl, S2, Lib.hid (upto_start _ _ _ _ _), Lib.hid (But.refl _ _)⟩
  case round =>
    clear S2
    obtain ⟨k, zs, hk, rfl, SS, UU, BB⟩ := hrel
    by_cases hlt : k < h
    · have hd : decide ((k : Int) < (h : Int)) = true := decide_eq_true (by omega)
      go_wp2_with fail
      obtain ⟨wo, rfl⟩ : ∃ wo : World, wo = wr := ⟨_, rfl⟩
      go_loopw [19, 5] (fun i _ wr => ∃ (q : Nat) (zs : List Int), q ≤ s ∧ i = .int .i64 q ∧ Hid (St wr X Lb Wb BL n ax aw cx cw cl xs ws zs) ∧ Hid (Upto xs ws zs s n k q) ∧ Hid (But W1 wr BL)) (fun i _ _ => s - (intOf i).toNat)
      case atStart => exact ⟨0, zs, Nat.zero_le _, rfl, SS, UU, BB⟩
      case round =>
        clear SS UU BB
        obtain ⟨q, zs, hq, rfl, SS, UU, BB⟩ := hrel
        by_cases hlt2 : q < s
        · obtain ⟨f1, f2, f3, f4, f5, f6, f7, f8, f9⟩ := prod_facts s h k q n HN.out hlt hlt2
          have cP := HP2.out wr BB.out
          have hz := SS.out.zl
          have IP := fun w h' => into_pair X Lb Wb BL n ax aw cx cw cl xs ws zs (q + s * k) (q + s * (k + h)) (q + s * 2 * k) (q + s * (2 * k + 1)) (k * s) w f1 f2 f3 f4 f5 (by
            intro e
            have e3 : s * 2 * k = s * (2 * k) := Nat.mul_assoc _ _ _
            rw [e3, Nat.mul_add] at e
            omega) h'
          have U2 := Lib.hid (show Upto xs ws _ s n k (q + 1) by
            have := upto_pair xs ws zs s h k q hlt2 hlt (by rw [hz, HN.out]) (by rw [HN.out]; exact UU.out)
            rw [HN.out] at this
            exact this)
          have c1 : ((q + s * k : Nat) : Int) = (q : Int) + (s : Int) * (k : Int) := by push_cast; rfl
          have c2 : ((q + s * (k + h) : Nat) : Int) = (q : Int) + (s : Int) * ((k : Int) + (h : Int)) := by push_cast; rfl
          have c3 : ((q + s * 2 * k : Nat) : Int) = (q : Int) + (s : Int) * 2 * (k : Int) := by push_cast; rfl
          have c4 : ((q + s * (2 * k + 1) : Nat) : Int) = (q : Int) + (s : Int) * (2 * (k : Int) + 1) := by push_cast; rfl
          have c5 : ((k * s : Nat) : Int) = (k : Int) * (s : Int) := by push_cast; rfl
          rw [c1, c2, c3, c4, c5] at IP
          have IP' := Lib.hid IP
          have m1 : (s : Int) * (k : Int) ≤ 16777216 := by have : ((s * k : Nat) : Int) = (s : Int) * (k : Int) := by push_cast; rfl
                                                           omega
          have m1' : 0 ≤ (s : Int) * (k : Int) := Int.mul_nonneg (by omega) (by omega)
          have m2 : (s : Int) * ((k : Int) + (h : Int)) ≤ 16777216 := by have : ((s * (k + h) : Nat) : Int) = (s : Int) * ((k : Int) + (h : Int)) := by push_cast; rfl
                                                                         omega
          have m2' : 0 ≤ (s : Int) * ((k : Int) + (h : Int)) := Int.mul_nonneg (by omega) (by omega)
          have m3 : (s : Int) * 2 * (k : Int) ≤ 16777216 := by have : ((s * 2 * k : Nat) : Int) = (s : Int) * 2 * (k : Int) := by push_cast; rfl
                                                               omega
          have m3' : 0 ≤ (s : Int) * 2 * (k : Int) := Int.mul_nonneg (by omega) (by omega)
          have m4 : (s : Int) * (2 * (k : Int) + 1) ≤ 16777216 := by have : ((s * (2 * k + 1) : Nat) : Int) = (s : Int) * (2 * (k : Int) + 1) := by push_cast; rfl
                                                                     omega
          have m4' : 0 ≤ (s : Int) * (2 * (k : Int) + 1) := Int.mul_nonneg (by omega) (by omega)
          have m5 : (k : Int) * (s : Int) ≤ 16777216 := by omega
          have m5' : 0 ≤ (k : Int) * (s : Int) := Int.mul_nonneg (by omega) (by omega)
          clear c1 c2 c3 c4 c5 IP hz
          have hd2 : decide ((q : Int) < (s : Int)) = true := decide_eq_true (by omega)
          have PZ2 : W.heap.size < wr.heap.size := Nat.lt_of_lt_of_le PZ BB.out.z
          go_wp2_with fail
          refine (IP'.out _ SS.out).mono ?_
          rintro e w1 ⟨rfl, s1, b1⟩
          have SS2 := Lib.hid s1
          have BB2 := Lib.hid (BB.out.trans b1)
          clear s1 b1 cP IP'
          go_wp2_with fail
          go_roundw
          case rel => exact ⟨q + 1, _, by omega, by go_num, SS2, U2, BB2⟩
          case measure => (first | (simp [intOf]; done) | (simp [intOf]; omega) | (simp only [intOf]; omega))
        · obtain rfl : q = s := by omega
          have hd2 : decide ((q : Int) < (q : Int)) = false := decide_eq_false (by omega)
          have U2 := Lib.hid (upto_next _ _ _ _ _ _ UU.out hs)
          go_wp2_with fail
          go_roundw
          case rel => exact ⟨k + 1, zs, by omega, by go_num, SS, U2, BB⟩
          case measure => (first | (simp [intOf]; done) | (simp [intOf]; omega) | (simp only [intOf]; omega))
    · obtain rfl : k = h := by omega
      have hd : decide ((k : Int) < (k : Int)) = false := decide_eq_false (by omega)
      have E := Lib.hid (show zs = passl xs ws s n by
        have := upto_done xs ws zs s k hs (by rw [SS.out.zl, HN.out]) (by rw [HN.out]; exact UU.out)
        rw [HN.out] at this
        exact this)
      go_wp2_with fail
      go_end0
      exact ⟨rfl, by rw [← E.out]; exact SS.out, B2.out.trans BB.out⟩
end Go.Proofs.YtbhnlfgccldmaaaGreat
/- Reference 5's Rev and Turn. -/
namespace Go.Proofs.YtbhnlfgccldmaaaGreat
open Go.ChangeShapes Go.WideShapes Go.ChangeAt Go.RowKit
set_option linter.unusedVariables false
theorem Row.drop {w : World} {b off n : Nat} {xs : List Int} (h : Row w (some ⟨b, off, none⟩) n xs) (t : Nat) (ht : t < n) : Row w (some ⟨b, off + t, none⟩) (n - t) (xs.drop t) := by
  refine ⟨by rw [List.length_drop, h.len], ?_, fun x hx => h.wf x (List.mem_of_mem_drop hx), by have := h.small; omega⟩
  rcases h.reads with hn | ⟨b', off', e, hb, hc⟩
  · have := h.len; rw [hn] at this; simp at this; omega
  · cases e
    refine .inr ⟨b, off + t, rfl, hb, fun i hi => ?_⟩
    rw [List.length_drop] at hi
    rw [Nat.add_assoc, hc (t + i) (by omega)]
    simp [List.getD]
theorem Row.take {w : World} {p : Option Addr} {n : Nat} {xs : List Int} (h : Row w p n xs) (t : Nat) (ht : t ≤ n) : Row w p t (xs.take t) := by
  refine ⟨by rw [List.length_take, h.len]; omega, ?_, fun x hx => h.wf x (List.mem_of_mem_take hx), by have := h.small; omega⟩
  rcases h.reads with hn | ⟨b', off', e, hb, hc⟩
  · exact .inl (by rw [hn]; simp)
  · refine .inr ⟨b', off', e, hb, fun i hi => ?_⟩
    rw [List.length_take] at hi
    rw [hc i (by omega)]
    have h1 : i < t := by omega
    simp [List.getD, h1]
theorem revl_wf (xs : List Int) : ∀ z ∈ revl xs, (Lit.int .u64 z).wf = true := by
  intro z hz
  unfold revl at hz
  obtain ⟨x, _, rfl⟩ := List.mem_map.1 hz
  exact WalkArith.wf_u64 ⟨fm_lo _, fm_hi' _⟩
theorem c_rev {w : World} {p : Option Addr} {n c : Nat} {xs : List Int} (h : Row w p n xs) : Calls Tryz.prog 199 #[.slice p n c] w (Gives w n (revl xs)) := by
  obtain ⟨rfl, hr, hw, hs⟩ := h
  exact (vec_rev p c xs w hr hw (by omega)).mono fun e w' ⟨he, hq, hb⟩ => gives_at he hq hb (revl_wf _) (revl_len _) hs
end Go.Proofs.YtbhnlfgccldmaaaGreat
/- Package stock: into, Pass; the document's pass. -/
namespace Go.Proofs.YtbhnlfgccldmaaaGreat
open Go.ChangeShapes Go.WideShapes Go.ChangeAt Go.RowKit
set_option linter.unusedVariables false
attribute [local go_sem ↓] Go.wp_at_zero Go.wp_at_succ
def Into (W : World) (BL : Nat) (zs : List Int) (e : Ending) (W' : World) : Prop := e = .returned (.tuple #[]) ∧ RowAt W' BL 62 zs ∧ But W W' BL
set_option maxRecDepth 100000 in
theorem stock_into (BL s h n : Nat) (ax aw : Option Addr) (cl cx cw : Nat) (xs ws zs : List Int) (W : World) (hn : 2 * s * h = n) (hs : 0 < s) (hh : 0 < h) (hsm : n ≤ 16777216) (hx : Row W ax n xs) (hw : Row W aw n ws) (hr : RowAt W BL 62 zs) (hz : zs.length = n) (nx : ∀ x, ax = some x → x.block ≠ BL) (nw : ∀ x, aw = some x → x.block ≠ BL) :
    Calls Tryz.prog 193 #[.slice (some ⟨BL, 0, none⟩) n cl, .slice ax n cx, .int .i64 s, .slice aw n cw] W (Into W BL (passl xs ws s n)) := by
  have BZ := hr.lt
  have W3 : ∀ W3, W3 = ((W.alloc (.cells #[.slice (some ⟨BL, 0, none⟩) n cl] 25)).alloc (.cells #[.slice ax n cx] 25)).alloc (.cells #[.slice aw n cw] 25) → St W3 (W.heap.size + 1) W.heap.size (W.heap.size + 1 + 1) BL n ax aw cx cw cl xs ws zs ∧ But W W3 BL := by
    rintro _ rfl
    have b1 := Below.refl W.heap.size W
    have hb : Below W.heap.size W (((W.alloc (.cells #[.slice (some ⟨BL, 0, none⟩) n cl] 25)).alloc (.cells #[.slice ax n cx] 25)).alloc (.cells #[.slice aw n cw] 25)) := ((b1.alloc (Nat.le_refl _) _).alloc (by simp) _).alloc (by simp; omega) _
    refine ⟨⟨?_, ?_, ?_, hx.below hb, hw.below hb, hr.below hb, hz, nx, nw, by omega⟩, But.of_below _ hb⟩
    · have := Bx.new (W.alloc (.cells #[.slice (some ⟨BL, 0, none⟩) n cl] 25)) 25 (.slice ax n cx) _ rfl
      rw [show (W.alloc (.cells #[.slice (some ⟨BL, 0, none⟩) n cl] 25)).heap.size = W.heap.size + 1 by simp] at this
      exact this.alloc _
    · exact ((Bx.new W 25 (.slice (some ⟨BL, 0, none⟩) n cl) _ rfl).alloc _).alloc _
    · have := Bx.new ((W.alloc (.cells #[.slice (some ⟨BL, 0, none⟩) n cl] 25)).alloc (.cells #[.slice ax n cx] 25)) 25 (.slice aw n cw) _ rfl
      rw [show ((W.alloc (.cells #[.slice (some ⟨BL, 0, none⟩) n cl] 25)).alloc (.cells #[.slice ax n cx] 25)).heap.size = W.heap.size + 1 + 1 by simp] at this
      exact this
  have W3h := Lib.hid W3
  have R := Lib.hid (fun w h' => pass_run (W.heap.size + 1) W.heap.size (W.heap.size + 1 + 1) BL s h n ax aw cx cw cl xs ws zs w hn hs hh hsm h')
  clear hx hw hr hz nx nw W3 hn
  go_enter Tryz.func193, Tryz.ntmps193
  go_wp2_with fail
  obtain ⟨W4, hW4⟩ : ∃ W4, W4 = ((W.alloc (.cells #[.slice (some ⟨BL, 0, none⟩) n cl] 25)).alloc (.cells #[.slice ax n cx] 25)).alloc (.cells #[.slice aw n cw] 25) := ⟨_, rfl⟩
  obtain ⟨s4, b4⟩ := W3h.out _ hW4
  have B4 := Lib.hid b4
  rw [← hW4]
  clear hW4 W3h b4
  refine (R.out _ s4).mono ?_
  rintro e w1 ⟨rfl, s1, b1⟩
  have E1 := Lib.hid s1.rl
  have E2 := Lib.hid (B4.out.trans b1)
  clear s1 b1 s4 R
  go_wp2_with fail
  go_end0
  exact ⟨rfl, E1.out, E2.out⟩
theorem row_away {W : World} {ax : Option Addr} {n : Nat} {xs : List Int} (h : Row W ax n xs) (hn : 0 < n) {B : Nat} (hB : W.heap.size ≤ B) : ∀ x, ax = some x → x.block ≠ B := by
  obtain ⟨b, o, rfl, hb, _⟩ := h.cell hn
  intro x hx
  cases hx
  show b ≠ B
  omega
theorem keep1 {w0 w w' : World} {B : Nat} {p : Addr} {u : Value} (hp : p.block < B) (hS : w.cell? p = some u ∧ Below B w0 w) (hb : Below B w w') : w'.cell? p = some u ∧ Below B w0 w' := ⟨(hb.cell hp).trans hS.1, hS.2.trans hb⟩
end Go.Proofs.YtbhnlfgccldmaaaGreat
/- Rows that are handed back in new memory. -/
namespace Go.Proofs.YtbhnlfgccldmaaaGreat
open Go.ChangeShapes Go.WideShapes Go.ChangeAt Go.RowKit
set_option linter.unusedVariables false
/-- A row in new memory. -/
def GivesNw (w : World) (n : Nat) (ys : List Int) (e : Ending) (w' : World) : Prop := ∃ a c, e = .returned (.slice a n c) ∧ Row w' a n ys ∧ (∀ x, a = some x → w.heap.size ≤ x.block) ∧ Below w.heap.size w w'
def GivesOkNw (w : World) (n : Nat) (ys : List Int) (e : Ending) (w' : World) : Prop := ∃ a c, e = .returned (.tuple #[.slice a n c, .int .i64 0]) ∧ Row w' a n ys ∧ (∀ x, a = some x → w.heap.size ≤ x.block) ∧ Below w.heap.size w w'
theorem GivesOkNw.ok {w w' : World} {n : Nat} {ys : List Int} {e : Ending} (h : GivesOkNw w n ys e w') : GivesOk w n ys e w' := by
  obtain ⟨a, c, h1, h2, -, h3⟩ := h
  exact ⟨a, c, h1, h2, h3⟩
theorem givesNw_at {w w' : World} {n B : Nat} {ys : List Int} {e : Ending} (he : e = .returned (.slice (some ⟨B, 0, none⟩) n n)) (h : RowAt w' B 62 ys) (hw : ∀ x ∈ ys, (Lit.int .u64 x).wf = true) (hn : ys.length = n) (hs : n ≤ 17592186044415) (hb : Below w.heap.size w w') (hB : w.heap.size ≤ B) : GivesNw w n ys e w' :=
  ⟨_, _, he, Row.of_at h hw hn hs, fun x hx => by cases hx; exact hB, hb⟩
/-- A row of the callee's own, whole. -/
def GivesAt (w : World) (n : Nat) (ys : List Int) (e : Ending) (w' : World) : Prop := ∃ Y, e = .returned (.slice (some ⟨Y, 0, none⟩) n n) ∧ RowAt w' Y 62 ys ∧ w.heap.size ≤ Y ∧ Below w.heap.size w w'
end Go.Proofs.YtbhnlfgccldmaaaGreat
