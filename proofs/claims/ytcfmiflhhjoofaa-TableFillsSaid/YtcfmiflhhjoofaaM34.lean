/- Put together by program (merge.py): Stock6 Rowset. -/
import Derived.Test.YtcfmiflhhjoofaaM19
import Derived.Test.YtcfmiflhhjoofaaM29
import Derived.Test.YtcfmiflhhjoofaaM32
import Derived.Test.YtcfmiflhhjoofaaM33
/- Package stock: Do; Stockham's way is the transform. -/
namespace Go.Proofs.Ytcfmiflhhjoofaa
open Go.ChangeShapes Go.WideShapes Go.ChangeAt Go.RowKit
set_option linter.unusedVariables false
theorem hasb_pow {n a : Nat} (h : n = 2 ^ a) (hn : n ≤ 130) : hasb n = true := by
  have h8 : a < 8 := Nat.lt_of_not_le fun h8 => by
    have := Nat.pow_le_pow_right (show 0 < 2 by omega) h8
    omega
  have : a = 0 ∨ a = 1 ∨ a = 2 ∨ a = 3 ∨ a = 4 ∨ a = 5 ∨ a = 6 ∨ a = 7 := by omega
  subst h
  rcases this with rfl | rfl | rfl | rfl | rfl | rfl | rfl | rfl <;> decide +kernel
theorem chk_pow {n a : Nat} {dir : Int} (h : n = 2 ^ a) (hn : n ≤ 130) (hd : dir = 0 ∨ dir = 1) : chk n dir = 0 := by
  rw [chk_dir _ _ hd, if_neg (by rw [hasb_pow h hn]; decide), if_neg (by omega)]
theorem stock_horl {n a : Nat} {dir : Int} (xs : List Int) (hl : xs.length = n) (h : n = 2 ^ a) (hn : n ≤ 130) (hd : dir = 0 ∨ dir = 1) : passes xs (powl (rdir n dir) n) n a = horl (rdir n dir) xs n := by
  have I := dftBack.inv2_dir n dir (chk_pow h hn hd)
  have hp := Nat.pow_pos (n := a) (show 0 < 2 by omega)
  refine stockham xs hl h I.rn fun ha => half_root I.rn I.ro ?_ (by omega)
  obtain ⟨b, rfl⟩ : ∃ b, a = b + 1 := ⟨a - 1, by omega⟩
  rw [h, Nat.pow_succ]
  omega
set_option maxRecDepth 100000 in
theorem stock_do (n a : Nat) (p : Option Addr) (c : Nat) (dir : Int) (xs : List Int) (W : World) (hr : Row W p n xs) (h : n = 2 ^ a) (hn : n ≤ 130) (hd : dir = 0 ∨ dir = 1) :
    Calls Try.prog 58 #[.slice p n c, .int .i64 dir] W (GivesOk W n (horl (rdir n dir) xs n)) := by
  have pn : hasp n = true := by unfold hasp; rw [decide_eq_true (by omega : (n : Int) ≤ 16777216), Bool.true_and]; exact pwb_yes (by have := Nat.pow_pos (n := a) (show 0 < 2 by omega); omega) ⟨a, by rw [Int.toNat_natCast, h]⟩
  have H := fun w => stock_has (n : Int) w
  rw [pn] at H
  have H := Lib.hid H
  have r0 := rdir_lo n dir
  have r1 := rdir_hi n dir
  have PW := Lib.hid (fun w => root_powers (rdir n dir) n w r0 (by omega) (by omega))
  have WI := Lib.hid (fun (q : Option Addr) (d : Nat) (w : World) (h1 : Row w p n xs) (h2 : Row w q n (powl (rdir n dir) n)) => stock_with a n p q c d xs (powl (rdir n dir) n) w h (by omega) h1 h2)
  have E := stock_horl xs hr.len h hn hd
  have HP := Lib.hid (powl_wf (rdir n dir) n)
  have HL := Lib.hid (powl_len (rdir n dir) n)
  rw [← E]
  have HX := Lib.hid hr
  have hB : Below W.heap.size W W := Below.refl _ _
  rcases hd with rfl | rfl
  · have R := Lib.hid (show ∀ w, Calls Try.prog 68 #[.int .i64 n] w fun e w' => e = .returned (.tuple #[.int .u64 (rdir n 0), .int .i64 0]) ∧ Below w.heap.size w w' from fun w => root_root n w (by omega) (by omega) (hasb_pow h hn))
    clear hr h pn E
    generalize powl (rdir n 0) n = ws at *
    generalize passes xs ws n a = ys at *
    generalize rdir n 0 = r at *
    go_enter Try.func58, Try.ntmps58
    go_wp2_with fail
    refine (H.out _).mono ?_
    rintro e w1 ⟨rfl, rfl⟩
    go_wp2_with fail
    refine (R.out _).mono ?_
    rintro e w1 ⟨rfl, b1⟩
    have HX := Lib.hid (HX.out.below b1); have hB := hB.trans (b1.mono hB.size); clear b1
    go_wp2_with fail
    refine (PW.out _).mono ?_
    rintro e w1 ⟨rfl, hq, b1⟩
    have HQ := Lib.hid (Row.of_at hq HP.out HL.out (by omega))
    clear hq
    have HX := Lib.hid (HX.out.below b1); have hB := hB.trans (b1.mono hB.size); clear b1
    go_wp2_with fail
    refine (WI.out _ _ _ HX.out HQ.out).mono ?_
    rintro e w1 ⟨q, d, rfl, hr, b1⟩
    have hr := Lib.hid hr
    have hB := hB.trans (b1.mono hB.size); clear b1
    go_wp2_with fail
    go_ret2
    exact ⟨_, _, rfl, hr.out, hB⟩
  · have R := Lib.hid (fun w => root_root n w (by omega) (by omega) (hasb_pow h hn))
    have V := Lib.hid (show ∀ w, Calls Try.prog 69 #[.int .u64 (rt n)] w fun e w' => e = .returned (.int .u64 (rdir n 1)) ∧ Below w.heap.size w w' from fun w => gold_inv (rt n) w (rt_lo n) (by have := rt_hi n; omega))
    clear hr h pn E
    generalize powl (rdir n 1) n = ws at *
    generalize passes xs ws n a = ys at *
    generalize rdir n 1 = r at *
    generalize rt n = rr at *
    go_enter Try.func58, Try.ntmps58
    go_wp2_with fail
    refine (H.out _).mono ?_
    rintro e w1 ⟨rfl, rfl⟩
    go_wp2_with fail
    refine (R.out _).mono ?_
    rintro e w1 ⟨rfl, b1⟩
    have HX := Lib.hid (HX.out.below b1); have hB := hB.trans (b1.mono hB.size); clear b1
    go_wp2_with fail
    refine (V.out _).mono ?_
    rintro e w1 ⟨rfl, b1⟩
    have HX := Lib.hid (HX.out.below b1); have hB := hB.trans (b1.mono hB.size); clear b1
    go_wp2_with fail
    refine (PW.out _).mono ?_
    rintro e w1 ⟨rfl, hq, b1⟩
    have HQ := Lib.hid (Row.of_at hq HP.out HL.out (by omega))
    clear hq
    have HX := Lib.hid (HX.out.below b1); have hB := hB.trans (b1.mono hB.size); clear b1
    go_wp2_with fail
    refine (WI.out _ _ _ HX.out HQ.out).mono ?_
    rintro e w1 ⟨q, d, rfl, hr, b1⟩
    have hr := Lib.hid hr
    have hB := hB.trans (b1.mono hB.size); clear b1
    go_wp2_with fail
    go_ret2
    exact ⟨_, _, rfl, hr.out, hB⟩
theorem do_no1 (p : Option Addr) (n c : Nat) (dir : Int) (W : World) (hn : n ≤ 130) (hd : ¬ (dir = 0 ∨ dir = 1)) : Calls Try.prog 58 #[.slice p n c, .int .i64 dir] W fun e w' => e = .returned (.tuple #[.slice none 0 0, .int .i64 2]) ∧ W = w' := by
  have d0 : (dir != 0) = true := by simp; omega
  have d1 : (dir != 1) = true := by simp; omega
  go_enter Try.func58, Try.ntmps58
  go_wp2_with fail
  go_ret2
  exact ⟨rfl, rfl⟩
theorem do_no2 (p : Option Addr) (n c : Nat) (dir : Int) (W : World) (hn : n ≤ 130) (hd : dir = 0 ∨ dir = 1) (h : hasp n = false) : Calls Try.prog 58 #[.slice p n c, .int .i64 dir] W fun e w' => e = .returned (.tuple #[.slice none 0 0, .int .i64 4]) ∧ W = w' := by
  have H := fun w => stock_has (n : Int) w
  rw [h] at H
  have H := Lib.hid H
  clear h
  rcases hd with rfl | rfl
  all_goals
    go_enter Try.func58, Try.ntmps58
    go_wp2_with fail
    refine (H.out _).mono ?_
    rintro e w1 ⟨rfl, rfl⟩
    go_wp2_with fail
    go_ret2
    exact ⟨rfl, rfl⟩
end Go.Proofs.Ytcfmiflhhjoofaa
/- Rows of ints: as they are read, and written in place. -/
namespace Go.Proofs.Ytcfmiflhhjoofaa
open Go.ChangeShapes Go.WideShapes Go.ChangeAt Go.RowKit
set_option linter.unusedVariables false
/-- What a slice of ints is: what it reads as, that each is in order, how many. -/
structure RowI (w : World) (a : Option Addr) (n : Nat) (xs : List Int) : Prop where
  len : xs.length = n
  reads : Reads .i64 w a xs
  wf : ∀ x ∈ xs, (Lit.int .i64 x).wf = true
  small : n ≤ 17592186044415
theorem readsI_below {k : IntKind} {w w' : World} {a : Option Addr} {xs : List Int} (h : Reads k w a xs) (hb : Below w.heap.size w w') : Reads k w' a xs := by
  rcases h with h | ⟨b, off, rfl, hlt, hc⟩
  · exact .inl h
  · exact .inr ⟨b, off, rfl, by have := hb.size; omega, fun i hi => by rw [hb.cell (p := ⟨b, off + i, none⟩) hlt]; exact hc i hi⟩
theorem RowI.below {w w' : World} {a : Option Addr} {n : Nat} {xs : List Int} (h : RowI w a n xs) (hb : Below w.heap.size w w') : RowI w' a n xs := ⟨h.len, readsI_below h.reads hb, h.wf, h.small⟩
theorem RowI.alloc {w : World} {a : Option Addr} {n : Nat} {xs : List Int} (h : RowI w a n xs) (o : Obj) : RowI (w.alloc o) a n xs := h.below ((Below.refl _ _).alloc (Nat.le_refl _) o)
theorem RowI.bd {w : World} {a : Option Addr} {n : Nat} {xs : List Int} (h : RowI w a n xs) {k : Nat} (hk : k < n) : -9223372036854775808 ≤ xs.getD k 0 ∧ xs.getD k 0 ≤ 9223372036854775807 := by
  have hl := h.len
  have e : xs.getD k 0 = xs[k]'(by omega) := by simp [List.getD, show k < xs.length by omega]
  rw [e]; exact bounds_i64 (h.wf _ (List.getElem_mem _))
theorem RowI.cell {w : World} {a : Option Addr} {n : Nat} {xs : List Int} (h : RowI w a n xs) {k : Nat} (hk : k < n) : ∃ b off, a = some ⟨b, off, none⟩ ∧ b < w.heap.size ∧ w.cell? ⟨b, off + k, none⟩ = some (.int .i64 (xs.getD k 0)) ∧ -9223372036854775808 ≤ xs.getD k 0 ∧ xs.getD k 0 ≤ 9223372036854775807 := by
  rcases h.reads with hn | ⟨b, off, e, hb, hc⟩
  · have := h.len; rw [hn] at this; simp at this; omega
  · exact ⟨b, off, e, hb, hc k (by rw [h.len]; exact hk), h.bd hk⟩
theorem RowI.of_isRow {w : World} {a : Option Addr} {n c : Nat} (h : IsRow .i64 w a n c) (hs : n ≤ 17592186044415) : ∃ xs, RowI w a n xs := by
  obtain ⟨xs, hn, _, _, hr, hw⟩ := h
  exact ⟨xs, hn, hr, hw, hs⟩
theorem RowI.of_at {w : World} {B : Nat} {ys : List Int} {T : TypeId} (h : RowAtI w B T ys) (hw : ∀ x ∈ ys, (Lit.int .i64 x).wf = true) {n : Nat} (hn : ys.length = n) (hs : n ≤ 17592186044415) : RowI w (some ⟨B, 0, none⟩) n ys := ⟨hn, h.reads, hw, hs⟩
/-- The answer is a slice of n ints that reads as ys; nothing that was there has turned. -/
def GivesI (w : World) (n : Nat) (ys : List Int) (e : Ending) (w' : World) : Prop := ∃ a c, e = .returned (.slice a n c) ∧ RowI w' a n ys ∧ Below w.heap.size w w'
def GivesIOk (w : World) (n : Nat) (ys : List Int) (e : Ending) (w' : World) : Prop := ∃ a c, e = .returned (.tuple #[.slice a n c, .int .i64 0]) ∧ RowI w' a n ys ∧ Below w.heap.size w w'
theorem givesI_own {w w' : World} {n B : Nat} {T : TypeId} {ys : List Int} {e : Ending} {v : Value} (he : e = .returned v) (h : Owns w' B T .i64 v ys) (hb : Below w.heap.size w w') (hw : ∀ x ∈ ys, (Lit.int .i64 x).wf = true) (hn : ys.length = n) (hs : n ≤ 17592186044415) : GivesI w n ys e w' := by
  obtain ⟨a, c, hv, hr, _, _⟩ := h.shape
  exact ⟨a, c, by rw [he, hv, hn], ⟨hn, hr, hw, hs⟩, hb⟩

/-- One place written. -/
theorem RowAtI.set {w : World} {B : Nat} {T : TypeId} {ys : List Int} (h : RowAtI w B T ys) (k : Nat) (y : Int) : RowAtI (w.setCell ⟨B, k, none⟩ (.int .i64 y)) B T (ys.set k y) := by
  unfold RowAtI
  rw [heap_setCell_same w B k _ T _ h]
  congr 2
  rw [List.setIfInBounds_toArray]
  congr 1
  rw [List.map_set]
theorem RowAtI.other {w : World} {B : Nat} {T : TypeId} {ys : List Int} (h : RowAtI w B T ys) {p : Addr} (hp : p.block ≠ B) (v : Value) : RowAtI (w.setCell p v) B T ys := by
  unfold RowAtI at *
  rw [← h]
  exact heap_setCell_other w p B v (fun e => hp e.symm)
theorem RowAtI.cell {w : World} {B : Nat} {T : TypeId} {ys : List Int} (h : RowAtI w B T ys) {k : Nat} (hk : k < ys.length) : w.cell? ⟨B, k, none⟩ = some (.int .i64 (ys.getD k 0)) := by
  rw [cell_of_row w B k _ _ _ h]
  simp [List.getD, hk]
theorem RowAtI.free {w : World} {B : Nat} {T : TypeId} {ys : List Int} (h : RowAtI w B T ys) (j : Nat) : w.frozen? ⟨B, j, none⟩ = false := frozen_of_row w B j _ _ h
theorem RowAtI.made (w : World) (T : TypeId) (n : Nat) : RowAtI (w.alloc (.cells (Array.replicate n (.int .i64 0)) T)) w.heap.size T (List.replicate n 0) := by
  unfold RowAtI; rw [heap_alloc_new]; simp
theorem RowAtI.drewN {w : World} {B : Nat} {T : TypeId} {ys : List Int} (h : RowAtI w B T ys) (q : Nat) : RowAtI (w.drewN q) B T ys := h
theorem RowAtI.drew {w : World} {B : Nat} {T : TypeId} {ys : List Int} (h : RowAtI w B T ys) : RowAtI w.drew B T ys := h
/-- A function's values, one by one. -/
def tab (n : Nat) (f : Nat → Int) : List Int := (List.range n).map f
theorem tab_len (n : Nat) (f : Nat → Int) : (tab n f).length = n := by unfold tab; simp
theorem tab_at (n : Nat) (f : Nat → Int) (k : Nat) (h : k < n) : (tab n f).getD k 0 = f k := by unfold tab; simp [List.getD, h]
theorem tab_set (n : Nat) (f g : Nat → Int) (k : Nat) (y : Int) (h : ∀ j, j < n → g j = if j = k then y else f j) : (tab n f).set k y = tab n g := by
  unfold tab
  apply List.ext_getElem
  · simp
  · intro i h1 h2
    have hi : i < n := by simpa using h2
    rw [List.getElem_set]
    simp only [List.getElem_map, List.getElem_range, h i hi]
    by_cases e : k = i
    · subst e; simp
    · rw [if_neg e, if_neg (fun x => e x.symm)]
theorem tab_congr (n : Nat) (f g : Nat → Int) (h : ∀ j, j < n → g j = f j) : tab n f = tab n g := by
  unfold tab
  apply List.map_congr_left
  intro i hi
  exact (h i (by simpa using hi)).symm
theorem tab_rep (n : Nat) (v : Int) : List.replicate n v = tab n (fun _ => v) := by
  unfold tab
  apply List.ext_getElem
  · simp
  · intro i h1 h2; simp
end Go.Proofs.Ytcfmiflhhjoofaa
