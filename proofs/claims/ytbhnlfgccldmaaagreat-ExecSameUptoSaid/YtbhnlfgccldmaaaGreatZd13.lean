/- Put together by program (merge2.py): Permm Permc Rowb Perm Permd Perm2 Perm3 Perm4 Permn Exg Tab2. -/
import Derived.Test.YtbhnlfgccldmaaaGreatZd11
import Derived.Test.YtbhnlfgccldmaaaGreatZd12
/- Orders of places: plain numbers, no Go text. -/
namespace Go.Proofs.YtbhnlfgccldmaaaGreat
open Go.ChangeShapes Go.WideShapes Go.ChangeAt Go.RowKit
set_option linter.unusedVariables false
/-- Does v stand among the first k? -/
def sb (ps : List Int) (v : Int) : Nat → Bool
  | 0 => false
  | k + 1 => sb ps v k || (ps.getD k 0 == v)
theorem sb_yes {ps : List Int} {v : Int} : ∀ {k : Nat}, sb ps v k = true → ∃ j, j < k ∧ ps.getD j 0 = v
  | k + 1, h => by
    rw [sb, Bool.or_eq_true] at h
    rcases h with h | h
    · obtain ⟨j, hj, e⟩ := sb_yes h; exact ⟨j, by omega, e⟩
    · exact ⟨k, by omega, by simpa using h⟩
theorem sb_no {ps : List Int} {v : Int} : ∀ {k : Nat}, sb ps v k = false → ∀ j, j < k → ps.getD j 0 ≠ v
  | k + 1, h, j, hj => by
    rw [sb, Bool.or_eq_false_iff] at h
    by_cases e : j = k
    · rw [e]; simpa using h.2
    · exact sb_no h.1 j (by omega)
theorem sb_of {ps : List Int} {v : Int} {k : Nat} (h : ∀ j, j < k → ps.getD j 0 ≠ v) : sb ps v k = false := by
  cases e : sb ps v k with
  | false => rfl
  | true => obtain ⟨j, hj, e2⟩ := sb_yes e; exact absurd e2 (h j hj)
/-- Are the first k places within n, each once? -/
def rgt (ps : List Int) (n : Nat) : Nat → Bool
  | 0 => true
  | k + 1 => rgt ps n k && (decide (0 ≤ ps.getD k 0) && decide (ps.getD k 0 < n) && !sb ps (ps.getD k 0) k)
theorem rgt_of {ps : List Int} {n : Nat} : ∀ {k : Nat}, (∀ j, j < k → 0 ≤ ps.getD j 0 ∧ ps.getD j 0 < n) → (∀ i j, i < j → j < k → ps.getD i 0 ≠ ps.getD j 0) → rgt ps n k = true
  | 0, _, _ => rfl
  | k + 1, h1, h2 => by
    rw [rgt, rgt_of (fun j hj => h1 j (by omega)) (fun i j hi hj => h2 i j hi (by omega)), decide_eq_true (h1 k (by omega)).1, decide_eq_true (h1 k (by omega)).2, sb_of (fun j hj => h2 j k hj (by omega))]
    rfl
theorem rgt_in {ps : List Int} {n : Nat} : ∀ {k : Nat}, rgt ps n k = true → ∀ j, j < k → 0 ≤ ps.getD j 0 ∧ ps.getD j 0 < n
  | k + 1, h, j, hj => by
    rw [rgt] at h
    simp only [Bool.and_eq_true, decide_eq_true_eq] at h
    by_cases e : j = k
    · rw [e]; exact ⟨h.2.1.1, h.2.1.2⟩
    · exact rgt_in h.1 j (by omega)
theorem rgt_less {ps : List Int} {n : Nat} : ∀ {k : Nat} (d : Nat), rgt ps n (k + d) = true → rgt ps n k = true
  | _, 0, h => h
  | k, d + 1, h => by
    rw [← Nat.add_assoc, rgt, Bool.and_eq_true] at h
    exact rgt_less d h.1
theorem rgt_false {ps : List Int} {n k m : Nat} (h : rgt ps n k = false) (hk : k ≤ m) : rgt ps n m = false := by
  cases e : rgt ps n m with
  | false => rfl
  | true =>
    have := rgt_less (k := k) (m - k) (by rw [show k + (m - k) = m by omega]; exact e)
    rw [h] at this; cases this
/-- Which of the first k places holds v. -/
def invl (ps : List Int) (v : Int) : Nat → Nat
  | 0 => 0
  | k + 1 => if ps.getD k 0 = v then k else invl ps v k
theorem invl_at {ps : List Int} {v : Int} {k : Nat} (h : ps.getD k 0 = v) : ∀ n, k < n → (∀ j, k < j → j < n → ps.getD j 0 ≠ v) → invl ps v n = k
  | n + 1, hk, hj => by
    rw [invl]
    by_cases e : k = n
    · rw [← e, if_pos h]
    · rw [if_neg (hj n (by omega) (by omega))]
      exact invl_at h n (by omega) (fun j h1 h2 => hj j h1 (by omega))
def inverl (ps : List Int) (n : Nat) : List Int := tab n fun v => ((invl ps v n : Nat) : Int)
end Go.Proofs.YtbhnlfgccldmaaaGreat
/- Orders of places: each number once; coprime numbers: plain numbers, no Go text. -/
namespace Go.Proofs.YtbhnlfgccldmaaaGreat
open Go.ChangeShapes Go.WideShapes Go.ChangeAt Go.RowKit
set_option linter.unusedVariables false
/-- How often v stands among the first k. -/
def cnt (ps : List Int) (v : Int) : Nat → Nat
  | 0 => 0
  | k + 1 => if ps.getD k 0 = v then cnt ps v k + 1 else cnt ps v k
def sumf (f : Nat → Nat) : Nat → Nat
  | 0 => 0
  | n + 1 => sumf f n + f n
theorem sumf_zero (n : Nat) : sumf (fun _ => 0) n = 0 := by
  induction n with
  | zero => rfl
  | succ n ih => rw [sumf, ih]
theorem sumf_congr {f g : Nat → Nat} : ∀ n, (∀ v, v < n → f v = g v) → sumf f n = sumf g n
  | 0, _ => rfl
  | n + 1, h => by rw [sumf, sumf, sumf_congr n (fun v hv => h v (by omega)), h n (by omega)]
theorem sumf_add (f g : Nat → Nat) : ∀ n, sumf (fun v => f v + g v) n = sumf f n + sumf g n
  | 0 => rfl
  | n + 1 => by rw [sumf, sumf, sumf, sumf_add f g n]; omega
theorem sumf_one (x : Int) : ∀ n : Nat, sumf (fun v => if x = (v : Int) then 1 else 0) n = if 0 ≤ x ∧ x < n then 1 else 0
  | 0 => by rw [if_neg (by omega)]; rfl
  | n + 1 => by
    rw [sumf, sumf_one x n]
    by_cases e : x = (n : Int)
    · rw [if_pos e, if_neg (by omega), if_pos (by omega)]
    · rw [if_neg e]
      by_cases h : 0 ≤ x ∧ x < n
      · rw [if_pos h, if_pos (by omega)]
      · rw [if_neg h, if_neg (by omega)]
/-- How many of the first k places are within n. -/
def inn (ps : List Int) (n : Nat) : Nat → Nat
  | 0 => 0
  | k + 1 => inn ps n k + if 0 ≤ ps.getD k 0 ∧ ps.getD k 0 < n then 1 else 0
theorem cnt_sum (ps : List Int) (n : Nat) : ∀ k, sumf (fun v => cnt ps v k) n = inn ps n k
  | 0 => sumf_zero n
  | k + 1 => by
    rw [inn, ← cnt_sum ps n k, ← sumf_one (ps.getD k 0) n, ← sumf_add]
    apply sumf_congr
    intro v _
    rw [cnt]
    split <;> rfl
theorem inn_le (ps : List Int) (n : Nat) : ∀ k, inn ps n k ≤ k
  | 0 => Nat.le_refl _
  | k + 1 => by have := inn_le ps n k; rw [inn]; split <;> omega
theorem inn_full {ps : List Int} {n : Nat} : ∀ {k : Nat}, inn ps n k = k → ∀ j, j < k → 0 ≤ ps.getD j 0 ∧ ps.getD j 0 < n
  | k + 1, h, j, hj => by
    have := inn_le ps n k
    rw [inn] at h
    by_cases e : 0 ≤ ps.getD k 0 ∧ ps.getD k 0 < n
    · rw [if_pos e] at h
      by_cases e2 : j = k
      · rw [e2]; exact e
      · exact inn_full (k := k) (by omega) j (by omega)
    · rw [if_neg e] at h; omega
theorem inn_all {ps : List Int} {n : Nat} : ∀ {k : Nat}, (∀ j, j < k → 0 ≤ ps.getD j 0 ∧ ps.getD j 0 < n) → inn ps n k = k
  | 0, _ => rfl
  | k + 1, h => by rw [inn, inn_all (fun j hj => h j (by omega)), if_pos (h k (by omega))]
theorem sumf_ones {f : Nat → Nat} : ∀ {n : Nat}, (∀ v, v < n → f v = 1) → sumf f n = n
  | 0, _ => rfl
  | n + 1, h => by rw [sumf, sumf_ones (fun v hv => h v (by omega)), h n (by omega)]
theorem sumf_le {f : Nat → Nat} : ∀ {n : Nat}, (∀ v, v < n → f v ≤ 1) → sumf f n ≤ n
  | 0, _ => Nat.le_refl _
  | n + 1, h => by have := sumf_le (f := f) (n := n) (fun v hv => h v (by omega)); have := h n (by omega); rw [sumf]; omega
theorem sumf_tight {f : Nat → Nat} : ∀ {n : Nat}, (∀ v, v < n → f v ≤ 1) → sumf f n = n → ∀ v, v < n → f v = 1
  | n + 1, h, e, v, hv => by
    have h1 := sumf_le (f := f) (n := n) (fun v hv => h v (by omega))
    have h2 := h n (by omega)
    rw [sumf] at e
    by_cases e2 : v = n
    · rw [e2]; omega
    · exact sumf_tight (f := f) (n := n) (fun v hv => h v (by omega)) (by omega) v (by omega)
theorem cnt_pos {ps : List Int} {v : Int} : ∀ {k j : Nat}, j < k → ps.getD j 0 = v → 1 ≤ cnt ps v k
  | k + 1, j, hj, e => by
    rw [cnt]
    by_cases h : ps.getD k 0 = v
    · rw [if_pos h]; omega
    · rw [if_neg h]
      by_cases e2 : j = k
      · rw [e2] at e; exact absurd e h
      · exact cnt_pos (k := k) (j := j) (by omega) e
theorem cnt_two {ps : List Int} {v : Int} : ∀ {k i j : Nat}, i < j → j < k → ps.getD i 0 = v → ps.getD j 0 = v → 2 ≤ cnt ps v k
  | k + 1, i, j, hij, hj, e1, e2 => by
    rw [cnt]
    by_cases h : ps.getD k 0 = v
    · rw [if_pos h]
      have := cnt_pos (k := k) (j := i) (by omega) e1
      omega
    · rw [if_neg h]
      by_cases e3 : j = k
      · rw [e3] at e2; exact absurd e2 h
      · exact cnt_two (k := k) hij (by omega) e1 e2
theorem cnt_once {ps : List Int} {v : Int} : ∀ {k : Nat}, (∀ i j, i < j → j < k → ps.getD i 0 ≠ ps.getD j 0) → cnt ps v k ≤ 1
  | 0, _ => by simp [cnt]
  | k + 1, h => by
    rw [cnt]
    by_cases e : ps.getD k 0 = v
    · rw [if_pos e]
      have : cnt ps v k = 0 := by
        cases hz : cnt ps v k with
        | zero => rfl
        | succ m =>
          exfalso
          have : ∀ k, (∀ j, j < k → ps.getD j 0 ≠ v) → cnt ps v k = 0 := by
            intro k
            induction k with
            | zero => intro _; rfl
            | succ k ih => intro hh; rw [cnt, if_neg (hh k (by omega))]; exact ih (fun j hj => hh j (by omega))
          rw [this k (fun j hj e2 => h j k hj (by omega) (by rw [e2, e]))] at hz
          cases hz
      omega
    · rw [if_neg e]
      exact cnt_once (fun i j hi hj => h i j hi (by omega))
theorem rgt_apart {ps : List Int} {n : Nat} : ∀ {k : Nat}, rgt ps n k = true → ∀ i j, i < j → j < k → ps.getD i 0 ≠ ps.getD j 0
  | k + 1, h, i, j, hi, hj => by
    rw [rgt] at h
    simp only [Bool.and_eq_true, Bool.not_eq_true'] at h
    by_cases e : j = k
    · rw [e]
      exact sb_no h.2.2 i (by omega)
    · exact rgt_apart h.1 i j hi (by omega)
/-- An order has each number once, and what has each once is an order. -/
theorem rgt_cnt (ps : List Int) (n : Nat) : rgt ps n n = true ↔ ∀ v, v < n → cnt ps v n = 1 := by
  constructor
  · intro h
    exact sumf_tight (f := fun v => cnt ps v n) (fun v _ => cnt_once (rgt_apart h)) (by rw [cnt_sum, inn_all (rgt_in h)])
  · intro h
    have hin := inn_full (ps := ps) (n := n) (k := n) (by rw [← cnt_sum]; exact sumf_ones h)
    apply rgt_of hin
    intro i j hij hj e
    have h1 := hin j hj
    obtain ⟨v, hv⟩ : ∃ v : Nat, ps.getD j 0 = v := ⟨(ps.getD j 0).toNat, by omega⟩
    have := cnt_two (v := (v : Int)) (k := n) hij hj (by rw [e, hv]) hv
    rw [h v (by omega)] at this
    omega
theorem mod_dvd {a x y : Nat} (hle : x ≤ y) (h : x % a = y % a) : a ∣ y - x := by
  have h1 := Nat.div_add_mod x a
  have h2 := Nat.div_add_mod y a
  refine ⟨y / a - x / a, ?_⟩
  rw [Nat.mul_sub]
  omega
end Go.Proofs.YtbhnlfgccldmaaaGreat
/- Rows of bools that a call makes and writes in place. -/
namespace Go.Proofs.YtbhnlfgccldmaaaGreat
open Go.ChangeShapes Go.WideShapes Go.ChangeAt Go.RowKit
set_option linter.unusedVariables false
theorem info_boolz : (Tryz.prog.info? 4).map (fun i => (i.zero, i.size, i.bytes)) = some (some (.bool false), 1, 1) := by kernel_rfl
theorem made_cells_b (v : Value) (n : Nat) : madeCells #[v] n = Array.replicate n v := by
  unfold madeCells
  apply Array.ext
  · simp
  · intro i h1 h2
    simp [Nat.mod_one]
theorem make_bool (n : Nat) (hn : n ≤ 35184372088832) (w : World) :
    (Instr.makeSlice 199 (.int .i64 (n : Int)) (.int .i64 (n : Int))).run Tryz.prog w = .ok (.slice (some ⟨w.heap.size, 0, none⟩) n n) (w.alloc (.cells (Array.replicate n (.bool false)) 4)) := by
  obtain ⟨i, hi, hz, hs, hb⟩ := info_parts info_boolz
  rw [run_make w 199 4 i (.bool false) Tryz.underlying199 hi hz .i64 .i64 (n : Int) (n : Int) (by omega) (by omega) (by rw [hb]; omega) (by omega), hs, Int.toNat_natCast, Nat.mul_one]
  rw [show (Value.bool false).cells = #[.bool false] from rfl, made_cells_b]
def RowAtB (w : World) (B : Nat) (T : TypeId) (ys : List Bool) : Prop := w.heap[B]? = some (.cells ((ys.map Value.bool).toArray) T (0, 0))
theorem RowAtB.lt {w : World} {B : Nat} {T : TypeId} {ys : List Bool} (h : RowAtB w B T ys) : B < w.heap.size := by
  unfold RowAtB at h
  by_cases hlt : B < w.heap.size
  · exact hlt
  · have : w.heap[B]? = none := by simp; omega
    rw [this] at h; simp at h
theorem RowAtB.below {w w' : World} {B : Nat} {T : TypeId} {ys : List Bool} (h : RowAtB w B T ys) (hb : Below w.heap.size w w') : RowAtB w' B T ys := by
  unfold RowAtB; rw [hb.block B h.lt]; exact h
theorem RowAtB.set {w : World} {B : Nat} {T : TypeId} {ys : List Bool} (h : RowAtB w B T ys) (k : Nat) (y : Bool) : RowAtB (w.setCell ⟨B, k, none⟩ (.bool y)) B T (ys.set k y) := by
  unfold RowAtB
  rw [heap_setCell_same w B k _ T _ h]
  congr 2
  rw [List.setIfInBounds_toArray]
  congr 1
  rw [List.map_set]
theorem RowAtB.cell {w : World} {B : Nat} {T : TypeId} {ys : List Bool} (h : RowAtB w B T ys) {k : Nat} (hk : k < ys.length) : w.cell? ⟨B, k, none⟩ = some (.bool (ys.getD k false)) := by
  rw [cell_of_row w B k _ _ _ h]
  simp [List.getD, hk]
theorem RowAtB.free {w : World} {B : Nat} {T : TypeId} {ys : List Bool} (h : RowAtB w B T ys) (j : Nat) : w.frozen? ⟨B, j, none⟩ = false := frozen_of_row w B j _ _ h
theorem RowAtB.made (w : World) (T : TypeId) (n : Nat) : RowAtB (w.alloc (.cells (Array.replicate n (.bool false)) T)) w.heap.size T (List.replicate n false) := by
  unfold RowAtB; rw [heap_alloc_new]; simp
def tabb (n : Nat) (f : Nat → Bool) : List Bool := (List.range n).map f
theorem tabb_len (n : Nat) (f : Nat → Bool) : (tabb n f).length = n := by unfold tabb; simp
theorem tabb_at (n : Nat) (f : Nat → Bool) (k : Nat) (h : k < n) : (tabb n f).getD k false = f k := by unfold tabb; simp [List.getD, h]
theorem tabb_set (n : Nat) (f g : Nat → Bool) (k : Nat) (y : Bool) (h : ∀ j, j < n → g j = if j = k then y else f j) : (tabb n f).set k y = tabb n g := by
  unfold tabb
  apply List.ext_getElem
  · simp
  · intro i h1 h2
    have hi : i < n := by simpa using h2
    rw [List.getElem_set]
    simp only [List.getElem_map, List.getElem_range, h i hi]
    by_cases e : k = i
    · subst e; simp
    · rw [if_neg e, if_neg (fun x => e x.symm)]
theorem tabb_rep (n : Nat) (v : Bool) : List.replicate n v = tabb n (fun _ => v) := by
  unfold tabb
  apply List.ext_getElem
  · simp
  · intro i h1 h2; simp
end Go.Proofs.YtbhnlfgccldmaaaGreat
/- Package perm: Right, Inverse, Stride; reference 8's. -/
namespace Go.Proofs.YtbhnlfgccldmaaaGreat
open Go.ChangeShapes Go.WideShapes Go.ChangeAt Go.RowKit
set_option linter.unusedVariables false
theorem seen_put (ps : List Int) (n k x : Nat) (h : ps.getD k 0 = x) : (tabb n fun v => sb ps v k).set x true = tabb n fun v => sb ps v (k + 1) := by
  apply tabb_set
  intro j hj
  show sb ps j (k + 1) = _
  rw [sb, h]
  by_cases e : j = x
  · rw [if_pos e, e]; simp
  · rw [if_neg e]
    have : (((x : Nat) : Int) == ((j : Nat) : Int)) = false := by simp; omega
    rw [this, Bool.or_false]
set_option maxRecDepth 100000 in
theorem perm_right (p : Option Addr) (n c : Nat) (ps : List Int) (W : World) (hr : RowI W p n ps) :
    Calls Tryz.prog 197 #[.slice p n c] W fun e w' => e = .returned (.bool (rgt ps n n)) ∧ Below W.heap.size W w' := by
  have hs := hr.small
  have hmk := make_bool n (by omega)
  have HX := Lib.hid hr
  have NF := Lib.hid (fun k (hk : k < n) (h : rgt ps n (k + 1) = false) => rgt_false (m := n) h (by omega))
  have NS := Lib.hid (fun k => (show rgt ps n (k + 1) = (rgt ps n k && (decide (0 ≤ ps.getD k 0) && decide (ps.getD k 0 < n) && !sb ps (ps.getD k 0) k)) from rfl))
  have SP := Lib.hid (fun k x h => seen_put ps n k x h)
  clear hr
  go_enter Tryz.func197, Tryz.ntmps197
  go_wp2_with fail
  go_loopw [11] (fun i wr => ∃ k : Nat, k ≤ n ∧ i = .int .i64 k ∧ Hid (RowAtB wr W.heap.size 4 (tabb n fun v => sb ps v k)) ∧ Hid (rgt ps n k = true) ∧ Below W.heap.size W wr) (fun i _ => n - (intOf i).toNat)
  case atStart => exact ⟨0, Nat.zero_le _, rfl, Lib.hid (by have := RowAtB.made W 4 n; rw [tabb_rep] at this; exact this), Lib.hid rfl, (Below.refl _ _).alloc (Nat.le_refl _) _⟩
  case round =>
    obtain ⟨k, hk, rfl, RB, HG, hB⟩ := hrel
    have hsz := RB.out.lt
    by_cases hlt : k < n
    · obtain ⟨b, off, rfl, hb, hc0, x0, x1⟩ := HX.out.cell hlt
      have hc : wr.cell? ⟨b, off + k, none⟩ = some (.int .i64 (ps.getD k 0)) := (hB.cell (p := ⟨b, off + k, none⟩) hb).trans hc0
      have NS1 := NS.out k
      have NF1 := Lib.hid (NF.out k hlt)
      have SP1 := Lib.hid (fun x h => SP.out k x h)
      rw [HG.out] at NS1
      clear hc0
      obtain ⟨x, hx⟩ : ∃ x, ps.getD k 0 = x := ⟨_, rfl⟩
      rw [hx] at hc x0 x1 NS1
      by_cases c1 : x < 0
      · have d1 : decide (x < 0) = true := decide_eq_true c1
        have E := Lib.hid (NF1.out (by rw [NS1, decide_eq_false (by omega : ¬ 0 ≤ x)]; rfl))
        clear NS1 hx
        go_wp2_with fail
        go_ret
        exact ⟨by rw [E.out]; rfl, hB⟩
      have d1 : decide (x < 0) = false := decide_eq_false c1
      by_cases c2 : (n : Int) ≤ x
      · have d2 : decide ((n : Int) ≤ x) = true := decide_eq_true c2
        have E := Lib.hid (NF1.out (by rw [NS1, decide_eq_false (by omega : ¬ x < n), Bool.and_false]; rfl))
        clear NS1 hx
        go_wp2_with fail
        go_ret
        exact ⟨by rw [E.out]; rfl, hB⟩
      have d2 : decide ((n : Int) ≤ x) = false := decide_eq_false c2
      obtain ⟨v, rfl⟩ : ∃ v : Nat, x = v := ⟨x.toNat, by omega⟩
      have hv : v < n := by omega
      have hv0 : (0 : Int) ≤ (v : Int) := by omega
      have hv1 : (v : Int) < (n : Int) := by omega
      have d3 : decide (n ≤ v) = false := decide_eq_false (by omega)
      have cb := RB.out.cell (k := v) (by rw [tabb_len]; exact hv)
      rw [tabb_at _ _ _ hv] at cb
      have fb := RB.out.free v
      rw [decide_eq_true (by omega : (0 : Int) ≤ (v : Int)), decide_eq_true hv1] at NS1
      cases hse : sb ps (v : Int) k with
      | true =>
        have E := Lib.hid (NF1.out (by rw [NS1, hse]; rfl))
        have cb2 : wr.cell? ⟨W.heap.size, v, none⟩ = some (.bool true) := by rw [cb, hse]
        clear NS1 hx cb SP1
        go_wp2_with fail
        go_ret
        exact ⟨by rw [E.out]; rfl, hB⟩
      | false =>
        have E := Lib.hid (show rgt ps n (k + 1) = true by rw [NS1, hse]; rfl)
        have cb2 : wr.cell? ⟨W.heap.size, v, none⟩ = some (.bool false) := by rw [cb, hse]
        have rb2 := RB.out.set v true
        rw [SP1.out v hx] at rb2
        have RB2 := Lib.hid rb2
        clear NS1 hx cb SP1 rb2
        go_wp2_with fail
        go_roundw
        case rel => exact ⟨k + 1, by omega, by go_num, RB2, E, hB.setCell (Nat.le_refl _) _⟩
        case measure => (first | (simp [intOf]; done) | (simp [intOf]; omega) | (simp only [intOf]; omega))
    · obtain rfl : k = n := by omega
      go_wp2_with fail
      go_ret
      exact ⟨by rw [HG.out]; rfl, hB⟩
def sidesb (a b : Int) : Bool := decide (1 ≤ a ∧ a ≤ 16777216 ∧ 1 ≤ b ∧ b ≤ 16777216 ∧ a * b ≤ 16777216)
theorem sides_yes {a b : Int} (h : sidesb a b = true) : ∃ m n : Nat, a = m ∧ b = n ∧ 1 ≤ m ∧ m ≤ 16777216 ∧ 1 ≤ n ∧ n ≤ 16777216 ∧ m * n ≤ 16777216 := by
  have := of_decide_eq_true h
  refine ⟨a.toNat, b.toNat, by omega, by omega, by omega, by omega, by omega, by omega, ?_⟩
  have e : ((a.toNat * b.toNat : Nat) : Int) = a * b := by rw [Int.natCast_mul, Int.toNat_of_nonneg (by omega), Int.toNat_of_nonneg (by omega)]
  omega
theorem sides_of {m n : Nat} (h1 : 1 ≤ m) (h2 : 1 ≤ n) (h : m * n ≤ 16777216) : sidesb m n = true := by
  apply decide_eq_true
  have e1 : m ≤ m * n := Nat.le_mul_of_pos_right m (by omega)
  have e2 : n ≤ m * n := Nat.le_mul_of_pos_left n (by omega)
  have e : ((m * n : Nat) : Int) = (m : Int) * n := Int.natCast_mul _ _
  omega
theorem mul_bd {a b : Int} (a1 : 1 ≤ a) (a2 : a ≤ 16777216) (b1 : 1 ≤ b) (b2 : b ≤ 16777216) : 1 ≤ a * b ∧ a * b ≤ 281474976710656 := by
  constructor
  · have := Int.mul_le_mul a1 b1 (by omega) (by omega); omega
  · have := Int.mul_le_mul a2 b2 (by omega) (by omega); omega
theorem perm_within (a b : Int) (W : World) :
    Calls Tryz.prog 210 #[.int .i64 a, .int .i64 b] W fun e w' => e = .returned (.bool (sidesb a b)) ∧ W = w' := by
  by_cases c1 : 1 ≤ a
  case neg =>
    have d1 : decide (1 ≤ a) = false := decide_eq_false c1
    rw [show sidesb a b = false from decide_eq_false (fun h => c1 h.1)]
    go_enter Tryz.func210, Tryz.ntmps210
    go_wp2_with fail
    go_ret
    exact ⟨rfl, rfl⟩
  have d1 : decide (1 ≤ a) = true := decide_eq_true c1
  by_cases c2 : 1 ≤ b
  case neg =>
    have d2 : decide (1 ≤ b) = false := decide_eq_false c2
    rw [show sidesb a b = false from decide_eq_false (fun h => c2 h.2.2.1)]
    go_enter Tryz.func210, Tryz.ntmps210
    go_wp2_with fail
    go_ret
    exact ⟨rfl, rfl⟩
  have d2 : decide (1 ≤ b) = true := decide_eq_true c2
  by_cases c3 : a ≤ 16777216
  case neg =>
    have d3 : decide (a ≤ 16777216) = false := decide_eq_false c3
    rw [show sidesb a b = false from decide_eq_false (fun h => c3 h.2.1)]
    go_enter Tryz.func210, Tryz.ntmps210
    go_wp2_with fail
    go_ret
    exact ⟨rfl, rfl⟩
  have d3 : decide (a ≤ 16777216) = true := decide_eq_true c3
  by_cases c4 : b ≤ 16777216
  case neg =>
    have d4 : decide (b ≤ 16777216) = false := decide_eq_false c4
    rw [show sidesb a b = false from decide_eq_false (fun h => c4 h.2.2.2.1)]
    go_enter Tryz.func210, Tryz.ntmps210
    go_wp2_with fail
    go_ret
    exact ⟨rfl, rfl⟩
  have d4 : decide (b ≤ 16777216) = true := decide_eq_true c4
  obtain ⟨m0, m1⟩ := mul_bd c1 c3 c2 c4
  have hw : IntKind.i64.wrap (a * b) = a * b := IntWalk.i64_in _ (by omega)
  have hs : sidesb a b = decide (a * b ≤ 16777216) := by
    unfold sidesb
    congr 1
    apply propext
    constructor
    · exact fun h => h.2.2.2.2
    · exact fun h => ⟨c1, c3, c2, c4, h⟩
  rw [hs]
  clear hs
  by_cases c5 : a * b ≤ 16777216
  · have d5 : decide (a * b ≤ 16777216) = true := decide_eq_true c5
    rw [d5]
    go_enter Tryz.func210, Tryz.ntmps210
    go_wp2_with fail
    go_ret
    exact ⟨rfl, rfl⟩
  · have d5 : decide (a * b ≤ 16777216) = false := decide_eq_false c5
    rw [d5]
    go_enter Tryz.func210, Tryz.ntmps210
    go_wp2_with fail
    go_ret
    exact ⟨rfl, rfl⟩
end Go.Proofs.YtbhnlfgccldmaaaGreat
/- Package perm: the greatest common divisor's other half, in numbers. -/
namespace Go.Proofs.YtbhnlfgccldmaaaGreat
open Go.ChangeShapes Go.WideShapes Go.ChangeAt Go.RowKit
set_option linter.unusedVariables false
/-- The invariant of the search for an inverse: a x leaves r, a y leaves s, modulo m; the signs alternate. -/
def InvOk (a m r s : Nat) (x y : Int) : Prop :=
  (0 < r ∧ -(m : Int) ≤ x ∧ x ≤ m) ∧
  (∃ k : Int, (a : Int) * x = r + k * m) ∧ (∃ k : Int, (a : Int) * y = s + k * m) ∧ Nat.gcd r s = Nat.gcd a m ∧
  ∃ X Y : Nat, X * s + Y * r = m ∧ ((x = X ∧ y = -Y) ∨ (x = -X ∧ y = Y))
theorem invOk_start (a m : Nat) (h0 : 0 < m) : InvOk a m m (a % m) 0 1 := by
  refine ⟨⟨h0, by omega, by omega⟩, ⟨-1, by omega⟩, ⟨((a / m : Nat) : Int), ?_⟩, ?_, 0, 1, by omega, .inr ⟨rfl, rfl⟩⟩
  · have := Nat.div_add_mod a m
    rw [Int.mul_one, ← Int.natCast_mul, ← Int.natCast_add]
    congr 1
    rw [Nat.mul_comm]; omega
  · rw [Nat.gcd_comm m, ← Nat.gcd_rec, Nat.gcd_comm]
theorem invOk_y {a m r s : Nat} {x y : Int} (h : InvOk a m r s x y) : -(m : Int) ≤ y ∧ y ≤ m := by
  obtain ⟨⟨hr, _, _⟩, _, _, _, X, Y, hm, hsg⟩ := h
  have h2 : Y ≤ Y * r := Nat.le_mul_of_pos_right Y hr
  rcases hsg with ⟨rfl, rfl⟩ | ⟨rfl, rfl⟩ <;> omega
theorem invOk_step {a m r s : Nat} {x y : Int} (h : InvOk a m r s x y) (hs : 0 < s) : InvOk a m s (r % s) y (x - ((r / s : Nat) : Int) * y) := by
  have hy := invOk_y h
  obtain ⟨_, ⟨k1, e1⟩, ⟨k2, e2⟩, hg, X, Y, hm, hsg⟩ := h
  have hd := Nat.div_add_mod r s
  have hd' : (r : Int) = (s : Int) * ((r / s : Nat) : Int) + ((r % s : Nat) : Int) := by rw [← Int.natCast_mul, ← Int.natCast_add, hd]
  refine ⟨⟨hs, hy⟩, ⟨k2, e2⟩, ⟨k1 - ((r / s : Nat) : Int) * k2, ?_⟩, ?_, Y, X + r / s * Y, ?_, ?_⟩
  · rw [Int.mul_sub, e1, show (a : Int) * (((r / s : Nat) : Int) * y) = ((r / s : Nat) : Int) * ((a : Int) * y) by grind, e2]
    grind
  · rw [Nat.gcd_comm s, ← Nat.gcd_rec, Nat.gcd_comm]; exact hg
  · have : Y * (r % s) + Y * (s * (r / s)) = Y * r := by rw [← Nat.mul_add, Nat.add_comm (r % s), hd]
    rw [Nat.add_mul, ← hm, ← this]
    grind
  · rcases hsg with ⟨h1, h2⟩ | ⟨h1, h2⟩
    · refine .inr ⟨h2, ?_⟩
      rw [h1, h2]; push_cast; grind
    · refine .inl ⟨h2, ?_⟩
      rw [h1, h2]; push_cast; grind
theorem invOk_q {a m r s : Nat} {x y : Int} (h : InvOk a m r s x y) : -(m : Int) ≤ ((r / s : Nat) : Int) * y ∧ ((r / s : Nat) : Int) * y ≤ m := by
  obtain ⟨_, _, _, _, X, Y, hm, hsg⟩ := h
  have h1 : r / s * Y ≤ Y * r := by rw [Nat.mul_comm]; exact Nat.mul_le_mul_left Y (Nat.div_le_self r s)
  have h2 : (((r / s * Y : Nat)) : Int) = ((r / s : Nat) : Int) * (Y : Int) := Int.natCast_mul _ _
  rcases hsg with ⟨_, rfl⟩ | ⟨_, rfl⟩
  · rw [Int.mul_neg]; omega
  · omega
theorem tmod_twice {x : Int} {m : Nat} (hm : 0 < m) : (x.tmod m + m).tmod m = x % m ∧ -(m : Int) < x.tmod m ∧ x.tmod m < m := by
  have hm' : (0 : Int) < m := by omega
  have h1 := Int.tmod_lt_of_pos x hm'
  have h2 : -(m : Int) < x.tmod m := by
    have := Int.lt_tmod_of_pos x hm'
    omega
  refine ⟨?_, h2, h1⟩
  rw [Int.tmod_eq_emod_of_nonneg (by omega), Int.add_emod_right]
  exact Int.emod_eq_emod_iff_emod_sub_eq_zero.2 (by
    have := Int.mul_tdiv_add_tmod x m
    rw [show x.tmod m - x = -(m * x.tdiv m) by omega]
    simp)
/-- At the end. -/
theorem invOk_end {a m r : Nat} {x y : Int} (h : InvOk a m r 0 x y) (hg : Nat.gcd a m = 1) (hm : 0 < m) : (-(m : Int) ≤ x ∧ x ≤ m) ∧ ∃ v : Nat, x % m = v ∧ v < m ∧ a * v % m = 1 % m := by
  obtain ⟨⟨_, b1, b2⟩, ⟨k1, e1⟩, _, hgr, _⟩ := h
  rw [Nat.gcd_zero_right, hg] at hgr
  subst hgr
  have h0 := Int.emod_nonneg x (show (m : Int) ≠ 0 by omega)
  have h1 := Int.emod_lt_of_pos x (show (0 : Int) < m by omega)
  refine ⟨⟨b1, b2⟩, (x % m).toNat, by omega, by omega, ?_⟩
  have e : (((a * (x % m).toNat % m : Nat)) : Int) = ((1 % m : Nat) : Int) := by
    push_cast
    rw [Int.toNat_of_nonneg h0, Int.mul_emod, Int.emod_emod_of_dvd _ (Int.dvd_refl _), ← Int.mul_emod, e1, Int.add_mul_emod_self_right]
    rfl
  exact_mod_cast e
end Go.Proofs.YtbhnlfgccldmaaaGreat
/- Package perm: Stride, the inverse, tables of coprime sides; reference 8's Stride. -/
namespace Go.Proofs.YtbhnlfgccldmaaaGreat
open Go.ChangeShapes Go.WideShapes Go.ChangeAt Go.RowKit
set_option linter.unusedVariables false
theorem mul_cast (a b : Nat) : ((a : Int)) * (b : Int) = ((a * b : Nat) : Int) := (Int.natCast_mul a b).symm
theorem flat_lt {a b i j : Nat} (hj : j < b) (hi : i < a) : j * a + i < a * b := by
  have := Nat.mul_le_mul_right a (show j + 1 ≤ b from hj)
  rw [Nat.succ_mul] at this
  rw [Nat.mul_comm a b]; omega
theorem flat_parts {a i j : Nat} (hi : i < a) : (j * a + i) % a = i ∧ (j * a + i) / a = j := by
  constructor
  · rw [Nat.add_comm, Nat.add_mul_mod_self_right, Nat.mod_eq_of_lt hi]
  · rw [Nat.add_comm, Nat.add_mul_div_right _ _ (by omega), Nat.div_eq_of_lt hi, Nat.zero_add]
end Go.Proofs.YtbhnlfgccldmaaaGreat
/- Package perm: the inverse modulo a number, tables of two sides, Crt; the page's example of layer 8. -/
namespace Go.Proofs.YtbhnlfgccldmaaaGreat
open Go.ChangeShapes Go.WideShapes Go.ChangeAt Go.RowKit
set_option linter.unusedVariables false
theorem coprime_ok (a b : Nat) (W : World) (hs : sidesb a b = true) (hg : Nat.gcd a b = 1) :
    Calls Tryz.prog 194 #[.int .i64 a, .int .i64 b] W fun e w' => e = .returned (.int .i64 0) ∧ Below W.heap.size W w' := by
  have ab : a ≤ 16777216 ∧ b ≤ 16777216 := by
    obtain ⟨m, n, e1, e2, _, _, _, _, _⟩ := sides_yes hs
    omega
  have H := fun w => perm_within a b w
  rw [hs] at H
  have H := Lib.hid H
  have G := fun w => fact_gcd a b w (by omega) (by omega)
  rw [gcdz_nat, hg] at G
  have G := Lib.hid G
  clear hs hg ab
  go_enter Tryz.func194, Tryz.ntmps194
  go_wp2_with fail
  refine (H.out _).mono ?_
  rintro e w1 ⟨rfl, rfl⟩
  go_wp2_with fail
  refine (G.out _).mono ?_
  rintro e w1 ⟨rfl, b1⟩
  go_wp2_with fail
  go_ret
  exact ⟨rfl, b1⟩
set_option maxRecDepth 100000 in
theorem perm_inv (a m : Nat) (W : World) (hm : 1 ≤ m) (hm2 : m ≤ 16777216) (ha : a ≤ 16777216) (hg : Nat.gcd a m = 1) :
    Calls Tryz.prog 196 #[.int .i64 a, .int .i64 m] W fun e w' => ∃ v : Nat, e = .returned (.int .i64 (v : Int)) ∧ v < m ∧ a * v % m = 1 % m ∧ Below W.heap.size W w' := by
  have hB : Below W.heap.size W W := Below.refl _ _
  have db : ((m : Int) == 0) = false := by simp; omega
  have db2 : ¬ ((m : Int) = 0) := by omega
  have db3 : ¬ (m = 0) := by omega
  have q1 : a % m < m := Nat.mod_lt _ (by omega)
  have hmod0 : ((a : Int)).tmod (m : Int) = ((a % m : Nat) : Int) := rfl
  have hmod1 : ((a : Int)) % (m : Int) = ((a % m : Nat) : Int) := rfl
  have I0 := Lib.hid (invOk_start a m (by omega))
  have IE := Lib.hid (fun r x y h => invOk_end (a := a) (m := m) (r := r) (x := x) (y := y) h hg (by omega))
  generalize a % m = a0 at *
  go_enter Tryz.func196, Tryz.ntmps196
  go_wp2_with fail
  go_quiet (fail)
  go_wp2_with fail
  go_loopw [5, 6, 7, 8] (fun vr vs vx vy wr => ∃ (r s : Nat) (x y : Int), vr = .int .i64 (r : Int) ∧ vs = .int .i64 (s : Int) ∧ vx = .int .i64 x ∧ vy = .int .i64 y ∧ r ≤ m ∧ s < m + 1 ∧ Hid (InvOk a m r s x y) ∧ Below W.heap.size W wr) (fun _ vs _ _ _ => (intOf vs).toNat)
  case atStart => exact ⟨m, a0, 0, 1, rfl, rfl, rfl, rfl, Nat.le_refl _, by omega, I0, below_drewN hB _⟩
  case round =>
    clear hB I0
    obtain ⟨r, s, x, y, rfl, rfl, rfl, rfl, hr, hs, HI, hB⟩ := hrel
    by_cases h0 : s = 0
    · subst h0
      obtain ⟨⟨b1, b2⟩, v, hv, hv2, hv3⟩ := IE.out r x y HI.out
      obtain ⟨t1, t2, t3⟩ := tmod_twice (x := x) (m := m) (by omega)
      rw [hv] at t1
      clear HI IE hv
      have hx1 : ((x.tmod (m : Int)) + (m : Int)) % (m : Int) = (v : Int) := by
        rw [← Int.tmod_eq_emod_of_nonneg (by omega)]; exact t1
      have hw1 : IntKind.i64.wrap (x.tmod (m : Int) + (m : Int)) = x.tmod (m : Int) + (m : Int) := IntWalk.i64_in _ (by omega)
      go_wp2_with fail
      go_ret
      exact ⟨v, by first | rfl | (simp only [t1]; rfl) | (simp only [hx1]; rfl), hv2, hv3, hB⟩
    · have hz : ((s : Int) == 0) = false := by simp; omega
      have hz2 : ((s : Int) != 0) = true := by simp; omega
      have hz3 : ¬ ((s : Int) = 0) := by omega
      obtain ⟨qn, hqn⟩ : ∃ qn, r / s = qn := ⟨_, rfl⟩
      obtain ⟨qs, hqs⟩ : ∃ qs, qn * s = qs := ⟨_, rfl⟩
      obtain ⟨rs, hrs⟩ : ∃ rs, r % s = rs := ⟨_, rfl⟩
      have hq : ((r : Int)).tdiv (s : Int) = ((qn : Nat) : Int) := by rw [← hqn]; rfl
      have hq' : ((r : Int)) / (s : Int) = ((qn : Nat) : Int) := hq
      have HI2 := invOk_step HI.out (by omega)
      have hcq := invOk_q HI.out
      have hlt : r % s < s := Nat.mod_lt _ (by omega)
      have hqr : r / s ≤ r := Nat.div_le_self r s
      have hds := Nat.div_add_mod r s
      rw [hqn] at HI2 hcq hqr hds
      rw [hrs] at HI2 hlt hds
      rw [Nat.mul_comm, hqs] at hds
      obtain ⟨y0, y1⟩ := invOk_y HI.out
      have x0 := HI.out.1.2.1
      have x1 := HI.out.1.2.2
      have hw1 : IntKind.i64.wrap ((qn : Nat) : Int) = ((qn : Nat) : Int) := IntWalk.i64_in _ (by omega)
      have hw2 : IntKind.i64.wrap (((qn : Nat) : Int) * (s : Int)) = ((qs : Nat) : Int) := by rw [mul_cast, hqs]; exact IntWalk.i64_in _ (by omega)
      have hw3 : IntKind.i64.wrap ((r : Int) - ((qs : Nat) : Int)) = ((rs : Nat) : Int) := by rw [IntWalk.i64_in _ (by omega)]; omega
      obtain ⟨qy, hqy⟩ : ∃ qy, ((qn : Nat) : Int) * y = qy := ⟨_, rfl⟩
      rw [hqy] at HI2 hcq
      obtain ⟨c0, c1⟩ := hcq
      have hw4 : IntKind.i64.wrap (((qn : Nat) : Int) * y) = qy := by rw [hqy]; exact IntWalk.i64_in _ (by omega)
      have hw5 : IntKind.i64.wrap (x - qy) = x - qy := IntWalk.i64_in _ (by omega)
      have HI2 := Lib.hid HI2
      clear HI hqs hrs hqn hqy
      go_wp2_with fail
      go_roundw
      case rel => exact ⟨s, rs, y, x - qy, rfl, rfl, rfl, rfl, by omega, by omega, HI2, hB⟩
      case measure => (first | (simp [intOf]; done) | (simp [intOf]; omega) | (simp only [intOf]; omega))
/-- A table of two sides: i times d and j times l, modulo all. -/
def gridn (a b d l k : Nat) : Nat := (k / b * d + k % b * l) % (a * b)
def gridl (a b d l : Nat) : List Int := tab (a * b) fun k => ((gridn a b d l k : Nat) : Int)
theorem gridl_len (a b d l : Nat) : (gridl a b d l).length = a * b := tab_len _ _
theorem gridl_at (a b d l k : Nat) (h : k < a * b) : (gridl a b d l).getD k 0 = ((gridn a b d l k : Nat) : Int) := tab_at (a * b) (fun k => ((gridn a b d l k : Nat) : Int)) k h
theorem gridl_wf (a b d l : Nat) (h : a * b ≤ 16777216) : ∀ z ∈ gridl a b d l, (Lit.int .i64 z).wf = true := by
  intro z hz
  unfold gridl tab at hz
  obtain ⟨k, hk, rfl⟩ := List.mem_map.1 hz
  have hk' : k < a * b := by simpa using hk
  have : gridn a b d l k < a * b := Nat.mod_lt _ (by omega)
  exact WalkArith.wf_i64 ⟨by omega, by omega⟩
theorem grid_flat {a b d l i j : Nat} (hi : i < a) (hj : j < b) : i * b + j < a * b ∧ (gridl a b d l).getD (i * b + j) 0 = (((i * d + j * l) % (a * b) : Nat) : Int) := by
  have h := flat_lt (a := b) (b := a) hi hj
  rw [Nat.mul_comm b a] at h
  refine ⟨h, ?_⟩
  rw [gridl_at _ _ _ _ _ h]
  obtain ⟨h1, h2⟩ := flat_parts (j := i) hj
  unfold gridn
  rw [h1, h2]
theorem grid_next (i d j l N : Nat) : ((i * d + j * l) % N + l) % N = (i * d + (j + 1) * l) % N := by
  rw [Nat.mod_add_mod, Nat.succ_mul, Nat.add_assoc]
set_option maxRecDepth 100000 in
set_option maxHeartbeats 1000000 in
theorem perm_grid (a b d l : Nat) (W : World) (ha : 1 ≤ a) (hb : 1 ≤ b) (h : a * b ≤ 16777216) (hd : d ≤ 16777216) (hl : l ≤ 16777216) :
    Calls Tryz.prog 195 #[.int .i64 a, .int .i64 b, .int .i64 d, .int .i64 l] W (GivesI W (a * b) (gridl a b d l)) := by
  have hmk := make_i64 (a * b) (by omega)
  have GF := Lib.hid (fun i j hi hj => grid_flat (a := a) (b := b) (d := d) (l := l) (i := i) (j := j) hi hj)
  have GN := Lib.hid (fun i j => grid_next i d j l (a * b))
  have SW := Lib.hid (gridl_wf a b d l h)
  have SL := Lib.hid (gridl_len a b d l)
  have hw0 : IntKind.i64.wrap ((a : Int) * (b : Int)) = ((a * b : Nat) : Int) := by rw [mul_cast]; exact IntWalk.i64_in _ (by omega)
  have a2 : a ≤ a * b := Nat.le_mul_of_pos_right a (by omega)
  have b2 : b ≤ a * b := Nat.le_mul_of_pos_left b (by omega)
  have F0 := Lib.hid (FillingI.start W 3 (gridl a b d l) (a * b))
  have hB0 := (Below.refl W.heap.size W).alloc (Nat.le_refl _) (.cells (Array.replicate (a * b) (.int .i64 0)) 3)
  have M1 := Lib.hid (fun i (hi : i < a) => (show i * b ≤ a * b from Nat.mul_le_mul_right b (by omega)))
  have M2 := Lib.hid (fun i (hi : i < a) => (show i * d ≤ 16777216 * 16777216 from Nat.mul_le_mul (by omega) hd))
  have MS := Lib.hid (fun i => (show i * b + b = (i + 1) * b by rw [Nat.succ_mul]))
  have N0 : 0 < a * b := by omega
  generalize gridl a b d l = ys at *
  generalize hN : a * b = N at *
  have HNE := Lib.hid hN
  clear hN
  have dN : ((N : Int) == 0) = false := by simp; omega
  have dN2 : ¬ ((N : Int) = 0) := by omega
  have dN3 : ¬ (N = 0) := by omega
  go_enter Tryz.func195, Tryz.ntmps195
  go_wp2_with fail
  generalize W.alloc (.cells (Array.replicate N (.int .i64 0)) 3) = w1 at *
  go_loopw [20] (fun v wr => ∃ i : Nat, i ≤ a ∧ v = .int .i64 i ∧ Hid (FillingI wr W.heap.size 3 ys (i * b) N) ∧ Below W.heap.size W wr) (fun v _ => a - (intOf v).toNat)
  case atStart => exact ⟨0, Nat.zero_le _, rfl, Lib.hid (by rw [Nat.zero_mul]; exact F0.out), hB0⟩
  case round =>
    clear F0 hB0
    obtain ⟨i, hi, rfl, HF, hB⟩ := hrel
    by_cases hlt : i < a
    · have hd1 : decide ((i : Int) < (a : Int)) = true := decide_eq_true (by omega)
      have m1 := M1.out i hlt
      have m2 := M2.out i hlt
      have hw1 : IntKind.i64.wrap ((i : Int) * (d : Int)) = ((i * d : Nat) : Int) := by rw [mul_cast]; exact IntWalk.i64_in _ (by omega)
      have hm1 : (((i * d : Nat) : Int)).tmod (N : Int) = ((i * d % N : Nat) : Int) := rfl
      have hm2 : (((i * d : Nat) : Int)) % (N : Int) = ((i * d % N : Nat) : Int) := rfl
      have HZ := Lib.hid (show i * d % N = (i * d + 0 * l) % N by rw [Nat.zero_mul, Nat.add_zero])
      obtain ⟨di, hdi⟩ : ∃ di, i * d = di := ⟨_, rfl⟩
      rw [hdi] at hw1 hm1 hm2 HZ m2
      generalize di % N = d0 at *
      go_wp2_with fail
      go_loopw [12, 29] (fun t v wr => ∃ j : Nat, j ≤ b ∧ v = .int .i64 j ∧ t = .int .i64 (((di + j * l) % N : Nat) : Int) ∧ Hid (FillingI wr W.heap.size 3 ys (i * b + j) N) ∧ Below W.heap.size W wr) (fun _ v _ => b - (intOf v).toNat)
      case atStart => exact ⟨0, Nat.zero_le _, rfl, by rw [← HZ.out], Lib.hid (by rw [Nat.add_zero]; exact HF.out), hB⟩
      case round =>
        clear HF hB
        obtain ⟨j, hj, rfl, rfl, HF, hB⟩ := hrel
        have hsz := HF.out.lt
        by_cases hlt2 : j < b
        · have hd2 : decide ((j : Int) < (b : Int)) = true := decide_eq_true (by omega)
          obtain ⟨fl, fa⟩ := GF.out i j hlt hlt2
          rw [hdi] at fa
          have hst := Lib.hid (HF.out.step fl SL.out fa)
          obtain ⟨u, hu⟩ := HF.out.cell fl SL.out
          have hfr := HF.out.free (i * b + j)
          have HG := GN.out i j
          rw [hdi] at HG
          have ht : (di + j * l) % N < N := Nat.mod_lt _ N0
          have hw3 : IntKind.i64.wrap ((i : Int) * (b : Int)) = ((i * b : Nat) : Int) := by rw [mul_cast]; exact IntWalk.i64_in _ (by omega)
          have hw4 : IntKind.i64.wrap (((i * b : Nat) : Int) + (j : Int)) = ((i * b + j : Nat) : Int) := by rw [IntWalk.i64_in _ (by omega)]; omega
          have hm0 : (0 : Int) ≤ ((i * b + j : Nat) : Int) := by omega
          have hm3 : ((i * b + j : Nat) : Int) < (N : Int) := by omega
          have HN := Lib.hid (show i * b + j + 1 = i * b + (j + 1) by omega)
          clear fa
          generalize ht2 : (di + (j + 1) * l) % N = t2 at *
          have HT2 := Lib.hid ht2
          clear ht2
          generalize (di + j * l) % N = t at *
          have hw5 : IntKind.i64.wrap ((t : Int) + (l : Int)) = (t : Int) + (l : Int) := IntWalk.i64_in _ (by omega)
          have hm4 : ((t : Int) + (l : Int)).tmod (N : Int) = ((t2 : Nat) : Int) := by
            rw [← HG, show ((t : Int) + (l : Int)) = ((t + l : Nat) : Int) from by omega]; rfl
          have hm5 : ((t : Int) + (l : Int)) % (N : Int) = ((t2 : Nat) : Int) := hm4
          generalize hk : i * b + j = k at *
          generalize hib : i * b = ib at *
          clear HG
          go_wp2_with fail
          go_roundw
          case rel => exact ⟨j + 1, by omega, by go_num, by rw [HT2.out], Lib.hid (by rw [← HN.out]; exact hst.out), hB.setCell (Nat.le_refl _) _⟩
          case measure => (first | (simp [intOf]; done) | (simp [intOf]; omega) | (simp only [intOf]; omega))
        · obtain rfl : j = b := by omega
          have hd2 : decide ((j : Int) < (j : Int)) = false := decide_eq_false (by omega)
          have HF2 := HF.out
          rw [MS.out i] at HF2
          have HF2 := Lib.hid HF2
          clear HF
          generalize (di + j * l) % N = t at *
          go_wp2_with fail
          go_roundw
          case rel => exact ⟨i + 1, by omega, by go_num, HF2, hB⟩
          case measure => (first | (simp [intOf]; done) | (simp [intOf]; omega) | (simp only [intOf]; omega))
    · obtain rfl : i = a := by omega
      have hd1 : decide ((i : Int) < (i : Int)) = false := decide_eq_false (by omega)
      have HF2 := HF.out
      rw [HNE.out] at HF2
      have HF2 := Lib.hid HF2
      go_wp2_with fail
      go_ret
      exact ⟨_, _, rfl, RowI.of_at (HF2.out.done SL.out) SW.out SL.out (by omega), hB⟩
end Go.Proofs.YtbhnlfgccldmaaaGreat
/- Package perm: Crt; the page's example of layer 8. -/
namespace Go.Proofs.YtbhnlfgccldmaaaGreat
open Go.ChangeShapes Go.WideShapes Go.ChangeAt Go.RowKit
set_option linter.unusedVariables false
/-- Crt, of what may be. -/
theorem perm_crt (a b : Nat) (W : World) (ha : 1 ≤ a) (hb : 1 ≤ b) (h : a * b ≤ 16777216) (hg : Nat.gcd a b = 1) :
    Calls Tryz.prog 177 #[.int .i64 a, .int .i64 b] W fun e w' => ∃ u v : Nat, u < a ∧ b * u % a = 1 % a ∧ v < b ∧ a * v % b = 1 % b ∧ GivesIOk W (a * b) (gridl a b (b * u) (a * v)) e w' := by
  have a2 : a ≤ a * b := Nat.le_mul_of_pos_right a (by omega)
  have b2 : b ≤ a * b := Nat.le_mul_of_pos_left b (by omega)
  have C := Lib.hid (fun w => coprime_ok a b w (sides_of ha hb h) hg)
  have I1 := Lib.hid (fun w => perm_inv b a w ha (by omega) (by omega) (by rw [Nat.gcd_comm]; exact hg))
  have I2 := Lib.hid (fun w => perm_inv a b w hb (by omega) (by omega) hg)
  have G := Lib.hid (fun u v w (hu : u < a) (hv : v < b) => perm_grid a b (b * u) (a * v) w ha hb h (Nat.le_trans (Nat.mul_le_mul_left b (by omega : u ≤ a)) (by rw [Nat.mul_comm]; exact h)) (Nat.le_trans (Nat.mul_le_mul_left a (by omega : v ≤ b)) h))
  have B1 := Lib.hid (fun u (hu : u < a) => (show b * u ≤ 16777216 from Nat.le_trans (Nat.mul_le_mul_left b (by omega : u ≤ a)) (by rw [Nat.mul_comm]; exact h)))
  have B2 := Lib.hid (fun v (hv : v < b) => (show a * v ≤ 16777216 from Nat.le_trans (Nat.mul_le_mul_left a (by omega : v ≤ b)) h))
  have hB : Below W.heap.size W W := Below.refl _ _
  go_enter Tryz.func177, Tryz.ntmps177
  go_wp2_with fail
  refine (C.out _).mono ?_
  rintro e w1 ⟨rfl, b1⟩
  have hB := hB.trans (b1.mono hB.size); clear b1
  go_wp2_with fail
  refine (I1.out _).mono ?_
  rintro e w1 ⟨u, rfl, hu, hu2, b1⟩
  have hB := hB.trans (b1.mono hB.size); clear b1
  have c1 := B1.out u hu
  obtain ⟨bu, hbu⟩ : ∃ bu, b * u = bu := ⟨_, rfl⟩
  rw [hbu] at c1
  have hw1 : IntKind.i64.wrap ((b : Int) * (u : Int)) = ((bu : Nat) : Int) := by rw [mul_cast, hbu]; exact IntWalk.i64_in _ (by omega)
  have HBU := Lib.hid hbu
  clear hbu
  go_wp2_with fail
  refine (I2.out _).mono ?_
  rintro e w1 ⟨v, rfl, hv, hv2, b1⟩
  have hB := hB.trans (b1.mono hB.size); clear b1
  have c2 := B2.out v hv
  obtain ⟨av, hav⟩ : ∃ av, a * v = av := ⟨_, rfl⟩
  rw [hav] at c2
  have hw2 : IntKind.i64.wrap ((a : Int) * (v : Int)) = ((av : Nat) : Int) := by rw [mul_cast, hav]; exact IntWalk.i64_in _ (by omega)
  have HAV := Lib.hid hav
  clear hav
  have G1 := fun w => G.out u v w hu hv
  rw [HBU.out, HAV.out] at G1
  have G1 := Lib.hid G1
  have HUL := Lib.hid hu
  have HVL := Lib.hid hv
  have HU := Lib.hid hu2
  have HV := Lib.hid hv2
  clear hu2 hv2 G B1 B2
  clear h hg hu hv
  go_wp2_with fail
  refine (G1.out _).mono ?_
  rintro e w1 ⟨p, k, rfl, hr, b1⟩
  have HR := Lib.hid hr
  clear hr
  have hB := hB.trans (b1.mono hB.size); clear b1
  go_wp2_with fail
  go_ret2
  exact ⟨u, v, HUL.out, HU.out, HVL.out, HV.out, _, _, rfl, by rw [HBU.out, HAV.out]; exact HR.out, hB⟩
end Go.Proofs.YtbhnlfgccldmaaaGreat
/- Tables of coprime sides: plain numbers. -/
namespace Go.Proofs.YtbhnlfgccldmaaaGreat
open Go.ChangeShapes Go.WideShapes Go.ChangeAt Go.RowKit
set_option linter.unusedVariables false
theorem cancel_mod {a b x y : Nat} (hg : Nat.gcd a b = 1) (h : (x * b) % a = (y * b) % a) : x % a = y % a := by
  have key : ∀ x y : Nat, x ≤ y → (x * b) % a = (y * b) % a → x % a = y % a := by
    intro x y hle h
    have d := mod_dvd (Nat.mul_le_mul_right b hle) h
    rw [← Nat.sub_mul] at d
    obtain ⟨c, hc⟩ := Nat.Coprime.dvd_of_dvd_mul_right hg d
    have e : y = x + a * c := by omega
    rw [e, Nat.add_mul_mod_self_left]
  rcases Nat.le_total x y with e | e
  · exact key x y e h
  · exact (key y x e h.symm).symm
theorem mod_a (a b x : Nat) : x % (a * b) % a = x % a := Nat.mod_mul_right_mod x a b
theorem mod_b (a b x : Nat) : x % (a * b) % b = x % b := Nat.mod_mul_left_mod x a b
theorem parts_eq {b i j : Nat} (h1 : i / b = j / b) (h2 : i % b = j % b) : i = j := by
  rw [← Nat.div_add_mod i b, ← Nat.div_add_mod j b, h1, h2]
theorem good_inj {a b i j : Nat} (hg : Nat.gcd a b = 1) (hi : i < a * b) (hj : j < a * b) (h : gridn a b b a i = gridn a b b a j) : i = j := by
  unfold gridn at h
  have ia : i / b < a := Nat.div_lt_of_lt_mul (by rw [Nat.mul_comm]; exact hi)
  have ja : j / b < a := Nat.div_lt_of_lt_mul (by rw [Nat.mul_comm]; exact hj)
  apply parts_eq (b := b)
  · have e := congrArg (· % a) h
    simp only [mod_a, Nat.add_mul_mod_self_right] at e
    have := cancel_mod hg e
    rwa [Nat.mod_eq_of_lt ia, Nat.mod_eq_of_lt ja] at this
  · have e := congrArg (· % b) h
    simp only [mod_b, Nat.mul_add_mod_self_right] at e
    have := cancel_mod (by rw [Nat.gcd_comm]; exact hg) e
    rwa [Nat.mod_mod, Nat.mod_mod] at this
theorem crt_parts {a b u v k : Nat} (hu : b * u % a = 1 % a) (hv : a * v % b = 1 % b) (hk : k < a * b) :
    gridn a b (b * u) (a * v) k % a = k / b ∧ gridn a b (b * u) (a * v) k % b = k % b ∧ gridn a b (b * u) (a * v) k < a * b := by
  have ka : k / b < a := Nat.div_lt_of_lt_mul (by rw [Nat.mul_comm]; exact hk)
  unfold gridn
  refine ⟨?_, ?_, Nat.mod_lt _ (by omega)⟩
  · rw [mod_a, show k % b * (a * v) = k % b * v * a by grind, Nat.add_mul_mod_self_right, Nat.mul_mod, hu, ← Nat.mul_mod, Nat.mul_one, Nat.mod_eq_of_lt ka]
  · rw [mod_b, show k / b * (b * u) = k / b * u * b by grind, Nat.mul_add_mod_self_right, Nat.mul_mod, hv, ← Nat.mul_mod, Nat.mul_one, Nat.mod_mod]
theorem crt_inj {a b u v i j : Nat} (hu : b * u % a = 1 % a) (hv : a * v % b = 1 % b) (hi : i < a * b) (hj : j < a * b) (h : gridn a b (b * u) (a * v) i = gridn a b (b * u) (a * v) j) : i = j := by
  obtain ⟨p1, p2, _⟩ := crt_parts hu hv hi
  obtain ⟨q1, q2, _⟩ := crt_parts hu hv hj
  rw [h] at p1 p2
  exact parts_eq (by rw [← p1, q1]) (by rw [← p2, q2])
theorem gridl_right {a b d l : Nat} (h0 : 0 < a * b) (hi : ∀ i j, i < a * b → j < a * b → gridn a b d l i = gridn a b d l j → i = j) : rgt (gridl a b d l) (a * b) (a * b) = true := by
  apply rgt_of
  · intro j hj
    rw [gridl_at _ _ _ _ _ hj]
    have : gridn a b d l j < a * b := Nat.mod_lt _ h0
    omega
  · intro i j hij hj e
    rw [gridl_at _ _ _ _ _ (by omega : i < a * b), gridl_at _ _ _ _ _ hj] at e
    have := hi i j (by omega) hj (Int.ofNat_inj.1 e)
    omega
end Go.Proofs.YtbhnlfgccldmaaaGreat
/- Numbers of plans: Good and Thomas, Rader. Plain numbers: no Go text. -/
namespace Go.Proofs.YtbhnlfgccldmaaaGreat
open Go.ChangeShapes Go.WideShapes Go.ChangeAt Go.RowKit
set_option linter.unusedVariables false
set_option linter.unusedSimpArgs false
theorem nodup_le : ∀ (n : Nat) (l : List Nat), l.Nodup → (∀ x ∈ l, x < n) → l.length ≤ n
  | 0, l, _, h => by
    cases l with
    | nil => simp
    | cons x l => exact absurd (h x (List.mem_cons_self ..)) (by omega)
  | n + 1, l, hd, h => by
    by_cases hn : n ∈ l
    · have h1 := nodup_le n (l.erase n) (hd.erase n) (fun x hx => by
        have h2 := h x (List.mem_of_mem_erase hx)
        have h3 : x ≠ n := fun e => by subst e; exact (List.Nodup.not_mem_erase hd) hx
        omega)
      rw [List.length_erase_of_mem hn] at h1
      omega
    · have := nodup_le n l hd (fun x hx => by
        have h2 := h x hx
        have h3 : x ≠ n := fun e => hn (e ▸ hx)
        omega)
      omega
theorem perm_range : ∀ (n : Nat) (l : List Nat), l.Nodup → l.length = n → (∀ x ∈ l, x < n) → l.Perm (List.range n)
  | 0, l, _, h, _ => by
    obtain rfl := List.eq_nil_of_length_eq_zero h
    exact .nil
  | n + 1, l, hd, hl, h => by
    have hn : n ∈ l := Classical.byContradiction fun hn => by
      have := nodup_le n l hd (fun x hx => by
        have h2 := h x hx
        have h3 : x ≠ n := fun e => hn (e ▸ hx)
        omega)
      omega
    have h1 := perm_range n (l.erase n) (hd.erase n) (by rw [List.length_erase_of_mem hn]; omega) (fun x hx => by
      have h2 := h x (List.mem_of_mem_erase hx)
      have h3 : x ≠ n := fun e => by subst e; exact (List.Nodup.not_mem_erase hd) hx
      omega)
    rw [List.range_succ]
    exact (List.perm_cons_erase hn).trans ((h1.cons n).trans (List.perm_append_comm (l₁ := [n])))
theorem nodup_map : ∀ {α β : Type} (f : α → β) (l : List α), (∀ x ∈ l, ∀ y ∈ l, f x = f y → x = y) → l.Nodup → (l.map f).Nodup := fun f l h hd => by
  induction l with
  | nil => exact List.nodup_nil
  | cons x l ih =>
    rw [List.map_cons, List.nodup_cons]
    rw [List.nodup_cons] at hd
    refine ⟨fun hm => ?_, ih (fun a ha b hb => h a (List.mem_cons_of_mem _ ha) b (List.mem_cons_of_mem _ hb)) hd.2⟩
    obtain ⟨y, hy, e⟩ := List.mem_map.1 hm
    have := h y (List.mem_cons_of_mem _ hy) x (List.mem_cons_self ..) e
    subst this
    exact hd.1 hy
theorem inj_perm (n : Nat) (p : Nat → Nat) (h1 : ∀ i, i < n → p i < n) (h2 : ∀ i j, i < n → j < n → p i = p j → i = j) : ((List.range n).map p).Perm (List.range n) := by
  refine perm_range n _ (nodup_map p _ (fun x hx y hy e => h2 x y (List.mem_range.1 hx) (List.mem_range.1 hy) e) List.nodup_range) (by simp) (fun x hx => ?_)
  obtain ⟨i, hi, rfl⟩ := List.mem_map.1 hx
  exact h1 i (List.mem_range.1 hi)
/-- Good and Thomas: the number that comes to k. -/
theorem good_at {r ra rb : Int} {a b : Nat} (xs : List Int) (hl : xs.length = a * b) (hn : fm (r ^ (a * b)) = 1) (ha : fm ra = fm (r ^ b)) (hb : fm rb = fm (r ^ a))
    (hinj : ∀ i j, i < a * b → j < a * b → gridn a b b a i = gridn a b b a j → i = j)
    (gs : List Int) (hg : ∀ i j, i < a → j < b → gs.getD (i * b + j) 0 = xs.getD (gridn a b b a (i * b + j)) 0) {i j N : Nat} (hi : i < a) (hj : j < b) (hN : N < a * b) (h1 : N % a = i) (h2 : N % b = j) :
    (rowsl rb (colsl ra gs a b) a b).getD (i * b + j) 0 = (horl r xs (a * b)).getD N 0 := by
  rw [horl_sm r xs (a * b) _ hl hN, rowsl, gridf_at a b _ hi hj, horl_sm rb _ b j (partl_len _ _ _) hj]
  have e1 : fm (sm (fun q => (partl (colsl ra gs a b) b i).getD q 0 * rb ^ (q * j)) b) = fm (sm (fun q => sm (fun p => xs.getD (gridn a b b a (p * b + q)) 0 * r ^ (gridn a b b a (p * b + q) * N)) a) b) := by
    refine sm_congr b fun q hq => ?_
    rw [partl_at _ _ _ _ hq, colsl, gridf_at a b _ hi hq, horl_sm ra _ a i (coll_len _ _ _ _) hi]
    rw [fm_mul_l, Int.mul_comm, sm_mul]
    refine sm_congr a fun p hp => ?_
    rw [coll_at _ _ _ _ _ hp, hg p q hp hq]
    have e1 : fm (ra ^ (p * i)) = fm (r ^ (b * (p * i))) := by
      rw [← Fld.fm_pow1 ra, ha, Fld.fm_pow1, ← Int.pow_mul]
    have e2 : fm (rb ^ (q * j)) = fm (r ^ (a * (q * j))) := by
      rw [← Fld.fm_pow1 rb, hb, Fld.fm_pow1, ← Int.pow_mul]
    have h3 : fm (r ^ (gridn a b b a (p * b + q) * N)) = fm (r ^ (b * (p * i)) * r ^ (a * (q * j))) := by
      rw [← Int.pow_add]
      refine pow_eqv hn ?_
      have g1 : (p * b + q) / b = p := by rw [Nat.mul_comm, Nat.mul_add_div (by omega)]; simp [Nat.div_eq_of_lt hq]
      have g2 : (p * b + q) % b = q := by rw [Nat.mul_comm, Nat.mul_add_mod]; exact Nat.mod_eq_of_lt hq
      unfold gridn
      rw [g1, g2, Nat.mod_mul_mod]
      have d1 := Nat.div_add_mod N a
      have d2 := Nat.div_add_mod N b
      rw [h1] at d1
      rw [h2] at d2
      have k1 : p * b * N = b * (p * i) + (a * b) * (p * (N / a)) := by
        conv => lhs; rw [← d1]
        simp only [Nat.mul_add, Nat.mul_assoc, Nat.mul_comm, Nat.mul_left_comm]
        omega
      have k2 : q * a * N = a * (q * j) + (a * b) * (q * (N / b)) := by
        conv => lhs; rw [← d2]
        simp only [Nat.mul_add, Nat.mul_assoc, Nat.mul_comm, Nat.mul_left_comm]
        omega
      rw [Nat.add_mul, k1, k2, show b * (p * i) + a * b * (p * (N / a)) + (a * (q * j) + a * b * (q * (N / b))) = (b * (p * i) + a * (q * j)) + (a * b) * (p * (N / a) + q * (N / b)) by rw [Nat.mul_add]; omega, Nat.add_mul_mod_self_left]
    rw [show rb ^ (q * j) * (xs.getD (gridn a b b a (p * b + q)) 0 * ra ^ (p * i)) = xs.getD (gridn a b b a (p * b + q)) 0 * (ra ^ (p * i) * rb ^ (q * j)) by grind]
    refine mul_eqv ?_
    rw [h3, ← fm_mul_l, e1, fm_mul_l]
    exact mul_eqv e2
  rw [e1, ← sm_swap (fun p q => xs.getD (gridn a b b a (p * b + q)) 0 * r ^ (gridn a b b a (p * b + q) * N)), ← sm_split (fun t => xs.getD (gridn a b b a t) 0 * r ^ (gridn a b b a t * N))]
  rw [sm_perm (fun t => xs.getD t 0 * r ^ (t * N)) (a * b) (gridn a b b a) (inj_perm _ _ (fun t ht => Nat.mod_lt _ (by omega)) hinj)]
/-- A product around at k. -/
theorem csn_sm (xs ys : List Int) (n k : Nat) : ∀ i, csn xs ys n i k = fm (sm (fun t => xs.getD t 0 * ys.getD ((k + n - t) % n) 0) i)
  | 0 => rfl
  | i + 1 => by rw [csn, csn_sm xs ys n k i, fm_add_fm, sm_succ]
theorem cycl_sm (xs ys : List Int) (n k : Nat) (hx : xs.length = n) (hk : k < n) : (cycl xs ys).getD k 0 = fm (sm (fun t => xs.getD t 0 * ys.getD ((k + n - t) % n) 0) n) := by
  unfold cycl
  rw [hx, tab_at _ _ _ hk, csn_sm]
theorem sm_head (f : Nat → Int) : ∀ n, sm f (n + 1) = f 0 + sm (fun t => f (t + 1)) n
  | 0 => by simp [sm]
  | n + 1 => by rw [sm_succ, sm_head f n, sm_succ]; omega
/-- Rader: the transform at g to the power n less i. -/
theorem rader_at {r : Int} {q g n : Nat} (xs ms l : List Int) (hq : q = n + 1) (h0 : 0 < n) (hl : xs.length = q) (hr : fm (r ^ q) = 1)
    (hg1 : ∀ i, 0 < g ^ i % q) (hinj : ∀ i j, i < n → j < n → g ^ i % q = g ^ j % q → i = j) (hgn : ∀ i, g ^ (i + n) % q = g ^ i % q)
    (hml : ms.length = n) (hm : ∀ j, j < n → ms.getD j 0 = xs.getD (g ^ j % q) 0) (hlt : ∀ j, j < n → fm (l.getD j 0) = fm (r ^ (g ^ ((n - j) % n) % q))) {i : Nat} (hi : i < n) :
    fm (xs.getD 0 0 + (cycl ms l).getD i 0) = (horl r xs q).getD (g ^ ((n - i) % n) % q) 0 := by
  have hmod : ∀ c i, g ^ (i + c * n) % q = g ^ i % q := by
    intro c
    induction c with
    | zero => intro i; simp
    | succ c ih => intro i; rw [Nat.add_mul, Nat.one_mul, ← Nat.add_assoc, hgn, ih]
  have hk : g ^ ((n - i) % n) % q < q := Nat.mod_lt _ (by omega)
  rw [horl_sm r xs q _ hl hk, cycl_sm ms l n i hml hi, fm_add_r]
  have e2 := sm_head (fun j => xs.getD j 0 * r ^ (j * (g ^ ((n - i) % n) % q))) n
  rw [← hq] at e2
  rw [e2, Nat.zero_mul, Int.pow_zero, Int.mul_one]
  have e1 : fm (sm (fun t => ms.getD t 0 * l.getD ((i + n - t) % n) 0) n) = fm (sm (fun t => xs.getD (t + 1) 0 * r ^ ((t + 1) * (g ^ ((n - i) % n) % q))) n) := by
    rw [← sm_perm (fun t => xs.getD (t + 1) 0 * r ^ ((t + 1) * (g ^ ((n - i) % n) % q))) n (fun j => g ^ j % q - 1) (inj_perm _ _ (fun t _ => by have := hg1 t; have : g ^ t % q < q := Nat.mod_lt _ (by omega); omega) (fun a b ha hb e => hinj a b ha hb (by have := hg1 a; have := hg1 b; omega)))]
    refine sm_congr n fun t ht => ?_
    have h1 : g ^ t % q - 1 + 1 = g ^ t % q := by have := hg1 t; omega
    rw [h1, hm t ht]
    refine mul_eqv ?_
    rw [hlt _ (Nat.mod_lt _ h0)]
    refine pow_eqv hr ?_
    rw [Nat.mod_mod, ← Nat.mul_mod, ← Nat.pow_add]
    -- both exponents are the same around n
    have hx : ∃ c d, (n - (i + n - t) % n) % n + c * n = t + (n - i) % n + d * n := by
      rcases Nat.lt_or_ge i t with h | h
      · have e2 : (i + n - t) % n = i + n - t := Nat.mod_eq_of_lt (by omega)
        have e3 : (n - (i + n - t)) % n = t - i := by rw [Nat.mod_eq_of_lt (by omega)]; omega
        rw [e2, e3]
        rcases Nat.eq_zero_or_pos i with h2 | h2
        · exact ⟨0, 0, by subst h2; simp⟩
        · exact ⟨1, 0, by rw [Nat.mod_eq_of_lt (show n - i < n by omega)]; omega⟩
      · have e2 : (i + n - t) % n = i - t := by
          rw [show i + n - t = (i - t) + n by omega, Nat.add_mod_right]; exact Nat.mod_eq_of_lt (by omega)
        rw [e2]
        rcases Nat.eq_zero_or_pos i with h2 | h2
        · have : t = 0 := by omega
          subst h2 this
          exact ⟨0, 0, by simp⟩
        · rw [Nat.mod_eq_of_lt (show n - i < n by omega)]
          rcases Nat.eq_zero_or_pos (i - t) with h3 | h3
          · exact ⟨1, 0, by rw [h3]; simp; omega⟩
          · exact ⟨0, 0, by rw [Nat.mod_eq_of_lt (by omega)]; omega⟩
    obtain ⟨c, d, hcd⟩ := hx
    rw [← hmod c ((n - (i + n - t) % n) % n), hcd, hmod d]
  rw [← fm_add_r, e1, fm_add_r]
end Go.Proofs.YtbhnlfgccldmaaaGreat
/- Names of tables: reference 15's Right. -/
namespace Go.Proofs.YtbhnlfgccldmaaaGreat
open Go.ChangeShapes Go.WideShapes Go.ChangeAt Go.RowKit
set_option linter.unusedVariables false
set_option maxRecDepth 100000 in
set_option maxHeartbeats 4000000 in
theorem r15_rightq (k n m d : Int) (W : World) (wn : -9223372036854775808 ≤ n ∧ n ≤ 9223372036854775807) (wm : m ≤ 9223372036854775807) :
    Calls Tryz.prog 85 #[.agg #[.int .i64 k, .int .i64 n, .int .i64 m, .int .i64 d]] W fun e w' => e = .returned (.bool (rightb k n m d)) ∧ Below W.heap.size W w' := by
  have H := Lib.hid (fun w => r4_has n w wn.1 wn.2)
  have FP := Lib.hid (fun w => r3_prime n w wn.2)
  have SH := Lib.hid (fun w => r8_power m w wm)
  have hB := (Below.refl W.heap.size W).alloc (Nat.le_refl _) (.cells #[.int .i64 k, .int .i64 n, .int .i64 m, .int .i64 d] 82)
  cases hh : hasb n with
  | false =>
    rw [hh] at H
    have E := Lib.hid (rightb_has (k := k) (m := m) (d := d) hh)
    go_enter Tryz.func85, Tryz.ntmps85
    go_wp2_with fail
    refine (H.out _).mono ?_
    rintro e w1 ⟨rfl, rfl⟩
    go_wp2_with fail
    go_ret
    exact ⟨by rw [E.out]; rfl, hB⟩
  | true =>
  rw [hh] at H
  obtain ⟨n1, n2, _⟩ := hasb_dvd hh
  have w2 : IntKind.i64.wrap (2 * n - 1) = 2 * n - 1 := IntWalk.i64_in _ (by omega)
  have w3 : IntKind.i64.wrap (2 * n) = 2 * n := IntWalk.i64_in _ (by omega)
  by_cases hd : d = 0 ∨ d = 1
  case neg =>
    have E := Lib.hid (rightb_dir (k := k) (n := n) (m := m) hd)
    by_cases h0 : d < 0
    · have d0 : decide (d < 0) = true := decide_eq_true h0
      go_enter Tryz.func85, Tryz.ntmps85
      go_wp2_with fail
      refine (H.out _).mono ?_
      rintro e w1 ⟨rfl, rfl⟩
      go_wp2_with fail
      go_ret
      exact ⟨by rw [E.out]; rfl, hB⟩
    · have d0 : decide (d < 0) = false := decide_eq_false h0
      have d1 : decide (1 < d) = true := decide_eq_true (by omega)
      go_enter Tryz.func85, Tryz.ntmps85
      go_wp2_with fail
      refine (H.out _).mono ?_
      rintro e w1 ⟨rfl, rfl⟩
      go_wp2_with fail
      go_ret
      exact ⟨by rw [E.out]; rfl, hB⟩
  by_cases hk : k = 1 ∨ k = 2
  · have E := Lib.hid (rightb_12 (m := m) hh hd hk)
    have hm : (m == 0) = decide (m = 0) := rfl
    generalize decide (m = 0) = z at *
    rcases hd with rfl | rfl <;> rcases hk with rfl | rfl
    all_goals
      go_enter Tryz.func85, Tryz.ntmps85
      go_wp2_with fail
      refine (H.out _).mono ?_
      rintro e w1 ⟨rfl, rfl⟩
      go_wp2_with fail
      go_ret
      exact ⟨by rw [E.out]; rfl, hB⟩
  by_cases hk3 : k = 3
  · subst hk3
    by_cases hm : m = 0
    · by_cases h3 : 3 ≤ n
      · have E := Lib.hid (show rightb 3 n m d = prb n by rw [rightb_3 hh hd, decide_eq_true ⟨hm, h3⟩, Bool.true_and])
        subst hm
        have d3 : decide (2 < n) = true := decide_eq_true (by omega)
        generalize prb n = z at *
        rcases hd with rfl | rfl
        all_goals
          go_enter Tryz.func85, Tryz.ntmps85
          go_wp2_with fail
          refine (H.out _).mono ?_
          rintro e w1 ⟨rfl, rfl⟩
          go_wp2_with fail
          refine (FP.out _).mono ?_
          rintro e w2 ⟨rfl, rfl⟩
          go_wp2_with fail
          go_ret
          exact ⟨by rw [E.out]; rfl, hB⟩
      · have E := Lib.hid (show rightb 3 n m d = false by rw [rightb_3 hh hd, decide_eq_false (fun h => h3 h.2), Bool.false_and])
        subst hm
        have d3 : decide (2 < n) = false := decide_eq_false (by omega)
        rcases hd with rfl | rfl
        all_goals
          go_enter Tryz.func85, Tryz.ntmps85
          go_wp2_with fail
          refine (H.out _).mono ?_
          rintro e w1 ⟨rfl, rfl⟩
          go_wp2_with fail
          go_ret
          exact ⟨by rw [E.out]; rfl, hB⟩
    · have E := Lib.hid (show rightb 3 n m d = false by rw [rightb_3 hh hd, decide_eq_false (fun h => hm h.1), Bool.false_and])
      have e0 : (m == 0) = false := by simp; omega
      rcases hd with rfl | rfl
      all_goals
        go_enter Tryz.func85, Tryz.ntmps85
        go_wp2_with fail
        refine (H.out _).mono ?_
        rintro e w1 ⟨rfl, rfl⟩
        go_wp2_with fail
        go_ret
        exact ⟨by rw [E.out]; rfl, hB⟩
  by_cases hk4 : k = 4
  · subst hk4
    by_cases h2 : 2 ≤ n
    · have d2 : decide (2 ≤ n) = true := decide_eq_true h2
      by_cases h3 : 2 * n - 1 ≤ m
      · have d3 : decide (2 * n - 1 ≤ m) = true := decide_eq_true h3
        by_cases h4 : m ≤ 16777216
        · have d4 : decide (m ≤ 16777216) = true := decide_eq_true h4
          have E := Lib.hid (show rightb 4 n m d = pwb m by rw [rightb_4 hh hd, d2, d3]; unfold hasp; rw [d4, Bool.true_and, Bool.true_and, Bool.and_true])
          generalize pwb m = z at *
          rcases hd with rfl | rfl
          all_goals
            go_enter Tryz.func85, Tryz.ntmps85
            go_wp2_with fail
            refine (H.out _).mono ?_
            rintro e w1 ⟨rfl, rfl⟩
            go_wp2_with fail
            refine (SH.out _).mono ?_
            rintro e w2 ⟨rfl, rfl⟩
            go_wp2_with fail
            go_ret
            exact ⟨by rw [E.out]; rfl, hB⟩
        · have d4 : decide (m ≤ 16777216) = false := decide_eq_false h4
          have E := Lib.hid (show rightb 4 n m d = false by rw [rightb_4 hh hd]; unfold hasp; rw [d4, Bool.false_and, Bool.and_false, Bool.false_and])
          rcases hd with rfl | rfl
          all_goals
            go_enter Tryz.func85, Tryz.ntmps85
            go_wp2_with fail
            refine (H.out _).mono ?_
            rintro e w1 ⟨rfl, rfl⟩
            go_wp2_with fail
            go_ret
            exact ⟨by rw [E.out]; rfl, hB⟩
      · have d3 : decide (2 * n - 1 ≤ m) = false := decide_eq_false h3
        have E := Lib.hid (show rightb 4 n m d = false by rw [rightb_4 hh hd, d3, Bool.and_false])
        rcases hd with rfl | rfl
        all_goals
          go_enter Tryz.func85, Tryz.ntmps85
          go_wp2_with fail
          refine (H.out _).mono ?_
          rintro e w1 ⟨rfl, rfl⟩
          go_wp2_with fail
          go_ret
          exact ⟨by rw [E.out]; rfl, hB⟩
    · have d2 : decide (2 ≤ n) = false := decide_eq_false h2
      have E := Lib.hid (show rightb 4 n m d = false by rw [rightb_4 hh hd, d2, Bool.false_and, Bool.false_and])
      rcases hd with rfl | rfl
      all_goals
        go_enter Tryz.func85, Tryz.ntmps85
        go_wp2_with fail
        refine (H.out _).mono ?_
        rintro e w1 ⟨rfl, rfl⟩
        go_wp2_with fail
        go_ret
        exact ⟨by rw [E.out]; rfl, hB⟩
  have E := Lib.hid (rightb_no (n := n) (m := m) (d := d) ⟨hk, hk3, hk4⟩)
  have e1 : (k == 1) = false := by simp; omega
  have e2 : (k == 2) = false := by simp; omega
  have e3 : (k == 3) = false := by simp; omega
  have e4 : (k == 4) = false := by simp; omega
  rcases hd with rfl | rfl
  all_goals
    go_enter Tryz.func85, Tryz.ntmps85
    go_wp2_with fail
    refine (H.out _).mono ?_
    rintro e w1 ⟨rfl, rfl⟩
    go_wp2_with fail
    go_ret
    exact ⟨by rw [E.out]; rfl, hB⟩
end Go.Proofs.YtbhnlfgccldmaaaGreat
