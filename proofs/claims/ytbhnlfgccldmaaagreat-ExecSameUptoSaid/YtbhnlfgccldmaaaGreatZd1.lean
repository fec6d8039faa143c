/- Put together by program (merge.py): Base Rowz Gold Goldp Field Prime. -/
import Derived.Test.YtbhnlfgccldmaaaGreatRows
import Derived.WalkKit
import Derived.ProofKit
import Derived.OpenShut
import Derived.WalkLawsBesides
import Derived.Handy
import Derived.Laws.Externs
import Derived.Lib.Hide
import Derived.ChangeSlices
import Derived.Deep.RegionHeld3
import Derived.BigQuiet
import Derived.Deep.QuietTactic
import Derived.WalkSmall
import Derived.Shelf.Spec.BitsCarry
/- Small facts that every walk of this seat uses: no Go text in sight. -/
namespace Go.Proofs.YtbhnlfgccldmaaaGreat
open Go.ChangeShapes Go.WideShapes Go.ChangeAt Go.RowKit
set_option linter.unusedVariables false

theorem ret_u64 {a b : Int} (h : a = b) : Ending.returned (.int .u64 a) = .returned (.int .u64 b) := by rw [h]
theorem ret_i64 {a b : Int} (h : a = b) : Ending.returned (.int .i64 a) = .returned (.int .i64 b) := by rw [h]
theorem ret_bool {a b : Bool} (h : a = b) : Ending.returned (.bool a) = .returned (.bool b) := by rw [h]

/-- A slice's elements, as they are read: xs, from its address on. -/
def Reads (k : IntKind) (w : World) (a : Option Addr) (xs : List Int) : Prop :=
  xs = [] ∨ ∃ (b off : Nat), a = some ⟨b, off, none⟩ ∧ b < w.heap.size ∧ ∀ i, i < xs.length → w.cell? ⟨b, off + i, none⟩ = some (.int k (xs.getD i 0))

/-- A slice of integers that came in: its elements, each in order; there are no more than a machine has. -/
def IsRow (k : IntKind) (w : World) (a : Option Addr) (n c : Nat) : Prop :=
  ∃ xs : List Int, xs.length = n ∧ n ≤ c ∧ n ≤ 9223372036854775807 ∧ Reads k w a xs ∧ ∀ x ∈ xs, (Lit.int k x).wf = true

theorem isRow_of {H : Type} {enc : TypeId × Value → H} {P : Program} {w : World} {base : Nat} {spare : Nat → Bool} {held : Bool} {t e : TypeId} {k : IntKind} {a : Option Addr} {n c : Nat} {d : DataW H} {p : List MemPlace}
    (ht : P.underlying t = some (.slice e)) (he : P.underlying e = some (.int k)) (hc : P.cellsOf e = 1) (h : DataW.Trod enc P w base spare held t (.slice a n c) d p) : IsRow k w a n c := by
  obtain ⟨fuel, hf⟩ := h
  rcases open_ints ht he hc hf with ⟨hcs, _⟩ | ⟨x, l, c', zs, hcs, _, hl, hm, hz, _, hcell, hwz⟩
  · simp [Value.cells] at hcs
    obtain ⟨rfl, rfl, rfl⟩ := hcs
    exact ⟨[], rfl, Nat.le_refl _, by omega, .inl rfl, by simp⟩
  · simp [Value.cells] at hcs
    obtain ⟨rfl, rfl, rfl⟩ := hcs
    have hzn : n ≤ zs.length := by rw [hz]; split <;> omega
    unfold maxLen at hm
    refine ⟨zs.take n, by simp; omega, hl, by omega, ?_, fun x hx => hwz x (List.mem_of_mem_take hx)⟩
    rcases Nat.eq_zero_or_pos n with h0 | h0
    · left; rw [h0]; rfl
    · right
      obtain ⟨b, off, spot⟩ := x
      have h00 := hcell 0 (by omega)
      have hspot : spot = none := by simpa [Addr.add] using World.cell?_spot h00
      subst hspot
      refine ⟨b, off, rfl, by have := block_lt_of_cell h00; simpa [Addr.add] using this, fun i hi => ?_⟩
      have hi' : i < n := by simp at hi; omega
      have hci := hcell i (by omega)
      have e : (zs.take n).getD i 0 = zs.getD i 0 := by simp [List.getD, List.getElem?_take, hi']
      have ea : (⟨b, off, none⟩ : Addr).add i = ⟨b, off + i, none⟩ := by unfold Addr.add; split <;> simp_all
      rw [ea] at hci
      rw [e]
      exact hci

/-- The field's number that x leaves. -/
def fm (x : Int) : Int := x % 18446744069414584321
theorem fm_lo (x : Int) : 0 ≤ fm x := by unfold fm; omega
theorem fm_hi (x : Int) : fm x ≤ 18446744069414584320 := by unfold fm; omega
theorem fm_hi' (x : Int) : fm x ≤ 18446744073709551615 := by unfold fm; omega
theorem fm_small (x : Int) (h0 : 0 ≤ x) (h1 : x ≤ 18446744069414584320) : fm x = x := by unfold fm; omega
theorem fm_fm (x : Int) : fm (fm x) = fm x := by unfold fm; omega
theorem fm_add_fm (x y : Int) : fm (fm x + fm y) = fm (x + y) := by unfold fm; omega
theorem fm_add_l (x y : Int) : fm (fm x + y) = fm (x + y) := by unfold fm; omega
theorem fm_add_r (x y : Int) : fm (x + fm y) = fm (x + y) := by unfold fm; omega
theorem fm_sub_fm (x y : Int) : fm (fm x - fm y) = fm (x - y) := by unfold fm; omega
theorem fm_sub_l (x y : Int) : fm (fm x - y) = fm (x - y) := by unfold fm; omega
theorem fm_sub_r (x y : Int) : fm (x - fm y) = fm (x - y) := by unfold fm; omega
theorem fm_mul_fm (x y : Int) : fm (fm x * fm y) = fm (x * y) := (Int.mul_emod x y _).symm
theorem fm_mul_l (x y : Int) : fm (fm x * y) = fm (x * y) := by
  have := fm_mul_fm (fm x) y
  rw [fm_fm] at this
  rw [← this, fm_mul_fm]
theorem fm_mul_r (x y : Int) : fm (x * fm y) = fm (x * y) := by rw [Int.mul_comm, fm_mul_l, Int.mul_comm]
theorem fm_eq (x y k : Int) (h : x = y + k * 18446744069414584321) : fm x = fm y := by unfold fm; omega
theorem fm_zero : fm 0 = 0 := by decide
end Go.Proofs.YtbhnlfgccldmaaaGreat
/- Rows that a call makes and fills place by place. -/
namespace Go.Proofs.YtbhnlfgccldmaaaGreat
open Go.ChangeShapes Go.WideShapes Go.ChangeAt Go.RowKit
set_option linter.unusedVariables false

/-- A row of n places, of which the first k hold those of ys, the others nought. -/
def fill (ys : List Int) (k n : Nat) : Array Value := ((ys.take k ++ List.replicate (n - k) 0).map (Value.int .u64)).toArray
theorem fill_zero (ys : List Int) (n : Nat) : fill ys 0 n = Array.replicate n (.int .u64 0) := by
  unfold fill; simp
theorem fill_step (ys : List Int) (k n : Nat) (hk : k < n) (hn : ys.length = n) : (fill ys k n).setIfInBounds k (.int .u64 (ys.getD k 0)) = fill ys (k + 1) n := by
  have hky : k < ys.length := by omega
  have e : ys.getD k 0 = ys[k] := by simp [List.getD, hky]
  unfold fill
  rw [e, List.setIfInBounds_toArray]
  congr 1
  apply List.ext_getElem?
  intro i
  rw [List.getElem?_set]
  simp only [List.getElem?_map, List.getElem?_append, List.length_take, List.length_map, List.length_append, List.length_replicate, List.getElem?_take, List.getElem?_replicate]
  by_cases h1 : k = i
  · subst h1
    have h2 : k < min (k + 1) ys.length := by omega
    have h3 : k < min k ys.length + (n - k) := by omega
    simp [h2, h3, List.getElem?_eq_getElem hky]
  · by_cases h2 : i < k
    · have h3 : i < min k ys.length := by omega
      have h4 : i < min (k + 1) ys.length := by omega
      have h5 : i < k + 1 := by omega
      simp [h1, h2, h3, h4, h5]
    · have h3 : ¬ i < min k ys.length := by omega
      have h4 : ¬ i < min (k + 1) ys.length := by omega
      have e1 : min k ys.length = k := by omega
      have e2 : min (k + 1) ys.length = k + 1 := by omega
      simp only [h1, h3, h4, if_false, e1, e2]
      have h8 : ¬ i < k + 1 := by omega
      by_cases h5 : i < n
      · have h6 : i - k < n - k := by omega
        have h7 : i - (k + 1) < n - (k + 1) := by omega
        simp [h2, h8, h6, h7]
      · have h6 : ¬ i - k < n - k := by omega
        have h7 : ¬ i - (k + 1) < n - (k + 1) := by omega
        simp [h2, h8, h6, h7]
theorem fill_full (ys : List Int) (n : Nat) (hn : ys.length = n) : fill ys n n = (ys.map (Value.int .u64)).toArray := by
  unfold fill; rw [← hn]; simp
theorem fill_at (ys : List Int) (k n i : Nat) (hk : k ≤ n) (hi : i < n) (hn : ys.length = n) : ∃ v, (fill ys k n)[i]? = some v := by
  have : i < (fill ys k n).size := by unfold fill; simp; omega
  exact ⟨_, Array.getElem?_eq_getElem this⟩

/-- Block B holds the numbers ys, and no more. -/
def RowAt (w : World) (B : Nat) (T : TypeId) (ys : List Int) : Prop := w.heap[B]? = some (.cells ((ys.map (Value.int .u64)).toArray) T (0, 0))
theorem RowAt.lt {w : World} {B : Nat} {T : TypeId} {ys : List Int} (h : RowAt w B T ys) : B < w.heap.size := by
  unfold RowAt at h
  by_cases hlt : B < w.heap.size
  · exact hlt
  · have : w.heap[B]? = none := by simp; omega
    rw [this] at h; simp at h
theorem RowAt.reads {w : World} {B : Nat} {T : TypeId} {ys : List Int} (h : RowAt w B T ys) : Reads .u64 w (some ⟨B, 0, none⟩) ys :=
  .inr ⟨B, 0, rfl, h.lt, fun i hi => by
    rw [cell_of_row w B (0 + i) _ _ _ h]
    simp [List.getD, hi]⟩
theorem RowAt.below {w w' : World} {B : Nat} {T : TypeId} {ys : List Int} (h : RowAt w B T ys) (hb : Below w.heap.size w w') : RowAt w' B T ys := by
  unfold RowAt; rw [hb.block B h.lt]; exact h
theorem RowAt.alloc {w : World} {B : Nat} {T : TypeId} {ys : List Int} (h : RowAt w B T ys) (o : Obj) : RowAt (w.alloc o) B T ys := by
  unfold RowAt; rw [Below.heap_alloc w o B h.lt]; exact h

theorem made_cells (v : Value) (n : Nat) : madeCells #[v] n = Array.replicate n v := by
  unfold madeCells
  apply Array.ext
  · simp
  · intro i h1 h2
    simp [Nat.mod_one]

theorem info_u64 : (Tryz.prog.info? 62).map (fun i => (i.zero, i.size, i.bytes)) = some (some (.int .u64 0), 1, 8) := by kernel_rfl
theorem make_u64 (n : Nat) (hn : n ≤ 35184372088832) (w : World) :
    (Instr.makeSlice 25 (.int .i64 (n : Int)) (.int .i64 (n : Int))).run Tryz.prog w = .ok (.slice (some ⟨w.heap.size, 0, none⟩) n n) (w.alloc (.cells (Array.replicate n (.int .u64 0)) 62)) := by
  obtain ⟨i, hi, hz, hs, hb⟩ := info_parts info_u64
  rw [run_make w 25 62 i (.int .u64 0) Tryz.underlying25 hi hz .i64 .i64 (n : Int) (n : Int) (by omega) (by omega) (by rw [hb]; omega) (by omega), hs, Int.toNat_natCast, Nat.mul_one]
  rw [show (Value.int .u64 0).cells = #[.int .u64 0] from rfl, made_cells]

/-- A row that is being filled: block B. -/
def Filling (w : World) (B : Nat) (T : TypeId) (ys : List Int) (k n : Nat) : Prop := w.heap[B]? = some (.cells (fill ys k n) T (0, 0))
theorem Filling.lt {w : World} {B : Nat} {T : TypeId} {ys : List Int} {k n : Nat} (h : Filling w B T ys k n) : B < w.heap.size := by
  unfold Filling at h
  by_cases hlt : B < w.heap.size
  · exact hlt
  · have : w.heap[B]? = none := by simp; omega
    rw [this] at h; simp at h
theorem Filling.below {w w' : World} {B : Nat} {T : TypeId} {ys : List Int} {k n : Nat} (h : Filling w B T ys k n) (hb : Below w.heap.size w w') : Filling w' B T ys k n := by
  unfold Filling; rw [hb.block B h.lt]; exact h
theorem Filling.start (w : World) (T : TypeId) (ys : List Int) (n : Nat) : Filling (w.alloc (.cells (Array.replicate n (.int .u64 0)) T)) w.heap.size T ys 0 n := by
  unfold Filling; rw [heap_alloc_new, fill_zero]
theorem Filling.cell {w : World} {B : Nat} {T : TypeId} {ys : List Int} {k n : Nat} (h : Filling w B T ys k n) (hk : k < n) (hn : ys.length = n) : ∃ v, w.cell? ⟨B, k, none⟩ = some v := by
  obtain ⟨v, hv⟩ := fill_at ys k n k (by omega) hk hn
  exact ⟨v, by rw [cell_of_row w B k _ _ _ h]; exact hv⟩
theorem Filling.free {w : World} {B : Nat} {T : TypeId} {ys : List Int} {k n : Nat} (h : Filling w B T ys k n) (j : Nat) : w.frozen? ⟨B, j, none⟩ = false := frozen_of_row w B j _ _ h
theorem Filling.step {w : World} {B : Nat} {T : TypeId} {ys : List Int} {k n : Nat} (h : Filling w B T ys k n) (hk : k < n) (hn : ys.length = n) {y : Int} (hy : ys.getD k 0 = y) : Filling (w.setCell ⟨B, k, none⟩ (.int .u64 y)) B T ys (k + 1) n := by
  unfold Filling
  rw [heap_setCell_same w B k _ T _ h, ← hy, fill_step ys k n hk hn]
theorem Filling.done {w : World} {B : Nat} {T : TypeId} {ys : List Int} {n : Nat} (h : Filling w B T ys n n) (hn : ys.length = n) : RowAt w B T ys := by
  unfold Filling at h; unfold RowAt; rw [h, fill_full ys n hn]

/-- A row of n places that is filled in whatever order: what is done holds ys. -/
def pfill (ys : List Int) (d : Nat → Bool) (n : Nat) : Array Value := ((List.range n).map fun j => Value.int .u64 (if d j then ys.getD j 0 else 0)).toArray
theorem pfill_none (ys : List Int) (d : Nat → Bool) (n : Nat) (h : ∀ j, j < n → d j = false) : pfill ys d n = Array.replicate n (.int .u64 0) := by
  unfold pfill
  apply Array.ext
  · simp
  · intro i h1 h2
    have hi : i < n := by simpa using h2
    simp [h i hi]
theorem pfill_all (ys : List Int) (d : Nat → Bool) (n : Nat) (hn : ys.length = n) (h : ∀ j, j < n → d j = true) : pfill ys d n = (ys.map (Value.int .u64)).toArray := by
  unfold pfill
  congr 1
  apply List.ext_getElem
  · simp [hn]
  · intro i h1 h2
    have hi : i < n := by simpa using h1
    have hi' : i < ys.length := by omega
    simp [h i hi, List.getD, hi']
theorem pfill_set (ys : List Int) (d d' : Nat → Bool) (n i : Nat) (h : ∀ j, j < n → d' j = (d j || j == i)) : (pfill ys d n).setIfInBounds i (.int .u64 (ys.getD i 0)) = pfill ys d' n := by
  unfold pfill
  rw [List.setIfInBounds_toArray]
  congr 1
  apply List.ext_getElem?
  intro j
  rw [List.getElem?_set]
  simp only [List.length_map, List.length_range, List.getElem?_map]
  by_cases hij : i = j
  · subst hij
    by_cases hi : i < n
    · simp [hi, h i hi]
    · simp [hi]
  · by_cases hj : j < n
    · have : (j == i) = false := by simp; omega
      simp [hij, hj, h j hj, this]
    · simp [hij, hj]
theorem pfill_at (ys : List Int) (d : Nat → Bool) (n i : Nat) (hi : i < n) : ∃ v, (pfill ys d n)[i]? = some v := by
  have : i < (pfill ys d n).size := by unfold pfill; simp; omega
  exact ⟨_, Array.getElem?_eq_getElem this⟩

/-- Block B is such a row. -/
def PF (w : World) (B : Nat) (T : TypeId) (ys : List Int) (d : Nat → Bool) (n : Nat) : Prop := w.heap[B]? = some (.cells (pfill ys d n) T (0, 0))
theorem PF.lt {w : World} {B : Nat} {T : TypeId} {ys : List Int} {d : Nat → Bool} {n : Nat} (h : PF w B T ys d n) : B < w.heap.size := by
  unfold PF at h
  by_cases hlt : B < w.heap.size
  · exact hlt
  · have : w.heap[B]? = none := by simp; omega
    rw [this] at h; simp at h
theorem PF.below {w w' : World} {B : Nat} {T : TypeId} {ys : List Int} {d : Nat → Bool} {n : Nat} (h : PF w B T ys d n) (hb : Below w.heap.size w w') : PF w' B T ys d n := by
  unfold PF; rw [hb.block B h.lt]; exact h
theorem PF.start (w : World) (T : TypeId) (ys : List Int) (d : Nat → Bool) (n : Nat) (h : ∀ j, j < n → d j = false) : PF (w.alloc (.cells (Array.replicate n (.int .u64 0)) T)) w.heap.size T ys d n := by
  unfold PF; rw [heap_alloc_new, pfill_none ys d n h]
theorem PF.cell {w : World} {B : Nat} {T : TypeId} {ys : List Int} {d : Nat → Bool} {n : Nat} (h : PF w B T ys d n) {i : Nat} (hi : i < n) : ∃ v, w.cell? ⟨B, i, none⟩ = some v := by
  obtain ⟨v, hv⟩ := pfill_at ys d n i hi
  exact ⟨v, by rw [cell_of_row w B i _ _ _ h]; exact hv⟩
theorem PF.free {w : World} {B : Nat} {T : TypeId} {ys : List Int} {d : Nat → Bool} {n : Nat} (h : PF w B T ys d n) (j : Nat) : w.frozen? ⟨B, j, none⟩ = false := frozen_of_row w B j _ _ h
theorem PF.step {w : World} {B : Nat} {T : TypeId} {ys : List Int} {d d' : Nat → Bool} {n i : Nat} (h : PF w B T ys d n) (hd : ∀ j, j < n → d' j = (d j || j == i)) {y : Int} (hy : ys.getD i 0 = y) : PF (w.setCell ⟨B, i, none⟩ (.int .u64 y)) B T ys d' n := by
  unfold PF
  rw [heap_setCell_same w B i _ T _ h, ← hy, pfill_set ys d d' n i hd]
theorem PF.done {w : World} {B : Nat} {T : TypeId} {ys : List Int} {d : Nat → Bool} {n : Nat} (h : PF w B T ys d n) (hn : ys.length = n) (hd : ∀ j, j < n → d j = true) : RowAt w B T ys := by
  unfold PF at h; unfold RowAt; rw [h, pfill_all ys d n hn hd]

end Go.Proofs.YtbhnlfgccldmaaaGreat
/- The contracts of package gold (and of what it calls in wide and math/bits): each call returns the field's number that the exact one leaves. -/
namespace Go.Proofs.YtbhnlfgccldmaaaGreat
open Go.ChangeShapes Go.WideShapes Go.ChangeAt Go.RowKit
set_option linter.unusedVariables false

theorem add64_run (x y c : Int) (hx : 0 ≤ x) (hy : 0 ≤ y) (hc0 : 0 ≤ c) (hc : c ≤ 1) (w : World) :
    (callFunc 120 #[.int .u64 x, .int .u64 y, .int .u64 c]).run Tryz.prog w =
      .ok (.value (.tuple #[.int .u64 ((x + y + c) % 18446744073709551616), .int .u64 ((x + y + c) / 18446744073709551616)])) w := by
  rw [run_callFunc_extern Tryz.func120 (by kernel_rfl) (by kernel_rfl) (by kernel_rfl) (e := add64Entry) (by kernel_rfl), run_add64 x y c hx hy hc0 hc]
  rfl

theorem sub64_run (x y b : Int) (hx : 0 ≤ x) (hx1 : x ≤ 18446744073709551615) (hy : 0 ≤ y) (hy1 : y ≤ 18446744073709551615) (hc0 : 0 ≤ b) (hc : b ≤ 1) (w : World) :
    (callFunc 148 #[.int .u64 x, .int .u64 y, .int .u64 b]).run Tryz.prog w =
      .ok (.value (.tuple #[.int .u64 ((x - y - b) % 18446744073709551616), .int .u64 (if x < y + b then 1 else 0)])) w := by
  obtain ⟨X, rfl⟩ := Int.eq_ofNat_of_zero_le hx
  obtain ⟨Y, rfl⟩ := Int.eq_ofNat_of_zero_le hy
  obtain ⟨B, rfl⟩ := Int.eq_ofNat_of_zero_le hc0
  rw [run_callFunc_extern Tryz.func148 (by kernel_rfl) (by kernel_rfl) (by kernel_rfl) (e := sub64Entry) (by kernel_rfl), run_sub64 X Y B (by omega)]
  have e1 : (((X + 18446744073709551616 - Y - B) % 18446744073709551616 : Nat) : Int) = ((X : Int) - Y - B) % 18446744073709551616 := by omega
  have e2 : ((if X < Y + B then 1 else 0 : Nat) : Int) = if (X : Int) < (Y : Int) + (B : Int) then 1 else 0 := by
    by_cases h : X < Y + B
    · rw [if_pos h, if_pos (by omega)]; rfl
    · rw [if_neg h, if_neg (by omega)]; rfl
  rw [e1, e2]
  rfl

theorem gold_red (a : Int) (w : World) (h0 : 0 ≤ a) (h1 : a ≤ 18446744073709551615) :
    Calls Tryz.prog 121 #[.int .u64 a] w fun e w' => e = .returned (.int .u64 (fm a)) ∧ w = w' := by
  go_enter Tryz.func121, Tryz.ntmps121
  go_wp2
  all_goals go_ret
  all_goals (refine ⟨ret_u64 ?_, rfl⟩; unfold fm; omega)

theorem gold_add (a b : Int) (w : World) (h0 : 0 ≤ a) (h1 : a ≤ 18446744073709551615) (h2 : 0 ≤ b) (h3 : b ≤ 18446744073709551615) :
    Calls Tryz.prog 80 #[.int .u64 a, .int .u64 b] w fun e w' => e = .returned (.int .u64 (fm (a + b))) ∧ w = w' := by
  have a0 := fm_lo a
  have a1 := fm_hi a
  have b0 := fm_lo b
  have b1 := fm_hi b
  have ha := fm_add_fm a b
  have HA := Lib.hid ha
  clear ha
  go_enter Tryz.func80, Tryz.ntmps80
  go_wp2_with (first | (go_at_call 121; (with_reducible refine (gold_red _ _ (by omega) (by omega)).mono ?_); rintro e w' ⟨rfl, rfl⟩) | (rw [add64_run _ _ _ (by omega) (by omega) (by omega) (by omega)]))
  all_goals go_ret
  all_goals (refine ⟨ret_u64 ?_, rfl⟩; rw [← HA.out]; simp only [bne_iff_ne, ne_eq, bne_eq_false_iff_eq, IntKind.wrap_u64] at *; unfold fm at *; omega)

theorem gold_sub (a b : Int) (w : World) (h0 : 0 ≤ a) (h1 : a ≤ 18446744073709551615) (h2 : 0 ≤ b) (h3 : b ≤ 18446744073709551615) :
    Calls Tryz.prog 206 #[.int .u64 a, .int .u64 b] w fun e w' => e = .returned (.int .u64 (fm (a - b))) ∧ w = w' := by
  have a0 := fm_lo a
  have a1 := fm_hi a
  have b0 := fm_lo b
  have b1 := fm_hi b
  have ha := fm_sub_fm a b
  have HA := Lib.hid ha
  clear ha
  by_cases hlt : fm a < fm b + 0
  · go_enter Tryz.func206, Tryz.ntmps206
    go_wp2_with (first | (go_at_call 121; (with_reducible refine (gold_red _ _ (by omega) (by omega)).mono ?_); rintro e w' ⟨rfl, rfl⟩) | (rw [sub64_run _ _ _ (by omega) (by omega) (by omega) (by omega) (by omega) (by omega), if_pos (by omega)]))
    all_goals go_ret
    all_goals (refine ⟨ret_u64 ?_, rfl⟩; rw [← HA.out]; simp only [IntKind.wrap_u64] at *; unfold fm at *; omega)
  · go_enter Tryz.func206, Tryz.ntmps206
    go_wp2_with (first | (go_at_call 121; (with_reducible refine (gold_red _ _ (by omega) (by omega)).mono ?_); rintro e w' ⟨rfl, rfl⟩) | (rw [sub64_run _ _ _ (by omega) (by omega) (by omega) (by omega) (by omega) (by omega), if_neg (by omega)]))
    all_goals go_ret
    all_goals (refine ⟨ret_u64 ?_, rfl⟩; rw [← HA.out]; unfold fm at *; omega)

theorem ret_uu {a b c d : Int} (h : a = b) (h' : c = d) : Ending.returned (.tuple #[.int .u64 a, .int .u64 c]) = .returned (.tuple #[.int .u64 b, .int .u64 d]) := by rw [h, h']
theorem and_low_mod (z : Int) : bits .and .u64 (z % 18446744073709551616) 4294967295 = z % 18446744073709551616 % 4294967296 := and_low32 _ (by omega) (by omega)

theorem bits_mul64 (x y : Int) (w : World) (hx : 0 ≤ x) (hx1 : x ≤ 18446744073709551615) (hy : 0 ≤ y) (hy1 : y ≤ 18446744073709551615) :
    Calls Tryz.prog 149 #[.int .u64 x, .int .u64 y] w fun e w' => e = .returned (.tuple #[.int .u64 (x * y / 18446744073709551616), .int .u64 (x * y % 18446744073709551616)]) ∧ w = w' := by
  go_enter Tryz.func149, Tryz.ntmps149
  go_wp2
  go_ret2
  refine ⟨ret_uu ?_ ?_, rfl⟩
  · rw [and_low32 x hx (by omega), and_low32 y hy (by omega)]
    simp only [IntKind.wrap_u64, and_low_mod]
    exact mul64_arith x y hx (by omega) hy (by omega)
  · rw [IntKind.wrap_u64]

theorem wide_mul (x y : Int) (w : World) (hx : 0 ≤ x) (hx1 : x ≤ 18446744073709551615) (hy : 0 ≤ y) (hy1 : y ≤ 18446744073709551615) :
    Calls Tryz.prog 123 #[.int .u64 x, .int .u64 y] w fun e w' => e = .returned (.agg #[.int .u64 (x * y / 18446744073709551616), .int .u64 (x * y % 18446744073709551616)]) ∧ Below w.heap.size w w' := by
  go_enter Tryz.func123, Tryz.ntmps123
  go_wp2_with (go_at_call 149; (with_reducible refine (bits_mul64 _ _ _ (by omega) (by omega) (by omega) (by omega)).mono ?_); rintro e w' ⟨rfl, rfl⟩)
  go_returns
  refine ⟨rfl, ?_⟩
  go_grown

/-- What is folded: 2^64 leaves 2^32 - 1, 2^96 leaves -1. -/
theorem wide_fold (h l : Int) : fm (h * 18446744073709551616 + l) = fm (l - h / 4294967296 + h % 4294967296 * 4294967295) := by unfold fm; omega

theorem gold_wide (h l : Int) (w : World) (hx : 0 ≤ h) (hx1 : h ≤ 18446744073709551615) (hy : 0 ≤ l) (hy1 : l ≤ 18446744073709551615) :
    Calls Tryz.prog 122 #[.agg #[.int .u64 h, .int .u64 l]] w fun e w' => e = .returned (.int .u64 (fm (h * 18446744073709551616 + l))) ∧ Below w.heap.size w w' := by
  have hA : fm (h * 18446744073709551616 + l) = fm (l - h / 4294967296 + h % 4294967296 * 4294967295) := wide_fold h l
  have HA := Lib.hid hA
  clear hA
  have hand : bits .and .u64 h 4294967295 = h % 4294967296 := and_low32 h hx (by omega)
  by_cases hlt : l < h / 4294967296 + 0
  · go_enter Tryz.func122, Tryz.ntmps122
    go_wp2_with (first | (go_at_call 121; (with_reducible refine (gold_red _ _ (by first | omega | (simp only [IntKind.wrap_u64]; omega) | (simp only [IntKind.wrap_i64]; omega)) (by first | omega | (simp only [IntKind.wrap_u64]; omega) | (simp only [IntKind.wrap_i64]; omega))).mono ?_); rintro e w' ⟨rfl, rfl⟩) | (rw [add64_run _ _ _ (by omega) (by omega) (by omega) (by omega)]) | (rw [sub64_run _ _ _ (by omega) (by omega) (by omega) (by omega) (by omega) (by omega), if_pos (by omega)]))
    all_goals go_ret
    all_goals (refine ⟨ret_u64 ?_, by go_grown⟩; rw [HA.out]; clear HA hand; simp only [bne_iff_ne, ne_eq, bne_eq_false_iff_eq, IntKind.wrap_u64] at *; first | (refine fm_eq _ _ 0 ?_; omega) | (refine fm_eq _ _ 1 ?_; omega) | (refine fm_eq _ _ (-1) ?_; omega))
  · go_enter Tryz.func122, Tryz.ntmps122
    go_wp2_with (first | (go_at_call 121; (with_reducible refine (gold_red _ _ (by first | omega | (simp only [IntKind.wrap_u64]; omega) | (simp only [IntKind.wrap_i64]; omega)) (by first | omega | (simp only [IntKind.wrap_u64]; omega) | (simp only [IntKind.wrap_i64]; omega))).mono ?_); rintro e w' ⟨rfl, rfl⟩) | (rw [add64_run _ _ _ (by omega) (by omega) (by omega) (by omega)]) | (rw [sub64_run _ _ _ (by omega) (by omega) (by omega) (by omega) (by omega) (by omega), if_neg (by omega)]))
    all_goals go_ret
    all_goals (refine ⟨ret_u64 ?_, by go_grown⟩; rw [HA.out]; clear HA hand; simp only [bne_iff_ne, ne_eq, bne_eq_false_iff_eq, IntKind.wrap_u64] at *; first | (refine fm_eq _ _ 0 ?_; omega) | (refine fm_eq _ _ 1 ?_; omega) | (refine fm_eq _ _ (-1) ?_; omega))

theorem mul_parts (x y : Int) (hx : 0 ≤ x) (hx1 : x ≤ 18446744073709551615) (hy : 0 ≤ y) (hy1 : y ≤ 18446744073709551615) : 0 ≤ x * y / 18446744073709551616 ∧ x * y / 18446744073709551616 ≤ 18446744073709551615 := by
  have h0 := Int.mul_nonneg hx hy
  have h1 := Int.mul_le_mul hx1 hy1 hy (by omega : (0 : Int) ≤ 18446744073709551615)
  generalize x * y = z at *
  omega

theorem gold_mul (a b : Int) (w : World) (h0 : 0 ≤ a) (h1 : a ≤ 18446744073709551615) (h2 : 0 ≤ b) (h3 : b ≤ 18446744073709551615) :
    Calls Tryz.prog 81 #[.int .u64 a, .int .u64 b] w fun e w' => e = .returned (.int .u64 (fm (a * b))) ∧ Below w.heap.size w w' := by
  obtain ⟨p0, p1⟩ := mul_parts a b h0 h1 h2 h3
  have hA : fm (a * b / 18446744073709551616 * 18446744073709551616 + a * b % 18446744073709551616) = fm (a * b) := by
    generalize a * b = z; unfold fm; omega
  have HA := Lib.hid hA
  clear hA
  go_enter Tryz.func81, Tryz.ntmps81
  go_wp2_with (first | (go_at_call 123; (with_reducible refine (wide_mul _ _ _ h0 h1 h2 h3).mono ?_); rintro e w' ⟨rfl, hb⟩) | (go_at_call 122; refine (gold_wide _ _ _ p0 p1 (by omega) (by omega)).mono ?_; rintro e w' ⟨rfl, hb2⟩))
  go_ret
  exact ⟨ret_u64 HA.out, hb.trans (hb2.mono hb.size)⟩

theorem and_one (k : Int) (h0 : 0 ≤ k) (h1 : k ≤ 18446744073709551615) : bits .and .u64 k 1 = k % 2 := by go_bits2

end Go.Proofs.YtbhnlfgccldmaaaGreat
/- gold.Pow, gold.Inv, gold.Sum. -/
namespace Go.Proofs.YtbhnlfgccldmaaaGreat
open Go.ChangeShapes Go.WideShapes Go.ChangeAt Go.RowKit
set_option linter.unusedVariables false
set_option linter.unusedVariables false

theorem fm_pow (x : Int) (y : Int) (k : Nat) : fm (x * fm y ^ k) = fm (x * y ^ k) := by
  induction k generalizing x with
  | zero => simp
  | succ k ih =>
    have e1 : x * fm y ^ (k + 1) = (x * fm y) * fm y ^ k := by rw [Int.pow_succ, Int.mul_assoc, Int.mul_comm (fm y ^ k)]
    have e2 : x * y ^ (k + 1) = (x * y) * y ^ k := by rw [Int.pow_succ, Int.mul_assoc, Int.mul_comm (y ^ k)]
    rw [e1, e2, ih, ← fm_mul_l (x * fm y), fm_mul_r, fm_mul_l]

theorem pow_sq (a : Int) (k : Nat) : (a * a) ^ k = a ^ (2 * k) := by
  induction k with
  | zero => simp
  | succ k ih => rw [Int.pow_succ, ih, show 2 * (k + 1) = 2 * k + 1 + 1 from by omega, Int.pow_succ, Int.pow_succ, Int.mul_assoc]

theorem pow_even (p a : Int) (k : Nat) (h : k % 2 = 0) : fm (p * fm (a * a) ^ (k / 2)) = fm (p * a ^ k) := by
  rw [fm_pow, pow_sq, show 2 * (k / 2) = k from by omega]
theorem pow_odd (p a : Int) (k : Nat) (h : k % 2 = 1) : fm (fm (p * a) * fm (a * a) ^ (k / 2)) = fm (p * a ^ k) := by
  rw [fm_mul_l, fm_pow, pow_sq]
  have e := Int.pow_succ a (2 * (k / 2))
  rw [show (2 * (k / 2)).succ = k from by omega] at e
  rw [e, Int.mul_assoc, Int.mul_comm a]

theorem gold_pow (a : Int) (n : Nat) (w : World) (h0 : 0 ≤ a) (h1 : a ≤ 18446744073709551615) (h3 : n ≤ 18446744073709551615) :
    Calls Tryz.prog 147 #[.int .u64 a, .int .u64 n] w fun e w' => e = .returned (.int .u64 (fm (a ^ n))) ∧ Below w.heap.size w w' := by
  go_enter Tryz.func147, Tryz.ntmps147
  go_wp2_with fail
  go_loopw [5, 0, 1] (fun p a' n' wr => ∃ (k : Nat) (pv av : Int), n' = .int .u64 k ∧ p = .int .u64 pv ∧ a' = .int .u64 av ∧ 0 ≤ pv ∧ pv ≤ 18446744069414584320 ∧ 0 ≤ av ∧ av ≤ 18446744073709551615 ∧ k ≤ 18446744073709551615 ∧ Hid (fm (pv * av ^ k) = fm (a ^ n)) ∧ Below w.heap.size w wr)
    (fun _ _ n' _ => (intOf n').toNat)
  case atStart => exact ⟨n, 1, a, rfl, rfl, rfl, by omega, by omega, h0, h1, h3, Lib.hid (by rw [Int.one_mul]), Below.refl _ _⟩
  case round =>
    obtain ⟨k, pv, av, rfl, rfl, rfl, p0, p1, a0, a1, hk, HP, hb0⟩ := hrel
    have hand := and_one (k : Int) (by omega) (by omega)
    by_cases hz : k = 0
    · subst hz
      go_wp2_with fail
      go_ret
      exact ⟨ret_u64 (by have := HP.out; rw [Int.pow_zero, Int.mul_one, fm_small pv p0 p1] at this; exact this), hb0⟩
    · have hpos : (0 : Int) < (k : Int) := by omega
      by_cases hodd : k % 2 = 1
      · have hq : ((k : Int) % 2 == 1) = true := by simp; omega
        have HO := Lib.hid (pow_odd pv av k hodd)
        clear hodd
        go_wp2_with fail
        refine (gold_mul _ _ _ p0 (by omega) a0 a1).mono ?_
        rintro e w1 ⟨rfl, hb1⟩
        go_wp2_with fail
        refine (gold_mul _ _ _ a0 a1 a0 a1).mono ?_
        rintro e w2 ⟨rfl, hb2⟩
        go_wp2_with fail
        go_roundw
        case rel => exact ⟨k / 2, fm (pv * av), fm (av * av), by rfl, rfl, rfl, fm_lo _, fm_hi _, fm_lo _, by have := fm_hi (av * av); omega, by omega, Lib.hid (by rw [HO.out, HP.out]), (hb0.trans (hb1.mono hb0.size)).trans (hb2.mono (by have := hb0.size; have := hb1.size; omega))⟩
        case measure => simp [intOf]; omega
      · have hq : ((k : Int) % 2 == 1) = false := by simp; omega
        have HO := Lib.hid (pow_even pv av k (by omega))
        clear hodd
        go_wp2_with fail
        refine (gold_mul _ _ _ a0 a1 a0 a1).mono ?_
        rintro e w2 ⟨rfl, hb2⟩
        go_wp2_with fail
        go_roundw
        case rel => exact ⟨k / 2, pv, fm (av * av), by rfl, rfl, rfl, p0, p1, fm_lo _, by have := fm_hi (av * av); omega, by omega, Lib.hid (by rw [HO.out, HP.out]), hb0.trans (hb2.mono hb0.size)⟩
        case measure => simp [intOf]; omega

/-- The exponent of the inverse: P - 2. -/
def p2 : Nat := 18446744069414584319
def finv (a : Int) : Int := fm (a ^ p2)

theorem gold_inv (a : Int) (w : World) (h0 : 0 ≤ a) (h1 : a ≤ 18446744073709551615) :
    Calls Tryz.prog 119 #[.int .u64 a] w fun e w' => e = .returned (.int .u64 (finv a)) ∧ Below w.heap.size w w' := by
  have c : Calls Tryz.prog 147 #[.int .u64 a, .int .u64 18446744069414584319] w fun e w' => e = .returned (.int .u64 (finv a)) ∧ Below w.heap.size w w' := gold_pow a p2 w h0 h1 (by unfold p2; omega)
  go_enter Tryz.func119, Tryz.ntmps119
  go_wp2_with fail
  refine c.mono ?_
  rintro e w1 ⟨rfl, hb1⟩
  go_wp2_with fail
  go_ret
  exact ⟨rfl, hb1⟩

end Go.Proofs.YtbhnlfgccldmaaaGreat
/- The field: P = 2^64 - 2^32 + 1 is a prime (Proth), and what follows of it (Fermat, inverses). Plain numbers: no Go text. -/
namespace Go.Proofs.YtbhnlfgccldmaaaGreat.Fld

/-- A prime. -/
def Prm (p : Nat) : Prop := 2 ≤ p ∧ ∀ d, d ∣ p → d = 1 ∨ d = p

theorem Prm.pos {p : Nat} (h : Prm p) : 0 < p := by have := h.1; omega

theorem Prm.coprime {p a : Nat} (h : Prm p) (ha : ¬ p ∣ a) : Nat.Coprime p a := by
  rcases h.2 (Nat.gcd p a) (Nat.gcd_dvd_left p a) with e | e
  · exact e
  · exact absurd (e ▸ Nat.gcd_dvd_right p a) ha

theorem Prm.euclid {p a b : Nat} (h : Prm p) (hd : p ∣ a * b) : p ∣ a ∨ p ∣ b := by
  by_cases ha : p ∣ a
  · exact .inl ha
  · exact .inr ((h.coprime ha).dvd_of_dvd_mul_left hd)

/-- Binomials. -/
def ch : Nat → Nat → Nat
  | _, 0 => 1
  | 0, _ + 1 => 0
  | n + 1, k + 1 => ch n k + ch n (k + 1)

theorem ch_zero (n : Nat) : ch n 0 = 1 := by cases n <;> rfl
theorem ch_over : ∀ (n k : Nat), n < k → ch n k = 0
  | 0, k + 1, _ => rfl
  | n + 1, k + 1, h => by show ch n k + ch n (k + 1) = 0; rw [ch_over n k (by omega), ch_over n (k + 1) (by omega)]
theorem ch_self : ∀ n, ch n n = 1
  | 0 => rfl
  | n + 1 => by show ch n n + ch n (n + 1) = 1; rw [ch_self n, ch_over n (n + 1) (by omega)]
theorem ch_absorb : ∀ (n k : Nat), (k + 1) * ch (n + 1) (k + 1) = (n + 1) * ch n k
  | 0, 0 => rfl
  | 0, k + 1 => by
    have e1 : ch 1 (k + 1 + 1) = 0 := ch_over 1 (k + 2) (by omega)
    have e2 : ch 0 (k + 1) = 0 := rfl
    rw [e1, e2]; simp
  | n + 1, 0 => by
    have h := ch_absorb n 0
    have e : ch (n + 1 + 1) (0 + 1) = ch (n + 1) 0 + ch (n + 1) (0 + 1) := rfl
    rw [e, ch_zero] at *
    simp only [Nat.zero_add, Nat.one_mul, Nat.mul_one] at *
    omega
  | n + 1, k + 1 => by
    have h1 := ch_absorb n k
    have h2 := ch_absorb n (k + 1)
    have e : ch (n + 1 + 1) (k + 1 + 1) = ch (n + 1) (k + 1) + ch (n + 1) (k + 1 + 1) := rfl
    have e' : ch (n + 1) (k + 1) = ch n k + ch n (k + 1) := rfl
    rw [e]
    generalize ch (n + 1) (k + 1 + 1) = A at *
    generalize ch (n + 1) (k + 1) = B at *
    generalize ch n k = C at *
    generalize ch n (k + 1) = D at *
    subst e'
    grind

/-- The sum of the first m terms of (x + 1)^n. -/
def part (n x : Nat) : Nat → Nat
  | 0 => 0
  | m + 1 => part n x m + ch n m * x ^ m

theorem part_succ (n x : Nat) : ∀ m, part (n + 1) x (m + 1) = part n x (m + 1) + x * part n x m
  | 0 => by simp [part, ch_zero]
  | m + 1 => by
    have ih := part_succ n x m
    have e1 : part (n + 1) x (m + 1 + 1) = part (n + 1) x (m + 1) + ch (n + 1) (m + 1) * x ^ (m + 1) := rfl
    have e2 : part n x (m + 1 + 1) = part n x (m + 1) + ch n (m + 1) * x ^ (m + 1) := rfl
    have e3 : part n x (m + 1) = part n x m + ch n m * x ^ m := rfl
    have e4 : ch (n + 1) (m + 1) = ch n m + ch n (m + 1) := rfl
    rw [e1, ih, e2, e4, Nat.pow_succ]
    rw [e3]
    generalize part n x m = A
    generalize ch n m = B
    generalize ch n (m + 1) = C
    generalize x ^ m = D
    grind

theorem part_all (x : Nat) : ∀ n, part n x (n + 1) = (x + 1) ^ n
  | 0 => by simp [part, ch]
  | n + 1 => by
    rw [part_succ, part_all x n]
    have e : part n x (n + 1 + 1) = part n x (n + 1) + ch n (n + 1) * x ^ (n + 1) := rfl
    rw [e, ch_over n (n + 1) (by omega), part_all x n, Nat.pow_succ]
    grind

theorem ch_dvd {p k : Nat} (h : Prm p) (h0 : 0 < k) (h1 : k < p) : p ∣ ch p k := by
  obtain ⟨q, rfl⟩ : ∃ q, p = q + 1 := ⟨p - 1, by have := h.1; omega⟩
  obtain ⟨j, rfl⟩ : ∃ j, k = j + 1 := ⟨k - 1, by omega⟩
  have := ch_absorb q j
  have hd : (q + 1) ∣ (j + 1) * ch (q + 1) (j + 1) := ⟨_, this⟩
  rcases h.euclid hd with hx | hx
  · have := Nat.le_of_dvd (by omega) hx; omega
  · exact hx

theorem part_mod {p x : Nat} (h : Prm p) : ∀ m, m + 1 ≤ p → part p x (m + 1) % p = 1 % p
  | 0, _ => by simp [part, ch_zero]
  | m + 1, hm => by
    have ih := part_mod (x := x) h m (by omega)
    have e : part p x (m + 1 + 1) = part p x (m + 1) + ch p (m + 1) * x ^ (m + 1) := rfl
    obtain ⟨c, hc⟩ := ch_dvd h (k := m + 1) (by omega) (by omega)
    rw [e, hc, Nat.mul_assoc, Nat.add_mul_mod_self_left, ih]

theorem frob {p : Nat} (h : Prm p) (x : Nat) : (x + 1) ^ p % p = (x ^ p + 1) % p := by
  obtain ⟨q, rfl⟩ : ∃ q, p = q + 1 := ⟨p - 1, by have := h.1; omega⟩
  have hm := part_mod (x := x) h q (by omega)
  have e : part (q + 1) x (q + 1 + 1) = part (q + 1) x (q + 1) + ch (q + 1) (q + 1) * x ^ (q + 1) := rfl
  rw [← part_all, e, ch_self, Nat.one_mul, Nat.add_mod, hm, ← Nat.add_mod, Nat.add_comm]

theorem fermat_pow {p : Nat} (h : Prm p) : ∀ x, x ^ p % p = x % p
  | 0 => by rw [Nat.zero_pow h.pos]
  | x + 1 => by rw [frob h x, Nat.add_mod, fermat_pow h x, ← Nat.add_mod]

/-- Fermat. -/
theorem fermat {p a : Nat} (h : Prm p) (ha : a % p ≠ 0) : a ^ (p - 1) % p = 1 := by
  have h2 := h.1
  obtain ⟨q, rfl⟩ : ∃ q, p = q + 1 := ⟨p - 1, by omega⟩
  have hf := fermat_pow h a
  have hpos : 0 < a ^ q := Nat.pow_pos (by rcases Nat.eq_zero_or_pos a with rfl | h0; (· simp at ha); exact h0)
  have hd : (q + 1) ∣ a * (a ^ q - 1) := by
    have e : a * (a ^ q - 1) = a ^ (q + 1) - a := by rw [Nat.mul_sub, Nat.pow_succ, Nat.mul_comm a, Nat.mul_one]
    rw [e]
    exact (Nat.dvd_of_mod_eq_zero (Nat.sub_mod_eq_zero_of_mod_eq hf))
  have hn : ¬ (q + 1) ∣ a := fun hx => ha (Nat.mod_eq_zero_of_dvd hx)
  rcases h.euclid hd with hx | hx
  · exact absurd hx hn
  · obtain ⟨c, hc⟩ := hx
    have : a ^ q = 1 + (q + 1) * c := by omega
    rw [Nat.add_sub_cancel, this, Nat.add_mul_mod_self_left, Nat.mod_eq_of_lt (by omega)]

/-- Drawers: n numbers below m, no two the same. -/
theorem drawers : ∀ (m n : Nat) (f : Nat → Nat), (∀ i, i < n → f i < m) → (∀ i j, i < n → j < n → f i = f j → i = j) → n ≤ m
  | 0, n, f, hb, _ => by
    rcases Nat.eq_zero_or_pos n with h | h
    · omega
    · have := hb 0 h; omega
  | m + 1, 0, _, _, _ => Nat.zero_le _
  | m + 1, n + 1, f, hb, hi => by
    have key := drawers m n (fun i => if f i = m then f n else f i)
      (fun i h => by
        show (if f i = m then f n else f i) < m
        have h1 := hb i (by omega)
        have h2 := hb n (by omega)
        split
        · rename_i e
          have : f n ≠ m := fun e2 => by have := hi i n (by omega) (by omega) (e.trans e2.symm); omega
          omega
        · omega)
      (fun i j h1 h2 e => by
        have e' : (if f i = m then f n else f i) = (if f j = m then f n else f j) := e
        split at e' <;> split at e'
        · rename_i a b; exact hi i j (by omega) (by omega) (a.trans b.symm)
        · have := hi n j (by omega) (by omega) e'; omega
        · have := hi i n (by omega) (by omega) e'; omega
        · exact hi i j (by omega) (by omega) e')
    omega

end Go.Proofs.YtbhnlfgccldmaaaGreat.Fld
/- P = 2^64 - 2^32 + 1 is a prime, by Proth's theorem; Fermat and inverses for the field's numbers. Plain numbers: no Go text. -/
namespace Go.Proofs.YtbhnlfgccldmaaaGreat.Fld

theorem odd_part : ∀ t : Nat, 0 < t → ∃ s o, t = 2 ^ s * (2 * o + 1) := by
  intro t
  induction t using Nat.strongRecOn with
  | ind t ih =>
    intro h
    by_cases h2 : t % 2 = 1
    · exact ⟨0, t / 2, by omega⟩
    · obtain ⟨s, o, e⟩ := ih (t / 2) (by omega) (by omega)
      refine ⟨s + 1, o, ?_⟩
      rw [Nat.pow_succ, Nat.mul_right_comm, ← e]; omega

theorem pow_one_mod {b d t m : Nat} (h : b ^ t % d = 1 % d) : b ^ (t * m) % d = 1 % d := by
  rw [Nat.pow_mul, Nat.pow_mod, h, ← Nat.pow_mod, Nat.one_pow]

theorem pow_odd_mod {x d : Nat} (h : x * x % d = 1 % d) : ∀ o, x ^ (2 * o + 1) % d = x % d
  | 0 => by simp
  | o + 1 => by
    have e : x ^ (2 * (o + 1) + 1) = x ^ (2 * o + 1) * (x * x) := by
      rw [show 2 * (o + 1) + 1 = 2 * o + 1 + 1 + 1 from by omega, Nat.pow_succ, Nat.pow_succ, Nat.mul_assoc]
    rw [e, Nat.mul_mod, h, ← Nat.mul_mod, Nat.mul_one, pow_odd_mod h o]

/-- A divisor from 2 on of a number P, to which some b says b^(2^e) = -1, is at least 2^(e+1). -/
theorem proth_div {P b e d : Nat} (hP : P % 2 = 1) (h : b ^ 2 ^ e % P = P - 1) (hd : d ∣ P) (h2 : 2 ≤ d) (h1 : 0 < P) : 2 ^ (e + 1) ≤ d := by
  have hd2 : d % 2 = 1 := by
    obtain ⟨c, hc⟩ := hd
    have : d % 2 = 0 ∨ d % 2 = 1 := by omega
    rcases this with h0 | h0
    · have : (d * c) % 2 = 0 := by rw [Nat.mul_mod, h0]; simp
      rw [← hc] at this; omega
    · exact h0
  have hle := Nat.le_of_dvd h1 hd
  generalize hx : b ^ 2 ^ e = x at h
  have hxd : x % d = d - 1 := by
    have e1 : x % d = (x % P) % d := (Nat.mod_mod_of_dvd x hd).symm
    rw [e1, h]
    obtain ⟨c, hc⟩ := hd
    have hc0 : 0 < c := by rcases Nat.eq_zero_or_pos c with h0 | h0; (· rw [h0] at hc; omega); exact h0
    obtain ⟨c', rfl⟩ : ∃ c', c = c' + 1 := ⟨c - 1, by omega⟩
    have : P - 1 = (d - 1) + d * c' := by rw [hc, Nat.mul_add, Nat.mul_one]; omega
    rw [this, Nat.add_mul_mod_self_left, Nat.mod_eq_of_lt (by omega)]
  have hxx : x * x % d = 1 % d := by
    rw [Nat.mul_mod, hxd]
    obtain ⟨q, rfl⟩ : ∃ q, d = q + 2 := ⟨d - 2, by omega⟩
    have : (q + 2 - 1) * (q + 2 - 1) = 1 + (q + 2) * q := by
      rw [show q + 2 - 1 = q + 1 from by omega]; grind
    rw [this, Nat.add_mul_mod_self_left]
  have hxn : ¬ x % d = 1 % d := by
    rw [hxd, Nat.mod_eq_of_lt (by omega)]; omega
  have hfull : b ^ 2 ^ (e + 1) % d = 1 % d := by
    rw [Nat.pow_succ, Nat.pow_mul, hx, Nat.pow_succ, Nat.pow_one, hxx]
  refine drawers d (2 ^ (e + 1)) (fun i => b ^ i % d) (fun i _ => Nat.mod_lt _ (by omega)) ?_
  have key : ∀ i j, i < j → j < 2 ^ (e + 1) → b ^ i % d = b ^ j % d → False := by
    intro i j hij hj he
    have ht : b ^ (j - i) % d = 1 % d := by
      have e1 : b ^ (2 ^ (e + 1)) * b ^ (j - i) = b ^ (2 ^ (e + 1) - i) * b ^ j := by
        rw [← Nat.pow_add, ← Nat.pow_add]; congr 1; omega
      have e2 : b ^ (2 ^ (e + 1) - i) * b ^ i = b ^ 2 ^ (e + 1) := by
        rw [← Nat.pow_add]; congr 1; omega
      have e3 : (b ^ 2 ^ (e + 1) * b ^ (j - i)) % d = b ^ (j - i) % d := by
        rw [Nat.mul_mod, hfull, ← Nat.mul_mod, Nat.one_mul]
      rw [← e3, e1, Nat.mul_mod, ← he, ← Nat.mul_mod, e2, hfull]
    obtain ⟨s, o, hs⟩ := odd_part (j - i) (by omega)
    have hse : s ≤ e := by
      rcases Nat.lt_or_ge e s with hlt | hge
      · have h3 : 2 ^ (e + 1) ≤ 2 ^ s := Nat.pow_le_pow_right (by omega) (by omega)
        have h4 : 2 ^ s ≤ 2 ^ s * (2 * o + 1) := Nat.le_mul_of_pos_right _ (by omega)
        omega
      · exact hge
    have h5 : b ^ ((j - i) * 2 ^ (e - s)) % d = 1 % d := pow_one_mod ht
    have h6 : (j - i) * 2 ^ (e - s) = 2 ^ e * (2 * o + 1) := by
      have : 2 ^ e = 2 ^ s * 2 ^ (e - s) := by rw [← Nat.pow_add]; congr 1; omega
      rw [hs, this]; grind
    rw [h6, Nat.pow_mul, hx, pow_odd_mod hxx o] at h5
    exact hxn h5
  intro i j hi hj he
  rcases Nat.lt_trichotomy i j with h | h | h
  · exact (key i j h hj he).elim
  · exact h
  · exact (key j i h hi he.symm).elim

theorem proth {P b e : Nat} (hP : P % 2 = 1) (h : b ^ 2 ^ e % P = P - 1) (h1 : 2 ≤ P) (hlt : P < 2 ^ (e + 1) * 2 ^ (e + 1)) : Prm P := by
  refine ⟨h1, fun d hd => ?_⟩
  obtain ⟨c, hc⟩ := hd
  have hpos : 0 < P := by omega
  by_cases hd1 : d = 1
  · exact .inl hd1
  by_cases hc1 : c = 1
  · right; rw [hc, hc1, Nat.mul_one]
  exfalso
  have hd0 : d ≠ 0 := fun h0 => by rw [h0, Nat.zero_mul] at hc; omega
  have hc0 : c ≠ 0 := fun h0 => by rw [h0, Nat.mul_zero] at hc; omega
  have k1 := proth_div hP h ⟨c, hc⟩ (by omega) hpos
  have k2 := proth_div hP h ⟨d, by rw [hc, Nat.mul_comm]⟩ (by omega) hpos
  have := Nat.mul_le_mul k1 k2
  omega

/-- Squares, one behind the other, modulo P. -/
def sqs (P : Nat) : Nat → Nat → Nat
  | b, 0 => b % P
  | b, e + 1 => let x := sqs P b e; x * x % P
theorem sqs_eq (P b : Nat) : ∀ e, b ^ 2 ^ e % P = sqs P b e
  | 0 => by simp [sqs]
  | e + 1 => by
    show _ = sqs P b e * sqs P b e % P
    rw [← sqs_eq P b e, Nat.pow_succ, Nat.pow_mul, Nat.pow_succ, Nat.pow_one, Nat.mul_mod]

/-- P, as a number of its own. -/
def Pn : Nat := 18446744069414584321
/-- An element of order 2^32. -/
def gen : Nat := 1753635133440165772
theorem gen_sq : sqs Pn gen 31 = Pn - 1 := by decide +kernel
theorem P_prime : Prm Pn := proth (P := Pn) (b := gen) (e := 31) (by decide +kernel) ((sqs_eq Pn gen 31).trans gen_sq) (by decide +kernel) (by decide +kernel)

theorem fm_cast (n : Nat) : fm (n : Int) = ((n % Pn : Nat) : Int) := by unfold fm Pn; omega

def p1 : Nat := 18446744069414584320
theorem p1_eq : p1 = Pn - 1 := by decide +kernel

theorem fm_pow1 (y : Int) (k : Nat) : fm (fm y ^ k) = fm (y ^ k) := by
  induction k with
  | zero => simp
  | succ k ih => rw [Int.pow_succ, Int.pow_succ, ← fm_mul_l, ih, fm_mul_fm]

/-- Fermat, of the field's numbers. -/
theorem fm_fermat (a : Int) (h : fm a ≠ 0) : fm (a ^ p1) = 1 := by
  obtain ⟨n, hn⟩ := Int.eq_ofNat_of_zero_le (fm_lo a)
  rw [← fm_pow1, hn, ← Int.natCast_pow, fm_cast, p1_eq]
  have hm : n % Pn ≠ 0 := by
    have := fm_hi a
    rw [Nat.mod_eq_of_lt (by unfold Pn; omega)]
    intro h0; exact h (by rw [hn, h0]; rfl)
  rw [fermat P_prime hm]; rfl

def p2' : Nat := 18446744069414584319
theorem p1_succ : p1 = p2' + 1 := by decide +kernel
theorem inv_mul (a : Int) (h : fm a ≠ 0) : fm (fm (a ^ p2') * a) = 1 := by
  rw [fm_mul_l, ← Int.pow_succ]
  have := fm_fermat a h
  rw [p1_succ] at this
  exact this
end Go.Proofs.YtbhnlfgccldmaaaGreat.Fld
