/- Put together by program (merge.py): Fo Rowi List Fact Gcd Powm. -/
import Derived.Deep.AppendSrc
import Derived.Deep.Onto
import Derived.WalkMore
import Derived.Handy
import Derived.Deep.AppendLies
import Derived.Test.YtbhnlfgccldmaaaGreatZd1
import Derived.Test.YtbhnlfgccldmaaaGreatZd3
/- Trees of descriptors: as plain data, and as they lie in memory. -/
namespace Go.Proofs.YtbhnlfgccldmaaaGreat
open Go.ChangeShapes Go.WideShapes Go.ChangeAt Go.RowKit
set_option linter.unusedVariables false
/-- A row of nodes: of each its two numbers, its kids, and the rest of the row. -/
inductive Fo where
  | nil
  | cons (k n : Int) (ks r : Fo)
namespace Fo
def len : Fo → Nat
  | nil => 0
  | cons _ _ _ r => r.len + 1
/-- How many nodes. -/
def cnt : Fo → Nat
  | nil => 0
  | cons _ _ ks r => ks.cnt + r.cnt + 1
def depth : Fo → Nat
  | nil => 0
  | cons _ _ ks r => max (ks.depth + 1) r.depth
def k : Fo → Nat → Int
  | nil, _ => 0
  | cons k _ _ _, 0 => k
  | cons _ _ _ r, i + 1 => r.k i
def n : Fo → Nat → Int
  | nil, _ => 0
  | cons _ n _ _, 0 => n
  | cons _ _ _ r, i + 1 => r.n i
def kids : Fo → Nat → Fo
  | nil, _ => nil
  | cons _ _ ks _, 0 => ks
  | cons _ _ _ r, i + 1 => r.kids i
def drop : Fo → Nat → Fo
  | f, 0 => f
  | nil, _ + 1 => nil
  | cons _ _ _ r, i + 1 => r.drop i
/-- All numbers are in order. -/
def wf : Fo → Prop
  | nil => True
  | cons k n ks r => (-9223372036854775808 ≤ k ∧ k ≤ 9223372036854775807) ∧ (-9223372036854775808 ≤ n ∧ n ≤ 9223372036854775807) ∧ ks.wf ∧ r.wf
/-- The nodes lie from place o of block b on; all of it below block lim. -/
def At (w : World) (lim : Nat) : Fo → Nat → Nat → Prop
  | nil, _, _ => True
  | cons k n ks r, b, o => b < lim ∧ w.cell? ⟨b, o, none⟩ = some (.int .i64 k) ∧ w.cell? ⟨b, o + 1, none⟩ = some (.int .i64 n) ∧
    (∃ a c, w.cell? ⟨b, o + 2, none⟩ = some (.slice a ks.len c) ∧ ks.len ≤ c ∧ c ≤ maxLen ∧ (ks.len = 0 ∨ ∃ b' o', a = some ⟨b', o', none⟩ ∧ ks.At w lim b' o')) ∧ r.At w lim b (o + 3)
theorem drop_zero (f : Fo) : f.drop 0 = f := by cases f <;> rfl
theorem drop_at : ∀ (f : Fo) (i : Nat), i < f.len → f.drop i = cons (f.k i) (f.n i) (f.kids i) (f.drop (i + 1))
  | nil, _, h => by simp [len] at h
  | cons _ _ _ r, 0, _ => by simp [drop, k, n, kids, drop_zero]
  | cons _ _ _ r, i + 1, h => by
    have h' : i < r.len := by simp [len] at h; omega
    show r.drop i = cons (r.k i) (r.n i) (r.kids i) (r.drop (i + 1))
    exact drop_at r i h'
theorem drop_len : ∀ (f : Fo), f.drop f.len = nil
  | nil => rfl
  | cons _ _ _ r => drop_len r
theorem cnt_kids : ∀ (f : Fo) (i : Nat), i < f.len → (f.kids i).cnt < f.cnt
  | nil, _, h => by simp [len] at h
  | cons _ _ ks r, 0, _ => by simp only [kids, cnt]; omega
  | cons _ _ ks r, i + 1, h => by
    have h' : i < r.len := by simp [len] at h; omega
    have := cnt_kids r i h'
    simp only [kids, cnt]; omega
theorem len_cnt : ∀ f : Fo, f.len ≤ f.cnt
  | nil => Nat.le_refl _
  | cons _ _ ks r => by have := len_cnt r; simp only [len, cnt]; omega
theorem depth_cnt : ∀ f : Fo, f.depth ≤ f.cnt
  | nil => Nat.le_refl _
  | cons _ _ ks r => by have h1 := depth_cnt r; have h2 := depth_cnt ks; simp only [depth, cnt]; omega
theorem wf_at : ∀ (f : Fo) (i : Nat), f.wf → i < f.len → (-9223372036854775808 ≤ f.k i ∧ f.k i ≤ 9223372036854775807) ∧ (-9223372036854775808 ≤ f.n i ∧ f.n i ≤ 9223372036854775807) ∧ (f.kids i).wf
  | nil, _, _, h => by simp [len] at h
  | cons _ _ ks r, 0, hw, _ => ⟨hw.1, hw.2.1, hw.2.2.1⟩
  | cons _ _ ks r, i + 1, hw, h => wf_at r i hw.2.2.2 (by simp [len] at h; omega)
end Fo
/-- A slice value that reads as a row of nodes. -/
def Kids (w : World) (lim : Nat) (v : Value) (f : Fo) : Prop := ∃ a c, v = .slice a f.len c ∧ f.len ≤ c ∧ c ≤ maxLen ∧ (f.len = 0 ∨ ∃ b o, a = some ⟨b, o, none⟩ ∧ f.At w lim b o)
theorem Fo.At.get : ∀ {f : Fo} {w : World} {lim b o : Nat} (h : f.At w lim b o) {i : Nat} (hi : i < f.len),
    b < lim ∧ w.cell? ⟨b, o + i * 3, none⟩ = some (.int .i64 (f.k i)) ∧ w.cell? ⟨b, o + i * 3 + 1, none⟩ = some (.int .i64 (f.n i)) ∧ ∃ v, w.cell? ⟨b, o + i * 3 + 2, none⟩ = some v ∧ Kids w lim v (f.kids i)
  | .nil, _, _, _, _, _, _, hi => by simp [Fo.len] at hi
  | .cons _ _ ks r, w, lim, b, o, ⟨hb, c0, c1, ⟨a, c, c2, h1, h2, h3⟩, hr⟩, 0, _ => by
    refine ⟨hb, by simpa [Fo.k] using c0, by simpa [Fo.n] using c1, .slice a ks.len c, by simpa using c2, a, c, rfl, h1, h2, h3⟩
  | .cons _ _ ks r, w, lim, b, o, ⟨hb, _, _, _, hr⟩, i + 1, hi => by
    have h' : i < r.len := by simp [Fo.len] at hi; omega
    have := Fo.At.get hr h'
    rw [show o + (i + 1) * 3 = o + 3 + i * 3 by omega]
    exact this
theorem Fo.At.carry : ∀ {f : Fo} {w w' : World} {lim b o : Nat} (_ : f.At w lim b o) (_ : Below lim w w'), f.At w' lim b o
  | .nil, _, _, _, _, _, _, _ => trivial
  | .cons _ _ ks r, w, w', lim, b, o, ⟨hb, c0, c1, ⟨a, c, c2, h1, h2, h3⟩, hr⟩, hB => by
    refine ⟨hb, (hB.cell (p := ⟨b, o, none⟩) hb).trans c0, (hB.cell (p := ⟨b, o + 1, none⟩) hb).trans c1, ⟨a, c, (hB.cell (p := ⟨b, o + 2, none⟩) hb).trans c2, h1, h2, ?_⟩, Fo.At.carry hr hB⟩
    rcases h3 with h3 | ⟨b', o', e, h3⟩
    · exact .inl h3
    · exact .inr ⟨b', o', e, Fo.At.carry h3 hB⟩
theorem Fo.At.mono : ∀ {f : Fo} {w : World} {lim lim' b o : Nat} (_ : f.At w lim b o) (_ : lim ≤ lim'), f.At w lim' b o
  | .nil, _, _, _, _, _, _, _ => trivial
  | .cons _ _ ks r, w, lim, lim', b, o, ⟨hb, c0, c1, ⟨a, c, c2, h1, h2, h3⟩, hr⟩, hl => by
    refine ⟨Nat.lt_of_lt_of_le hb hl, c0, c1, ⟨a, c, c2, h1, h2, ?_⟩, Fo.At.mono hr hl⟩
    rcases h3 with h3 | ⟨b', o', e, h3⟩
    · exact .inl h3
    · exact .inr ⟨b', o', e, Fo.At.mono h3 hl⟩
theorem Kids.carry {w w' : World} {lim : Nat} {v : Value} {f : Fo} (h : Kids w lim v f) (hB : Below lim w w') : Kids w' lim v f := by
  obtain ⟨a, c, rfl, h1, h2, h3⟩ := h
  refine ⟨a, c, rfl, h1, h2, ?_⟩
  rcases h3 with h3 | ⟨b, o, e, h3⟩
  · exact .inl h3
  · exact .inr ⟨b, o, e, h3.carry hB⟩
theorem Kids.mono {w : World} {lim lim' : Nat} {v : Value} {f : Fo} (h : Kids w lim v f) (hl : lim ≤ lim') : Kids w lim' v f := by
  obtain ⟨a, c, rfl, h1, h2, h3⟩ := h
  refine ⟨a, c, rfl, h1, h2, ?_⟩
  rcases h3 with h3 | ⟨b, o, e, h3⟩
  · exact .inl h3
  · exact .inr ⟨b, o, e, h3.mono hl⟩
theorem Kids.below {w w' : World} {lim : Nat} {v : Value} {f : Fo} (h : Kids w lim v f) (hl : lim ≤ w.heap.size) (hB : Below w.heap.size w w') : Kids w' lim v f := h.carry (hB.mono hl)
theorem Kids.nought (w : World) (lim : Nat) : Kids w lim (.slice none 0 0) .nil := ⟨none, 0, rfl, Nat.le_refl _, by unfold maxLen; omega, .inl rfl⟩
/-- The i-th of the nodes. -/
theorem Kids.get {w : World} {lim : Nat} {a : Option Addr} {m c : Nat} {f : Fo} (h : Kids w lim (.slice a m c) f) {i : Nat} (hi : i < m) :
    ∃ b o v, a = some ⟨b, o, none⟩ ∧ b < lim ∧ w.cell? ⟨b, o + i * 3, none⟩ = some (.int .i64 (f.k i)) ∧ w.cell? ⟨b, o + i * 3 + 1, none⟩ = some (.int .i64 (f.n i)) ∧ w.cell? ⟨b, o + i * 3 + 2, none⟩ = some v ∧ Kids w lim v (f.kids i) := by
  obtain ⟨a', c', e, h1, h2, h3⟩ := h
  cases e
  rcases h3 with h3 | ⟨b, o, rfl, h3⟩
  · omega
  · obtain ⟨hb, c0, c1, v, c2, hk⟩ := h3.get hi
    exact ⟨b, o, v, rfl, hb, c0, c1, c2, hk⟩
theorem Kids.form {w : World} {lim : Nat} {v : Value} {f : Fo} (h : Kids w lim v f) : ∃ a c, v = .slice a f.len c ∧ f.len ≤ c ∧ c ≤ maxLen := by
  obtain ⟨a, c, rfl, h1, h2, _⟩ := h
  exact ⟨a, c, rfl, h1, h2⟩
theorem Kids.shape {w : World} {lim : Nat} {v : Value} {f : Fo} (h : Kids w lim v f) : ∃ a m c, v = .slice a m c ∧ m ≤ c ∧ c ≤ 9223372036854775807 ∧ Hid (m = f.len) := by
  obtain ⟨a, c, rfl, h1, h2, _⟩ := h
  unfold maxLen at h2
  exact ⟨a, _, c, rfl, h1, by omega, Lib.hid rfl⟩
/-- A block of three cells, laid. -/
theorem box3 (W : World) (k n : Int) (v : Value) (T : TypeId) : ∃ w0 : World, w0 = W.alloc (.cells #[.int .i64 k, .int .i64 n, v] T) ∧ w0.cell? ⟨W.heap.size, 0, none⟩ = some (.int .i64 k) ∧ w0.cell? ⟨W.heap.size, 1, none⟩ = some (.int .i64 n) ∧ w0.cell? ⟨W.heap.size, 2, none⟩ = some v ∧ Below W.heap.size W w0 ∧ w0.heap.size = W.heap.size + 1 := by
  have hn := heap_alloc_new W (.cells #[.int .i64 k, .int .i64 n, v] T)
  refine ⟨_, rfl, ?_, ?_, ?_, (Below.refl _ _).alloc (Nat.le_refl _) _, by simp⟩ <;> (rw [cell_of_row _ _ _ _ _ _ hn]; rfl)
theorem Bx.set {w : World} {B : Nat} {T : TypeId} {v : Value} (h : Bx w B T v) (u : Value) : Bx (w.setCell ⟨B, 0, none⟩ u) B T u := by
  unfold Bx
  rw [heap_setCell_same w B 0 _ T _ h]
  rfl
theorem Bx.below {w w' : World} {B : Nat} {T : TypeId} {v : Value} (h : Bx w B T v) (hb : Below w.heap.size w w') : Bx w' B T v := (hb.block B h.lt).trans h
theorem But.cell {w w' : World} {B : Nat} (h : But w w' B) {X j : Nat} (hX : X < w.heap.size) (hne : X ≠ B) {v : Value} (hc : w.cell? ⟨X, j, none⟩ = some v) : w'.cell? ⟨X, j, none⟩ = some v :=
  (World.cell?_of_block (h.o X hX hne)).trans hc
end Go.Proofs.YtbhnlfgccldmaaaGreat
/- Rows of ints that a call makes and fills place by place. -/
namespace Go.Proofs.YtbhnlfgccldmaaaGreat
open Go.ChangeShapes Go.WideShapes Go.ChangeAt Go.RowKit
set_option linter.unusedVariables false

/-- A row of n places, of which the first k hold those of ys, the others nought. -/
def filli (ys : List Int) (k n : Nat) : Array Value := ((ys.take k ++ List.replicate (n - k) 0).map (Value.int .i64)).toArray
theorem filli_zero (ys : List Int) (n : Nat) : filli ys 0 n = Array.replicate n (.int .i64 0) := by
  unfold filli; simp
theorem filli_step (ys : List Int) (k n : Nat) (hk : k < n) (hn : ys.length = n) : (filli ys k n).setIfInBounds k (.int .i64 (ys.getD k 0)) = filli ys (k + 1) n := by
  have hky : k < ys.length := by omega
  have e : ys.getD k 0 = ys[k] := by simp [List.getD, hky]
  unfold filli
  rw [e, List.setIfInBounds_toArray]
  congr 1
  apply List.ext_getElem?
  intro i
  rw [List.getElem?_set]
  simp only [List.getElem?_map, List.getElem?_append, List.length_take, List.length_map, List.length_append, List.length_replicate, List.getElem?_take, List.getElem?_replicate]
  by_cases h1 : k = i
  · subst h1
    have h2 : k < min (k + 1) ys.length := by omega
    have h3 : k < min k ys.length + (n - k) := by omega
    simp [h2, h3, List.getElem?_eq_getElem hky]
  · by_cases h2 : i < k
    · have h3 : i < min k ys.length := by omega
      have h4 : i < min (k + 1) ys.length := by omega
      have h5 : i < k + 1 := by omega
      simp [h1, h2, h3, h4, h5]
    · have h3 : ¬ i < min k ys.length := by omega
      have h4 : ¬ i < min (k + 1) ys.length := by omega
      have e1 : min k ys.length = k := by omega
      have e2 : min (k + 1) ys.length = k + 1 := by omega
      simp only [h1, h3, h4, if_false, e1, e2]
      have h8 : ¬ i < k + 1 := by omega
      by_cases h5 : i < n
      · have h6 : i - k < n - k := by omega
        have h7 : i - (k + 1) < n - (k + 1) := by omega
        simp [h2, h8, h6, h7]
      · have h6 : ¬ i - k < n - k := by omega
        have h7 : ¬ i - (k + 1) < n - (k + 1) := by omega
        simp [h2, h8, h6, h7]
theorem filli_full (ys : List Int) (n : Nat) (hn : ys.length = n) : filli ys n n = (ys.map (Value.int .i64)).toArray := by
  unfold filli; rw [← hn]; simp
theorem filli_at (ys : List Int) (k n i : Nat) (hk : k ≤ n) (hi : i < n) (hn : ys.length = n) : ∃ v, (filli ys k n)[i]? = some v := by
  have : i < (filli ys k n).size := by unfold filli; simp; omega
  exact ⟨_, Array.getElem?_eq_getElem this⟩

/-- Block B holds the numbers ys, and no more. -/
def RowAtI (w : World) (B : Nat) (T : TypeId) (ys : List Int) : Prop := w.heap[B]? = some (.cells ((ys.map (Value.int .i64)).toArray) T (0, 0))
theorem RowAtI.lt {w : World} {B : Nat} {T : TypeId} {ys : List Int} (h : RowAtI w B T ys) : B < w.heap.size := by
  unfold RowAtI at h
  by_cases hlt : B < w.heap.size
  · exact hlt
  · have : w.heap[B]? = none := by simp; omega
    rw [this] at h; simp at h
theorem RowAtI.reads {w : World} {B : Nat} {T : TypeId} {ys : List Int} (h : RowAtI w B T ys) : Reads .i64 w (some ⟨B, 0, none⟩) ys :=
  .inr ⟨B, 0, rfl, h.lt, fun i hi => by
    rw [cell_of_row w B (0 + i) _ _ _ h]
    simp [List.getD, hi]⟩
theorem RowAtI.below {w w' : World} {B : Nat} {T : TypeId} {ys : List Int} (h : RowAtI w B T ys) (hb : Below w.heap.size w w') : RowAtI w' B T ys := by
  unfold RowAtI; rw [hb.block B h.lt]; exact h
theorem RowAtI.alloc {w : World} {B : Nat} {T : TypeId} {ys : List Int} (h : RowAtI w B T ys) (o : Obj) : RowAtI (w.alloc o) B T ys := by
  unfold RowAtI; rw [Below.heap_alloc w o B h.lt]; exact h

theorem made_cells_i (v : Value) (n : Nat) : madeCells #[v] n = Array.replicate n v := by
  unfold madeCells
  apply Array.ext
  · simp
  · intro i h1 h2
    simp [Nat.mod_one]

theorem info_i64 : (Tryz.prog.info? 3).map (fun i => (i.zero, i.size, i.bytes)) = some (some (.int .i64 0), 1, 8) := by kernel_rfl
theorem make_i64 (n : Nat) (hn : n ≤ 35184372088832) (w : World) :
    (Instr.makeSlice 37 (.int .i64 (n : Int)) (.int .i64 (n : Int))).run Tryz.prog w = .ok (.slice (some ⟨w.heap.size, 0, none⟩) n n) (w.alloc (.cells (Array.replicate n (.int .i64 0)) 3)) := by
  obtain ⟨i, hi, hz, hs, hb⟩ := info_parts info_i64
  rw [run_make w 37 3 i (.int .i64 0) Tryz.underlying37 hi hz .i64 .i64 (n : Int) (n : Int) (by omega) (by omega) (by rw [hb]; omega) (by omega), hs, Int.toNat_natCast, Nat.mul_one]
  rw [show (Value.int .i64 0).cells = #[.int .i64 0] from rfl, made_cells_i]

/-- A row that is being filled: block B. -/
def FillingI (w : World) (B : Nat) (T : TypeId) (ys : List Int) (k n : Nat) : Prop := w.heap[B]? = some (.cells (filli ys k n) T (0, 0))
theorem FillingI.lt {w : World} {B : Nat} {T : TypeId} {ys : List Int} {k n : Nat} (h : FillingI w B T ys k n) : B < w.heap.size := by
  unfold FillingI at h
  by_cases hlt : B < w.heap.size
  · exact hlt
  · have : w.heap[B]? = none := by simp; omega
    rw [this] at h; simp at h
theorem FillingI.below {w w' : World} {B : Nat} {T : TypeId} {ys : List Int} {k n : Nat} (h : FillingI w B T ys k n) (hb : Below w.heap.size w w') : FillingI w' B T ys k n := by
  unfold FillingI; rw [hb.block B h.lt]; exact h
theorem FillingI.start (w : World) (T : TypeId) (ys : List Int) (n : Nat) : FillingI (w.alloc (.cells (Array.replicate n (.int .i64 0)) T)) w.heap.size T ys 0 n := by
  unfold FillingI; rw [heap_alloc_new, filli_zero]
theorem FillingI.cell {w : World} {B : Nat} {T : TypeId} {ys : List Int} {k n : Nat} (h : FillingI w B T ys k n) (hk : k < n) (hn : ys.length = n) : ∃ v, w.cell? ⟨B, k, none⟩ = some v := by
  obtain ⟨v, hv⟩ := filli_at ys k n k (by omega) hk hn
  exact ⟨v, by rw [cell_of_row w B k _ _ _ h]; exact hv⟩
theorem FillingI.free {w : World} {B : Nat} {T : TypeId} {ys : List Int} {k n : Nat} (h : FillingI w B T ys k n) (j : Nat) : w.frozen? ⟨B, j, none⟩ = false := frozen_of_row w B j _ _ h
theorem FillingI.step {w : World} {B : Nat} {T : TypeId} {ys : List Int} {k n : Nat} (h : FillingI w B T ys k n) (hk : k < n) (hn : ys.length = n) {y : Int} (hy : ys.getD k 0 = y) : FillingI (w.setCell ⟨B, k, none⟩ (.int .i64 y)) B T ys (k + 1) n := by
  unfold FillingI
  rw [heap_setCell_same w B k _ T _ h, ← hy, filli_step ys k n hk hn]
theorem FillingI.done {w : World} {B : Nat} {T : TypeId} {ys : List Int} {n : Nat} (h : FillingI w B T ys n n) (hn : ys.length = n) : RowAtI w B T ys := by
  unfold FillingI at h; unfold RowAtI; rw [h, filli_full ys n hn]


end Go.Proofs.YtbhnlfgccldmaaaGreat
/- Reference 13's List, Depth and Much: all nodes of a tree in one row. -/
namespace Go.Proofs.YtbhnlfgccldmaaaGreat
open Go.ChangeShapes Go.WideShapes Go.ChangeAt Go.RowKit
set_option linter.unusedVariables false
/-- A node: its two numbers and its kids. -/
structure Nd where
  k : Int
  n : Int
  ks : Fo
/-- All nodes of a row of trees, a node ahead of those below it. -/
def Fo.pre : Fo → List Nd
  | .nil => []
  | .cons k n ks r => ⟨k, n, ks⟩ :: (ks.pre ++ r.pre)
theorem Fo.pre_len : ∀ f : Fo, f.pre.length = f.cnt
  | .nil => rfl
  | .cons _ _ ks r => by simp [Fo.pre, Fo.cnt, Fo.pre_len ks, Fo.pre_len r]
theorem Fo.pre_wf : ∀ (f : Fo), f.wf → ∀ x ∈ f.pre, (-9223372036854775808 ≤ x.k ∧ x.k ≤ 9223372036854775807) ∧ (-9223372036854775808 ≤ x.n ∧ x.n ≤ 9223372036854775807) ∧ x.ks.wf
  | .nil, _, x, h => by simp [Fo.pre] at h
  | .cons k n ks r, hw, x, h => by
    simp only [Fo.pre, List.mem_cons, List.mem_append] at h
    rcases h with rfl | h | h
    · exact ⟨hw.1, hw.2.1, hw.2.2.1⟩
    · exact Fo.pre_wf ks hw.2.2.1 x h
    · exact Fo.pre_wf r hw.2.2.2 x h
theorem Fo.pre_cnt : ∀ (f : Fo), ∀ x ∈ f.pre, x.ks.cnt < f.cnt
  | .nil, x, h => by simp [Fo.pre] at h
  | .cons k n ks r, x, h => by
    simp only [Fo.pre, List.mem_cons, List.mem_append] at h
    simp only [Fo.cnt]
    rcases h with rfl | h | h
    · show ks.cnt < _; omega
    · have := Fo.pre_cnt ks x h; omega
    · have := Fo.pre_cnt r x h; omega
/-- Cells that hold these nodes, three to a node. -/
def Nods (w : World) (lim : Nat) : List Value → List Nd → Prop
  | xs, [] => xs = []
  | xs, d :: l => ∃ v ys, xs = .int .i64 d.k :: .int .i64 d.n :: v :: ys ∧ Kids w lim v d.ks ∧ Nods w lim ys l
theorem Nods.len : ∀ {w : World} {lim : Nat} {xs : List Value} {l : List Nd}, Nods w lim xs l → xs.length = l.length * 3
  | _, _, _, [], h => by rw [show _ = [] from h]; rfl
  | _, _, _, d :: l, ⟨v, ys, e, _, h⟩ => by rw [e]; simp [Nods.len h]; omega
theorem Nods.append : ∀ {w : World} {lim : Nat} {xs ys : List Value} {l m : List Nd}, Nods w lim xs l → Nods w lim ys m → Nods w lim (xs ++ ys) (l ++ m)
  | _, _, _, _, [], _, h, h2 => by rw [show _ = [] from h]; exact h2
  | _, _, _, _, d :: l, m, ⟨v, zs, e, hk, h⟩, h2 => by rw [e]; exact ⟨v, _, rfl, hk, Nods.append h h2⟩
theorem Nods.carry : ∀ {w w' : World} {lim : Nat} {xs : List Value} {l : List Nd}, Nods w lim xs l → Below lim w w' → Nods w' lim xs l
  | _, _, _, _, [], h, _ => h
  | _, _, _, _, d :: l, ⟨v, ys, e, hk, h⟩, hb => ⟨v, ys, e, hk.carry hb, h.carry hb⟩
theorem Nods.mono : ∀ {w : World} {lim lim' : Nat} {xs : List Value} {l : List Nd}, Nods w lim xs l → lim ≤ lim' → Nods w lim' xs l
  | _, _, _, _, [], h, _ => h
  | _, _, _, _, d :: l, ⟨v, ys, e, hk, h⟩, hb => ⟨v, ys, e, hk.mono hb, h.mono hb⟩
theorem Nods.get : ∀ {w : World} {lim : Nat} {xs : List Value} {l : List Nd} (_ : Nods w lim xs l) (i : Nat) (hi : i < l.length),
    ∃ v, xs[i * 3]? = some (.int .i64 l[i].k) ∧ xs[i * 3 + 1]? = some (.int .i64 l[i].n) ∧ xs[i * 3 + 2]? = some v ∧ Kids w lim v l[i].ks
  | _, _, _, [], _, i, hi => by simp at hi
  | _, _, _, d :: l, ⟨v, ys, e, hk, h⟩, 0, _ => by rw [e]; exact ⟨v, rfl, rfl, rfl, hk⟩
  | _, _, _, d :: l, ⟨v, ys, e, hk, h⟩, i + 1, hi => by
    obtain ⟨u, a, b, c, g⟩ := h.get i (by simpa using hi)
    rw [e, show (i + 1) * 3 = i * 3 + 1 + 1 + 1 by omega]
    exact ⟨u, by simpa using a, by simpa using b, by simpa using c, by simpa using g⟩
/-- A row of nodes of the call's own. -/
def OwnD (w : World) (B lim : Nat) (v : Value) (l : List Nd) : Prop := ∃ xs, w.ownsRow B 24 3 v l.length xs ∧ Nods w lim xs l
theorem OwnD.below {w w' : World} {B lim : Nat} {v : Value} {l : List Nd} (h : OwnD w B lim v l) (hl : lim ≤ w.heap.size) (hb : Below w.heap.size w w') : OwnD w' B lim v l := by
  obtain ⟨xs, h1, h2⟩ := h
  refine ⟨xs, World.ownsRow.kept h1 (row := none) ⟨hb.os, hb.tape, hb.output, hb.size, fun i hi _ => hb.block i hi⟩ (by
    by_cases hn : v.ownBlock = none
    · exact .inl hn
    · exact .inr hn), h2.carry (hb.mono hl)⟩
theorem OwnD.nil (w : World) (B lim : Nat) : OwnD w B lim (.slice none 0 0) [] := ⟨[], World.ownsRow_nil w B 24 3, rfl⟩
theorem OwnD.shape {w : World} {B lim : Nat} {v : Value} {l : List Nd} (h : OwnD w B lim v l) : ∃ a c, v = .slice a l.length c ∧ l.length ≤ c ∧ c ≤ maxLen ∧ ∀ i (hi : i < l.length), ∃ g u, a = some ⟨g, 0, none⟩ ∧ g < w.heap.size ∧ B ≤ g ∧ w.cell? ⟨g, i * 3, none⟩ = some (.int .i64 l[i].k) ∧ w.cell? ⟨g, i * 3 + 1, none⟩ = some (.int .i64 l[i].n) ∧ w.cell? ⟨g, i * 3 + 2, none⟩ = some u ∧ Kids w lim u l[i].ks := by
  obtain ⟨xs, ⟨hl, h1⟩, h2⟩ := h
  rcases h1 with ⟨rfl, hn⟩ | ⟨g, cap, cur, rfl, hb, hh, hn, hm, hs, ht⟩
  · refine ⟨none, 0, by rw [hn], by omega, by unfold maxLen; omega, fun i hi => by omega⟩
  · refine ⟨_, cap, rfl, hn, hm, fun i hi => ?_⟩
    have hg : g < w.heap.size := Nat.lt_of_not_le fun hn => by rw [Array.getElem?_eq_none hn] at hh; cases hh
    obtain ⟨u, a, b, c, k⟩ := h2.get i hi
    have hx : ∀ j, j < 3 → cur[i * 3 + j]? = xs[i * 3 + j]? := fun j hj => by
      rw [← ht, List.getElem?_take]
      rw [if_pos (by omega)]
      simp
    refine ⟨g, u, rfl, hg, hb, ?_, ?_, ?_, k⟩
    · rw [cell_of_row w g (i * 3) _ _ _ hh, ← a]; exact hx 0 (by omega)
    · rw [cell_of_row w g (i * 3 + 1) _ _ _ hh, ← b]; exact hx 1 (by omega)
    · rw [cell_of_row w g (i * 3 + 2) _ _ _ hh, ← c]; exact hx 2 (by omega)
theorem Nods.one : ∀ {w : World} {lim : Nat} {xs : List Value} {l : List Nd}, Nods w lim xs l → ∀ u ∈ xs, u.oneCell' = true
  | _, _, _, [], h, u, hu => by rw [show _ = [] from h] at hu; cases hu
  | _, _, _, d :: l, ⟨v, ys, e, hk, h⟩, u, hu => by
    obtain ⟨a, c, rfl, _⟩ := hk
    rw [e] at hu
    simp only [List.mem_cons] at hu
    rcases hu with rfl | rfl | rfl | hu
    · rfl
    · rfl
    · rfl
    · exact Nods.one h u hu
theorem OwnD.lies {w : World} {B lim : Nat} {v : Value} {l : List Nd} (h : OwnD w B lim v l) (hp : 0 < l.length) : ∃ g c xs, v = .slice (some ⟨g, 0, none⟩) l.length c ∧ Nods w lim xs l ∧ (∀ j u, xs[j]? = some u → w.cell? ((⟨g, 0, none⟩ : Addr).add j) = some u) ∧ B ≤ g ∧ g < w.heap.size := by
  obtain ⟨xs, h1, h2⟩ := h
  obtain ⟨g, c, rfl, h3, h4⟩ := World.ownsRow.form h1 hp
  exact ⟨g, c, xs, rfl, h2, fun j u hu => World.ownsRow.cells h1 rfl j u hu, h3, h4⟩
theorem OwnD.one (w : World) (lim : Nat) (d : Nd) (v : Value) (hl : lim ≤ w.heap.size) (hk : Kids w lim v d.ks) : OwnD (w.alloc (.cells #[.int .i64 d.k, .int .i64 d.n, v] 24)) w.heap.size lim (.slice (some ⟨w.heap.size, 0, none⟩) 1 1) [d] :=
  ⟨_, World.ownsRow_lit w #[.int .i64 d.k, .int .i64 d.n, v] 1 (Nat.le_refl _) (by unfold maxLen; omega) rfl, v, [], rfl, hk.carry (((Below.refl _ _).alloc (Nat.le_refl _) _).mono hl), rfl⟩
theorem info_desc : (Tryz.prog.info? 24).map (fun i => (i.zero.map (fun z => z.cells.size), i.size, i.bytes)) = some (some 3, 3, 40) := by kernel_rfl
/-- 'append(l, m...)' of nodes onto a row of the call's own. -/
theorem append_nods {ops : Array Oper} {rest : List Oper} {o : Oper} {a : Act} {Q : Exit → Act → World → Prop} {W : World} {B lim : Nat} {v : Value} {l l2 : List Nd} {ad : Addr} {m c : Nat} {news : List Value} (hgd : o.guard = none) (s x : Operand)
    (ho : o.op = .call { callee := .builtin .append, args := #[s, x], argTypes := #[22, 22] }) (hs : a.eval s = v) (hown : OwnD W B lim v l) (hx : a.eval x = .slice (some ad) m c) (hm : l2.length = m) (hn : Nods W lim news l2) (hc : ∀ j u, news[j]? = some u → W.cell? (ad.add j) = some u)
    (hlB : lim ≤ B) (hB : B ≤ W.heap.size) (h0 : 0 < m) (hlen : l.length + m ≤ 1099511627776)
    (h : ∀ v' w', OwnD w' B lim v' (l ++ l2) → Below B W w' → wpList Tryz.prog ops Q rest (a.put o.dst v') w') : wpList Tryz.prog ops Q (o :: rest) a W := by
  obtain ⟨i0, hi⟩ : ∃ i, Tryz.prog.info? 24 = some i := by
    cases h0 : Tryz.prog.info? 24 with
    | none => have := info_desc; rw [h0] at this; cases this
    | some i => exact ⟨i, rfl⟩
  have h1 := info_desc
  rw [hi] at h1
  simp only [Option.map_some, Option.some.injEq, Prod.mk.injEq] at h1
  obtain ⟨hz, hsz, hby⟩ := h1
  obtain ⟨z, hz1, hz2⟩ : ∃ z, i0.zero = some z ∧ z.cells.size = 3 := by
    cases h0 : i0.zero with
    | none => rw [h0] at hz; cases hz
    | some z => rw [h0] at hz; simp at hz; exact ⟨z, rfl, hz⟩
  obtain ⟨xs, ho1, ho2⟩ := hown
  refine wpList_append_lies _ hgd s x 22 ho B 24 i0 z 3 40 Tryz.underlying22 hi hz1 hsz hby hz2 (by decide) v l.length xs hs ho1 ad m c news hx (by rw [hn.len, hm]) hc hn.one h0 (by unfold maxLen; omega) (by omega) hB _ rfl ?_
  intro g cap w' h2 h3 _ _
  have hb : Below B W w' := (Below.refl _ _).grown h3 hB (fun i hi => (World.ownsRow.lt ho1 i hi).1)
  exact h _ w' ⟨_, by rw [List.length_append, hm]; exact h2, (ho2.append hn).carry (hb.mono hlB)⟩ hb
/-- The trees of a row, as far as the i-th. -/
def Fo.preTo : Fo → Nat → List Nd
  | _, 0 => []
  | .nil, _ + 1 => []
  | .cons k n ks r, i + 1 => ⟨k, n, ks⟩ :: (ks.pre ++ r.preTo i)
theorem Fo.preTo_zero (f : Fo) : f.preTo 0 = [] := by cases f <;> rfl
theorem Fo.preTo_snoc : ∀ (f : Fo) (i : Nat), i < f.len → f.preTo (i + 1) = f.preTo i ++ (⟨f.k i, f.n i, f.kids i⟩ :: (f.kids i).pre)
  | .nil, _, h => by simp [Fo.len] at h
  | .cons k n ks r, 0, _ => by simp [Fo.preTo, Fo.preTo_zero, Fo.k, Fo.n, Fo.kids]
  | .cons k n ks r, i + 1, h => by
    have := Fo.preTo_snoc r i (by simp [Fo.len] at h; omega)
    rw [Fo.preTo, this]
    simp [Fo.preTo, Fo.k, Fo.n, Fo.kids]
theorem Fo.preTo_all : ∀ (f : Fo), f.preTo f.len = f.pre
  | .nil => rfl
  | .cons k n ks r => by simp [Fo.len, Fo.preTo, Fo.pre, Fo.preTo_all r]
theorem Fo.preTo_len : ∀ (f : Fo) (i : Nat), (f.preTo i).length ≤ f.cnt
  | _, 0 => by simp [Fo.preTo]
  | .nil, i + 1 => by simp [Fo.preTo]
  | .cons k n ks r, i + 1 => by have := Fo.preTo_len r i; simp [Fo.preTo, Fo.cnt, Fo.pre_len]; omega
set_option maxRecDepth 100000 in
set_option maxHeartbeats 2000000 in
theorem r13_list (N : Nat) : ∀ (ks : Fo) (v : Value) (k n : Int) (lim : Nat) (W : World), ks.cnt ≤ N → N ≤ 1048576 → Kids W lim v ks → lim ≤ W.heap.size →
    Calls Tryz.prog 47 #[.agg #[.int .i64 k, .int .i64 n, v]] W fun e w' => ∃ v', e = .returned v' ∧ OwnD w' W.heap.size lim v' (⟨k, n, ks⟩ :: ks.pre) ∧ Below W.heap.size W w' := by
  induction N using Nat.strongRecOn with
  | _ N ih =>
  intro ks v k n lim W hN hN2 hK hl
  obtain ⟨p, m, c, rfl, hc1, hc2, HM⟩ := hK.shape
  obtain ⟨w0, hw0, c0, c1, c2, hB, hsz⟩ := box3 W k n (.slice p m c) 24
  have hK0 := hK.below hl hB
  have HO := Lib.hid (OwnD.one w0 lim ⟨k, n, ks⟩ (.slice p m c) (by omega) hK0)
  have x0 : W.heap.size < w0.heap.size := by omega
  obtain ⟨w1, hw1, _, _, _, hB1, hs1⟩ := box3 w0 k n (.slice p m c) 24
  have IH := Lib.hid ih
  have HM2 := HM.out
  have hmN := Fo.len_cnt ks
  have PS := Lib.hid (fun i (hi : i < m) => Fo.preTo_snoc ks i (by rw [← HM.out]; exact hi))
  have PA := Lib.hid (show ks.preTo m = ks.pre by rw [HM.out]; exact Fo.preTo_all ks)
  have PL := Lib.hid (fun i => Nat.le_trans (Fo.preTo_len ks i) hN)
  have PC := Lib.hid (fun i (hi : i < m) => (show (ks.kids i).cnt < N from Nat.lt_of_lt_of_le (Fo.cnt_kids ks i (by rw [← HM.out]; exact hi)) hN))
  have hm3 : m ≤ 1048576 := by omega
  clear ih HM HM2 hmN
  rw [← hw1] at HO
  have HB0 := Lib.hid hB1
  rw [hw0] at hw1
  rw [hsz] at HO
  go_enter Tryz.func47, Tryz.ntmps47
  go_wp2_with fail
  rw [← hw1]
  clear hw1
  go_loopw [3, 4] (fun x y wr => ∃ i : Nat, i ≤ m ∧ y = .int .i64 i ∧ Hid (OwnD wr w0.heap.size lim x (⟨k, n, ks⟩ :: ks.preTo i)) ∧ Hid (Below w0.heap.size w0 wr)) (fun _ y _ => m - (intOf y).toNat)
  case atStart => exact ⟨0, Nat.zero_le _, rfl, Lib.hid (by rw [hsz, Fo.preTo_zero]; exact HO.out), HB0⟩
  case round =>
    clear HO HB0 hB1 hs1
    obtain ⟨i, hi, rfl, HO, HB⟩ := hrel
    have hs := HB.out.size
    have k2 := (HB.out.cell (p := ⟨W.heap.size, 2, none⟩) x0).trans c2
    by_cases hlt : i < m
    · obtain ⟨b, o, v, rfl, hb, g0, g1, g2, hKi⟩ := (hK0.below (by omega) HB.out).get hlt
      obtain ⟨a', m', c', rfl, _, _, _⟩ := hKi.shape
      have dd : decide ((i : Int) < (m : Int)) = true := decide_eq_true (by omega)
      have CI := Lib.hid (IH.out _ (PC.out i hlt) (ks.kids i) _ (ks.k i) (ks.n i) lim wr (Nat.le_refl _) (by have := PC.out i hlt; omega) hKi (by omega))
      obtain ⟨u, c1', rfl, _⟩ := HO.out.shape
      have PS1 := Lib.hid (PS.out i hlt)
      have PL1 := PL.out (i + 1)
      rw [PS1.out] at PL1
      simp only [List.length_append, List.length_cons] at PL1
      generalize hL1 : ks.preTo i = L1 at *
      generalize hL2 : (ks.kids i).pre = L2 at *
      clear hKi c0 c1 c2
      go_wp2_with fail
      refine CI.out.mono ?_
      rintro e w4 ⟨v4, rfl, hO4, b4⟩
      obtain ⟨g, c4, xs, rfl, hn4, hc4, _, _⟩ := hO4.lies (by simp)
      have HO4 := Lib.hid (HO.out.below (by omega) b4)
      have hs4 := b4.size
      have HB4 := Lib.hid (HB.out.trans (b4.mono hs))
      clear hO4
      trace_state
      go_wp2_with (at_builtin; refine append_nods rfl _ _ rfl rfl HO4.out rfl rfl hn4 hc4 (by omega) (by omega) (by simp) (by simp; omega) ?_; intro v' w' hO' hb')
      go_roundw
      case rel => exact ⟨i + 1, by omega, by go_num, Lib.hid (by rw [PS1.out]; exact hO'), Lib.hid (HB4.out.trans hb')⟩
      case measure => (first | (simp [intOf]; done) | (simp [intOf]; omega) | (simp only [intOf]; omega))
    · obtain rfl : i = m := by omega
      have dd : decide ((i : Int) < (i : Int)) = false := decide_eq_false (by omega)
      go_wp2_with fail
      go_ret
      exact ⟨_, rfl, by rw [← PA.out]; obtain ⟨xs, h1, h2⟩ := HO.out; exact ⟨xs, World.ownsRow.mono h1 (by omega), h2⟩, hB.trans (HB.out.mono hB.size)⟩
end Go.Proofs.YtbhnlfgccldmaaaGreat
/- Package fact: Gcd; the page's example of layer 3. -/
namespace Go.Proofs.YtbhnlfgccldmaaaGreat
open Go.ChangeShapes Go.WideShapes Go.ChangeAt Go.RowKit
set_option linter.unusedVariables false
theorem info_pw : (Tryz.prog.info? 161).map (fun i => (i.zero.map (fun z => z.cells.size), i.size, i.bytes)) = some (some 2, 2, 16) := by kernel_rfl
theorem append_pw {ops : Array Oper} {rest : List Oper} {o : Oper} {a : Act} {Q : Exit → Act → World → Prop} {W : World} {B : Nat} {v : Value} {n : Nat} {xs : List Value} {p q : Int} (hgd : o.guard = none) (s x : Operand)
    (ho : o.op = .call { callee := .builtin .append, args := #[s, x], argTypes := #[157, 157] }) (hs : a.eval s = v) (hown : W.ownsRow B 161 2 v n xs) (hx : a.eval x = .slice (some ⟨W.heap.size, 0, none⟩) 1 1) (hB : B ≤ W.heap.size) (hn : n < 1000)
    (h : ∀ v' w', w'.ownsRow B 161 2 v' (n + 1) (xs ++ [.int .i64 p, .int .i64 q]) → Below B W w' → wpList Tryz.prog ops Q rest (a.put o.dst v') w') : wpList Tryz.prog ops Q (o :: rest) a (W.alloc (.cells #[.int .i64 p, .int .i64 q] 161)) := by
  obtain ⟨i0, hi⟩ : ∃ i, Tryz.prog.info? 161 = some i := by
    cases h0 : Tryz.prog.info? 161 with
    | none => have := info_pw; rw [h0] at this; cases this
    | some i => exact ⟨i, rfl⟩
  have h1 := info_pw
  rw [hi] at h1
  simp only [Option.map_some, Option.some.injEq, Prod.mk.injEq] at h1
  obtain ⟨hz, hsz, hby⟩ := h1
  obtain ⟨z, hz1, hz2⟩ : ∃ z, i0.zero = some z ∧ z.cells.size = 2 := by
    cases h0 : i0.zero with
    | none => rw [h0] at hz; cases hz
    | some z => rw [h0] at hz; simp at hz; exact ⟨z, rfl, hz⟩
  refine wpList_append_lies _ hgd s x 157 ho B 161 i0 z 2 16 Tryz.underlying157 hi hz1 hsz hby hz2 (by decide) v n xs hs (World.ownsRow.alloc hown _) ⟨W.heap.size, 0, none⟩ 1 1 [.int .i64 p, .int .i64 q] hx rfl ?_ ?_ (by decide) ?_ ?_ (by simp; omega) _ rfl ?_
  · intro j u hj
    have := World.news_of_block (heap_alloc_new W (.cells #[.int .i64 p, .int .i64 q] 161)) j u hj
    exact this
  · intro u hu
    simp at hu
    rcases hu with rfl | rfl <;> rfl
  · unfold maxLen; omega
  · omega
  · intro g cap w' h2 h3 _ _
    exact h _ w' h2 (((Below.refl _ _).alloc hB _).grown h3 (by simp; omega) (fun i hi => (World.ownsRow.lt hown i hi).1))
/-- The greatest common divisor; 0, if one is below 0. -/
def gcdz (a b : Int) : Int := if a < 0 ∨ b < 0 then 0 else ((Nat.gcd a.toNat b.toNat : Nat) : Int)
theorem gcdz_neg (a b : Int) (h : a < 0 ∨ b < 0) : gcdz a b = 0 := if_pos h
theorem gcdz_nat (a b : Nat) : gcdz a b = ((Nat.gcd a b : Nat) : Int) := by
  unfold gcdz
  rw [if_neg (by omega)]
  simp
theorem fact_gcd (a b : Int) (w : World) (a1 : a ≤ 9223372036854775807) (b1 : b ≤ 9223372036854775807) :
    Calls Tryz.prog 186 #[.int .i64 a, .int .i64 b] w fun e w' => e = .returned (.int .i64 (gcdz a b)) ∧ Below w.heap.size w w' := by
  have hB := Below.refl w.heap.size w
  by_cases h : a < 0 ∨ b < 0
  · rw [gcdz_neg a b h]
    by_cases ha : a < 0
    · have d1 : decide (a < 0) = true := decide_eq_true ha
      go_enter Tryz.func186, Tryz.ntmps186
      go_wp2
      go_ret
      exact ⟨rfl, hB⟩
    · have d1 : decide (a < 0) = false := decide_eq_false ha
      have d2 : decide (b < 0) = true := decide_eq_true (by omega)
      go_enter Tryz.func186, Tryz.ntmps186
      go_wp2
      go_ret
      exact ⟨rfl, hB⟩
  · obtain ⟨x, rfl⟩ : ∃ x : Nat, a = x := ⟨a.toNat, by omega⟩
    obtain ⟨y, rfl⟩ : ∃ y : Nat, b = y := ⟨b.toNat, by omega⟩
    rw [gcdz_nat]
    have d1 : decide ((x : Int) < 0) = false := decide_eq_false (by omega)
    have d2 : decide ((y : Int) < 0) = false := decide_eq_false (by omega)
    clear h
    go_enter Tryz.func186, Tryz.ntmps186
    go_wp2
    go_loopw [0, 1] (fun s t wr => ∃ u v : Nat, s = .int .i64 u ∧ t = .int .i64 v ∧ u ≤ 9223372036854775807 ∧ v ≤ 9223372036854775807 ∧ Hid (Nat.gcd u v = Nat.gcd x y) ∧ Below w.heap.size w wr) (fun _ t _ => (intOf t).toNat)
    case atStart => exact ⟨x, y, rfl, rfl, by omega, by omega, Lib.hid rfl, hB⟩
    case round =>
      clear hB
      obtain ⟨u, v, rfl, rfl, hu, hv, HG, hB⟩ := hrel
      by_cases v0 : v = 0
      · subst v0
        have HE := Lib.hid (show Nat.gcd x y = u by rw [← HG.out]; simp)
        go_wp2
        go_ret
        exact ⟨by rw [HE.out]; rfl, hB⟩
      · have hz : ((v : Int) == 0) = false := by simp; omega
        have hz2 : ((v : Int) != 0) = true := by simp; omega
        have hmod : ((u : Int)).tmod (v : Int) = ((u % v : Nat) : Int) := by
          rw [Int.tmod_eq_emod_of_nonneg (by omega)]; omega
        have hmod' : ((u : Int)) % (v : Int) = ((u % v : Nat) : Int) := by omega
        have hlt : u % v < v := Nat.mod_lt _ (by omega)
        have HG2 := Lib.hid (show Nat.gcd v (u % v) = Nat.gcd x y by rw [← HG.out, Nat.gcd_comm u v, Nat.gcd_rec v u, Nat.gcd_comm])
        generalize u % v = m at *
        go_wp2_with fail
        go_quiet (fail)
        go_wp2_with fail
        go_roundw
        case rel => exact ⟨v, m, rfl, rfl, by omega, by omega, HG2, below_drewN hB _⟩
        case measure => (first | (simp [intOf]; done) | (simp [intOf]; omega) | (simp only [intOf]; omega))
end Go.Proofs.YtbhnlfgccldmaaaGreat
/- The greatest common divisor, without new memory. -/
namespace Go.Proofs.YtbhnlfgccldmaaaGreat
open Go.ChangeShapes Go.WideShapes Go.ChangeAt Go.RowKit
set_option linter.unusedVariables false
theorem fact_gcdq (a b : Int) (w : World) (a1 : a ≤ 9223372036854775807) (b1 : b ≤ 9223372036854775807) :
    Calls Tryz.prog 186 #[.int .i64 a, .int .i64 b] w fun e w' => e = .returned (.int .i64 (gcdz a b)) ∧ ∃ q, w' = w.drewN q := by
  have hB : ∃ q, w = w.drewN q := ⟨0, rfl⟩
  by_cases h : a < 0 ∨ b < 0
  · rw [gcdz_neg a b h]
    by_cases ha : a < 0
    · have d1 : decide (a < 0) = true := decide_eq_true ha
      go_enter Tryz.func186, Tryz.ntmps186
      go_wp2
      go_ret
      exact ⟨rfl, hB⟩
    · have d1 : decide (a < 0) = false := decide_eq_false ha
      have d2 : decide (b < 0) = true := decide_eq_true (by omega)
      go_enter Tryz.func186, Tryz.ntmps186
      go_wp2
      go_ret
      exact ⟨rfl, hB⟩
  · obtain ⟨x, rfl⟩ : ∃ x : Nat, a = x := ⟨a.toNat, by omega⟩
    obtain ⟨y, rfl⟩ : ∃ y : Nat, b = y := ⟨b.toNat, by omega⟩
    rw [gcdz_nat]
    have d1 : decide ((x : Int) < 0) = false := decide_eq_false (by omega)
    have d2 : decide ((y : Int) < 0) = false := decide_eq_false (by omega)
    clear h
    go_enter Tryz.func186, Tryz.ntmps186
    go_wp2
    go_loopw [0, 1] (fun s t wr => ∃ u v : Nat, s = .int .i64 u ∧ t = .int .i64 v ∧ u ≤ 9223372036854775807 ∧ v ≤ 9223372036854775807 ∧ Hid (Nat.gcd u v = Nat.gcd x y) ∧ ∃ q, wr = w.drewN q) (fun _ t _ => (intOf t).toNat)
    case atStart => exact ⟨x, y, rfl, rfl, by omega, by omega, Lib.hid rfl, hB⟩
    case round =>
      clear hB
      obtain ⟨u, v, rfl, rfl, hu, hv, HG, q0, rfl⟩ := hrel
      by_cases v0 : v = 0
      · subst v0
        have HE := Lib.hid (show Nat.gcd x y = u by rw [← HG.out]; simp)
        go_wp2
        go_ret
        exact ⟨by rw [HE.out]; rfl, _, rfl⟩
      · have hz : ((v : Int) == 0) = false := by simp; omega
        have hz2 : ((v : Int) != 0) = true := by simp; omega
        have hmod : ((u : Int)).tmod (v : Int) = ((u % v : Nat) : Int) := by
          rw [Int.tmod_eq_emod_of_nonneg (by omega)]; omega
        have hmod' : ((u : Int)) % (v : Int) = ((u % v : Nat) : Int) := by omega
        have hlt : u % v < v := Nat.mod_lt _ (by omega)
        have HG2 := Lib.hid (show Nat.gcd v (u % v) = Nat.gcd x y by rw [← HG.out, Nat.gcd_comm u v, Nat.gcd_rec v u, Nat.gcd_comm])
        generalize u % v = m at *
        go_wp2_with fail
        go_quiet (fail)
        go_wp2_with fail
        go_roundw
        case rel => exact ⟨v, m, rfl, rfl, by omega, by omega, HG2, _, by first | rfl | exact World.drewN_drewN _ _ _ | go_simp⟩
        case measure => (first | (simp [intOf]; done) | (simp [intOf]; omega) | (simp only [intOf]; omega))
theorem r3_gcdnq (n : Nat) : ∀ (a b : Nat) (w : World), a + b ≤ n → a ≤ 9223372036854775807 → b ≤ 9223372036854775807 →
    Calls Tryz.prog 137 #[.int .i64 a, .int .i64 b] w fun e w' => e = .returned (.int .i64 ((Nat.gcd a b : Nat) : Int)) ∧ w = w' := by
  induction n using Nat.strongRecOn with
  | _ n ih =>
    intro a b w hn ha hb
    have d1 : decide ((a : Int) < 0) = false := decide_eq_false (by omega)
    have d2 : decide ((b : Int) < 0) = false := decide_eq_false (by omega)
    by_cases a0 : a = 0
    · subst a0
      have HE := Lib.hid (show Nat.gcd 0 b = b by simp)
      go_enter Tryz.func137, Tryz.ntmps137
      go_wp2
      go_ret
      exact ⟨by rw [HE.out]; rfl, rfl⟩
    have e1 : ((a : Int) == 0) = false := by simp; omega
    by_cases b0 : b = 0
    · subst b0
      have HE := Lib.hid (show Nat.gcd a 0 = a by simp)
      go_enter Tryz.func137, Tryz.ntmps137
      go_wp2
      go_ret
      exact ⟨by rw [HE.out]; rfl, rfl⟩
    have e2 : ((b : Int) == 0) = false := by simp; omega
    by_cases hlt : a < b
    · have d3 : decide ((a : Int) < (b : Int)) = true := decide_eq_true (by omega)
      have hm : b % a < a := Nat.mod_lt _ (by omega)
      have IH := Lib.hid (fun w => ih (b % a + a) (by omega) (b % a) a w (by omega) (by omega) ha)
      have HE := Lib.hid (show Nat.gcd (b % a) a = Nat.gcd a b from (Nat.gcd_rec a b).symm)
      have hmod : ((b : Int)).tmod (a : Int) = ((b % a : Nat) : Int) := by
        rw [Int.tmod_eq_emod_of_nonneg (by omega)]; omega
      have hmod' : ((b : Int)) % (a : Int) = ((b % a : Nat) : Int) := by omega
      clear ih
      generalize b % a = m at *
      go_enter Tryz.func137, Tryz.ntmps137
      go_wp2_with fail
      refine (IH.out _).mono ?_
      rintro e w1 ⟨rfl, rfl⟩
      go_wp2_with fail
      go_ret
      exact ⟨by rw [HE.out]; rfl, rfl⟩
    · have d3 : decide ((a : Int) < (b : Int)) = false := decide_eq_false (by omega)
      have hm : a % b < b := Nat.mod_lt _ (by omega)
      have IH := Lib.hid (fun w => ih (a % b + b) (by omega) (a % b) b w (by omega) (by omega) hb)
      have HE := Lib.hid (show Nat.gcd (a % b) b = Nat.gcd a b by rw [← Nat.gcd_rec b a, Nat.gcd_comm])
      have hmod : ((a : Int)).tmod (b : Int) = ((a % b : Nat) : Int) := by
        rw [Int.tmod_eq_emod_of_nonneg (by omega)]; omega
      have hmod' : ((a : Int)) % (b : Int) = ((a % b : Nat) : Int) := by omega
      clear ih
      generalize a % b = m at *
      go_enter Tryz.func137, Tryz.ntmps137
      go_wp2_with fail
      refine (IH.out _).mono ?_
      rintro e w1 ⟨rfl, rfl⟩
      go_wp2_with fail
      go_ret
      exact ⟨by rw [HE.out]; rfl, rfl⟩
theorem r3_gcdq (a b : Int) (w : World) (a1 : a ≤ 9223372036854775807) (b1 : b ≤ 9223372036854775807) :
    Calls Tryz.prog 137 #[.int .i64 a, .int .i64 b] w fun e w' => e = .returned (.int .i64 (gcdz a b)) ∧ w = w' := by
  by_cases h : a < 0 ∨ b < 0
  · rw [gcdz_neg a b h]
    by_cases ha : a < 0
    · have d1 : decide (a < 0) = true := decide_eq_true ha
      go_enter Tryz.func137, Tryz.ntmps137
      go_wp2
      go_ret
      exact ⟨rfl, rfl⟩
    · have d1 : decide (a < 0) = false := decide_eq_false ha
      have d2 : decide (b < 0) = true := decide_eq_true (by omega)
      go_enter Tryz.func137, Tryz.ntmps137
      go_wp2
      go_ret
      exact ⟨rfl, rfl⟩
  · obtain ⟨x, rfl⟩ : ∃ x : Nat, a = x := ⟨a.toNat, by omega⟩
    obtain ⟨y, rfl⟩ : ∃ y : Nat, b = y := ⟨b.toNat, by omega⟩
    rw [gcdz_nat]
    exact r3_gcdnq (x + y) x y w (by omega) (by omega) (by omega)
end Go.Proofs.YtbhnlfgccldmaaaGreat
/- Powers modulo P, reckoned by squares; the powers of 7 that matter. Plain numbers. -/
namespace Go.Proofs.YtbhnlfgccldmaaaGreat.Fld

/-- b to the e modulo P, e below 2^f. -/
def pm (P : Nat) : Nat → Nat → Nat → Nat
  | 0, _, _ => 1 % P
  | f + 1, b, e => if e % 2 = 1 then pm P f (b * b % P) (e / 2) * b % P else pm P f (b * b % P) (e / 2)
theorem pm_eq (P : Nat) : ∀ (f b e : Nat), e < 2 ^ f → pm P f b e = b ^ e % P
  | 0, b, e, h => by
    have : e = 0 := by simp at h; exact h
    subst this; simp [pm]
  | f + 1, b, e, h => by
    have hh : e / 2 < 2 ^ f := by rw [Nat.pow_succ] at h; omega
    have ih := pm_eq P f (b * b % P) (e / 2) hh
    have e2 : (b * b % P) ^ (e / 2) % P = b ^ (2 * (e / 2)) % P := by
      rw [← Nat.pow_mod, ← Nat.pow_two, ← Nat.pow_mul]
    unfold pm
    rw [ih, e2]
    split
    · rename_i ho
      have he : 2 * (e / 2) + 1 = e := by omega
      have := Nat.pow_succ (n := b) (m := 2 * (e / 2))
      rw [Nat.succ_eq_add_one, he] at this
      rw [this, Nat.mod_mul_mod]
    · have he : 2 * (e / 2) = e := by omega
      rw [he]

theorem fm_natpow (b e v : Nat) (f : Nat) (h : e < 2 ^ f) (hv : pm Pn f b e = v) : fm ((b : Int) ^ e) = (v : Int) := by
  rw [← Int.natCast_pow, fm_cast, ← pm_eq Pn f b e h, hv]

end Go.Proofs.YtbhnlfgccldmaaaGreat.Fld
