/- Put together by program (merge.py): Vecc But Copy. -/
import Derived.Lib.SlBuf
import Derived.Test.YtcfmiflhhjoofaaM9
import Derived.Test.YtcfmiflhhjoofaaM10
/- Layer 5's calls, as the laws meet them: every answer is a slice that reads as a list. -/
namespace Go.Proofs.Ytcfmiflhhjoofaa
open Go.ChangeShapes Go.WideShapes Go.ChangeAt Go.RowKit
set_option linter.unusedVariables false

theorem scl_one (xs : List Int) : scl 1 xs = redl xs := by unfold scl redl; simp
theorem redl_wf (xs : List Int) : ∀ z ∈ redl xs, (Lit.int .u64 z).wf = true := by rw [← scl_one]; exact scl_wf 1 xs

/-- What a slice of words is, for a callee: what it reads as, that each is in order, how many. -/
structure Row (w : World) (a : Option Addr) (n : Nat) (xs : List Int) : Prop where
  len : xs.length = n
  reads : Reads .u64 w a xs
  wf : ∀ x ∈ xs, (Lit.int .u64 x).wf = true
  small : n ≤ 17592186044415
theorem Row.below {w w' : World} {a : Option Addr} {n : Nat} {xs : List Int} (h : Row w a n xs) (hb : Below w.heap.size w w') : Row w' a n xs := ⟨h.len, h.reads.below hb, h.wf, h.small⟩
theorem Row.alloc {w : World} {a : Option Addr} {n : Nat} {xs : List Int} (h : Row w a n xs) (o : Obj) : Row (w.alloc o) a n xs := ⟨h.len, h.reads.alloc o, h.wf, h.small⟩
theorem Row.drew {w : World} {a : Option Addr} {n : Nat} {xs : List Int} (h : Row w a n xs) : Row w.drew a n xs := h.below (Below.refl _ _).drew
theorem Row.cell {w : World} {a : Option Addr} {n : Nat} {xs : List Int} (h : Row w a n xs) {k : Nat} (hk : k < n) : ∃ b off, a = some ⟨b, off, none⟩ ∧ b < w.heap.size ∧ w.cell? ⟨b, off + k, none⟩ = some (.int .u64 (xs.getD k 0)) ∧ 0 ≤ xs.getD k 0 ∧ xs.getD k 0 ≤ 18446744073709551615 := by
  rcases h.reads with hn | ⟨b, off, e, hb, hc⟩
  · have := h.len; rw [hn] at this; simp at this; omega
  · exact ⟨b, off, e, hb, hc k (by rw [h.len]; exact hk), words_at h.wf k (by rw [h.len]; exact hk)⟩
theorem Row.of_at {w : World} {B : Nat} {ys : List Int} (h : RowAt w B 43 ys) (hw : ∀ x ∈ ys, (Lit.int .u64 x).wf = true) {n : Nat} (hn : ys.length = n) (hs : n ≤ 17592186044415) : Row w (some ⟨B, 0, none⟩) n ys := ⟨hn, h.reads, hw, hs⟩

/-- The answer is a slice of n words that reads as ys; nothing that was there has turned. -/
def Gives (w : World) (n : Nat) (ys : List Int) (e : Ending) (w' : World) : Prop := ∃ a c, e = .returned (.slice a n c) ∧ Row w' a n ys ∧ Below w.heap.size w w'

theorem gives_at {w w' : World} {n : Nat} {ys : List Int} {e : Ending} (he : e = .returned (.slice (some ⟨w.heap.size, 0, none⟩) n n)) (h : RowAt w' w.heap.size 43 ys) (hb : Below w.heap.size w w') (hw : ∀ x ∈ ys, (Lit.int .u64 x).wf = true) (hn : ys.length = n) (hs : n ≤ 17592186044415) : Gives w n ys e w' :=
  ⟨_, _, he, Row.of_at h hw hn hs, hb⟩
theorem gives_own {w w' : World} {n B : Nat} {ys : List Int} {e : Ending} {v : Value} (he : e = .returned v) (h : Owns w' B 43 .u64 v ys) (hb : Below w.heap.size w w') (hw : ∀ x ∈ ys, (Lit.int .u64 x).wf = true) (hn : ys.length = n) (hs : n ≤ 17592186044415) : Gives w n ys e w' := by
  obtain ⟨a, c, hv, hr, _, _⟩ := h.shape
  exact ⟨a, c, by rw [he, hv, hn], ⟨hn, hr, hw, hs⟩, hb⟩

theorem c_red {w : World} {p : Option Addr} {n c : Nat} {xs : List Int} (h : Row w p n xs) : Calls Try.prog 78 #[.slice p n c] w (Gives w n (redl xs)) := by
  obtain ⟨rfl, hr, hw, hs⟩ := h
  refine (vec_red p c xs w hr hw (by omega)).mono fun e w' ⟨he, hq, hb⟩ => ?_
  rw [scl_one] at hq
  exact gives_at he hq hb (redl_wf xs) (redl_len xs) hs
theorem c_scale {w : World} {p : Option Addr} {n c : Nat} {xs : List Int} {a : Int} (h : Row w p n xs) (a0 : 0 ≤ a) (a1 : a ≤ 18446744073709551615) : Calls Try.prog 85 #[.slice p n c, .int .u64 a] w (Gives w n (scl a xs)) := by
  obtain ⟨rfl, hr, hw, hs⟩ := h
  exact (vec_scale a p c xs w a0 a1 hr hw (by omega)).mono fun e w' ⟨he, hq, hb⟩ => gives_at he hq hb (scl_wf a xs) (scl_len a xs) hs
/-- The answer is such a slice, and no error. -/
def GivesOk (w : World) (n : Nat) (ys : List Int) (e : Ending) (w' : World) : Prop := ∃ a c, e = .returned (.tuple #[.slice a n c, .int .i64 0]) ∧ Row w' a n ys ∧ Below w.heap.size w w'
/-- The same row twice. -/
theorem c_same {w : World} {p q : Option Addr} {n c d : Nat} {xs : List Int} (h : Row w p n xs) (k : Row w q n xs) : Calls Try.prog 10 #[.slice p n c, .slice q n d] w fun e w' => e = .returned (.bool true) ∧ Below w.heap.size w w' := by
  obtain ⟨rfl, hr, hw, hs⟩ := h
  obtain ⟨_, kr, kw, _⟩ := k
  have := r2_same p q c d xs xs w hr kr (by omega)
  rwa [decide_eq_true rfl] at this
theorem c_sameb {w : World} {p q : Option Addr} {n m c d : Nat} {xs ys : List Int} {b : Bool} (h : Row w p n xs) (k : Row w q m ys) (hb : decide (xs = ys) = b) : Calls Try.prog 10 #[.slice p n c, .slice q m d] w fun e w' => e = .returned (.bool b) ∧ Below w.heap.size w w' := by
  obtain ⟨rfl, hr, hw, hs⟩ := h
  obtain ⟨rfl, kr, kw, _⟩ := k
  have := r2_same p q c d xs ys w hr kr (by omega)
  rwa [hb] at this
theorem Row.of_isRow {w : World} {a : Option Addr} {n c : Nat} (h : IsRow .u64 w a n c) (hs : n ≤ 17592186044415) : ∃ xs, Row w a n xs := by
  obtain ⟨xs, hn, _, _, hr, hw⟩ := h
  exact ⟨xs, hn, hr, hw, hs⟩

end Go.Proofs.Ytcfmiflhhjoofaa
/- A row written in place; all the rest as it was. -/
namespace Go.Proofs.Ytcfmiflhhjoofaa
open Go.ChangeShapes Go.WideShapes Go.ChangeAt Go.RowKit
set_option linter.unusedVariables false
/-- What lay in w but for block B is as it was. -/
structure But (w w' : World) (B : Nat) : Prop where
  o : ∀ k, k < w.heap.size → k ≠ B → w'.heap[k]? = w.heap[k]?
  z : w.heap.size ≤ w'.heap.size
  b : ∀ H, H ≤ B → H ≤ w.heap.size → Below H w w'
theorem But.refl (w : World) (B : Nat) : But w w B := ⟨fun _ _ _ => rfl, Nat.le_refl _, fun _ _ _ => Below.refl _ _⟩
theorem But.trans {w w' w'' : World} {B : Nat} (h : But w w' B) (k : But w' w'' B) : But w w'' B :=
  ⟨fun j hj hB => (k.o j (by have := h.z; omega) hB).trans (h.o j hj hB), Nat.le_trans h.z k.z, fun H h1 h2 => (h.b H h1 h2).trans (k.b H h1 (by have := h.z; omega))⟩
theorem But.of_below {w w' : World} (B : Nat) (h : Below w.heap.size w w') : But w w' B := ⟨fun k hk _ => h.block k hk, h.size, fun _ _ h2 => h.mono h2⟩
theorem But.set (w : World) (B j : Nat) (v : Value) : But w (w.setCell ⟨B, j, none⟩ v) B := ⟨fun k _ hB => heap_setCell_other w ⟨B, j, none⟩ k v hB, by simp, fun H h1 _ => (Below.refl _ _).setCell h1 _⟩
theorem But.drew (w : World) (B : Nat) : But w w.drew B := But.of_below B (Below.refl _ _).drew
theorem But.heap {w w' : World} {B k : Nat} (h : But w w' B) (hk : k < w.heap.size) (hB : k ≠ B) : w'.heap[k]? = w.heap[k]? := h.o k hk hB
theorem Reads.but {w w' : World} {B : Nat} {k : IntKind} {a : Option Addr} {xs : List Int} (h : Reads k w a xs) (hb : But w w' B) (hne : ∀ x, a = some x → x.block ≠ B) : Reads k w' a xs := by
  rcases h with h | ⟨b, off, rfl, hlt, hc⟩
  · exact .inl h
  · refine .inr ⟨b, off, rfl, by have := hb.z; omega, fun i hi => ?_⟩
    rw [← hc i hi]
    exact World.cell?_of_block (hb.o b hlt (hne _ rfl))
theorem Row.but {w w' : World} {B : Nat} {a : Option Addr} {n : Nat} {xs : List Int} (h : Row w a n xs) (hb : But w w' B) (hne : ∀ x, a = some x → x.block ≠ B) : Row w' a n xs := ⟨h.len, h.reads.but hb hne, h.wf, h.small⟩
/-- One place written. -/
theorem RowAt.set {w : World} {B : Nat} {T : TypeId} {ys : List Int} (h : RowAt w B T ys) (k : Nat) (y : Int) : RowAt (w.setCell ⟨B, k, none⟩ (.int .u64 y)) B T (ys.set k y) := by
  unfold RowAt
  rw [heap_setCell_same w B k _ T _ h]
  congr 2
  rw [List.setIfInBounds_toArray]
  congr 1
  rw [List.map_set]
theorem RowAt.cell {w : World} {B : Nat} {T : TypeId} {ys : List Int} (h : RowAt w B T ys) {k : Nat} (hk : k < ys.length) : w.cell? ⟨B, k, none⟩ = some (.int .u64 (ys.getD k 0)) := by
  rw [cell_of_row w B k _ _ _ h]
  simp [List.getD, hk]
theorem RowAt.free {w : World} {B : Nat} {T : TypeId} {ys : List Int} (h : RowAt w B T ys) (j : Nat) : w.frozen? ⟨B, j, none⟩ = false := frozen_of_row w B j _ _ h
theorem RowAt.made (w : World) (T : TypeId) (n : Nat) : RowAt (w.alloc (.cells (Array.replicate n (.int .u64 0)) T)) w.heap.size T (List.replicate n 0) := by
  unfold RowAt; rw [heap_alloc_new]; simp
theorem RowAt.drew {w : World} {B : Nat} {T : TypeId} {ys : List Int} (h : RowAt w B T ys) : RowAt w.drew B T ys := h
/-- Block B holds just v. -/
def Bx (w : World) (B : Nat) (T : TypeId) (v : Value) : Prop := w.heap[B]? = some (.cells #[v] T (0, 0))
theorem Bx.cell {w : World} {B : Nat} {T : TypeId} {v : Value} (h : Bx w B T v) : w.cell? ⟨B, 0, none⟩ = some v := by rw [cell_of_row w B 0 _ _ _ h]; rfl
theorem Bx.lt {w : World} {B : Nat} {T : TypeId} {v : Value} (h : Bx w B T v) : B < w.heap.size := block_lt_of_cell h.cell
theorem Bx.but {w w' : World} {B C : Nat} {T : TypeId} {v : Value} (h : Bx w C T v) (hb : But w w' B) (hne : C ≠ B) : Bx w' C T v := (hb.o C h.lt hne).trans h
theorem Bx.new (w : World) (T : TypeId) (v : Value) (o : Obj) (h : o = .cells #[v] T) : Bx (w.alloc o) w.heap.size T v := by subst h; exact heap_alloc_new _ _
theorem Bx.alloc {w : World} {B : Nat} {T : TypeId} {v : Value} (h : Bx w B T v) (o : Obj) : Bx (w.alloc o) B T v := (Below.heap_alloc w o B h.lt).trans h
theorem getD_set_same {xs : List Int} {k : Nat} {y : Int} (h : k < xs.length) : (xs.set k y).getD k 0 = y := by simp [List.getD, h]
theorem getD_set_ne {xs : List Int} {k j : Nat} {y : Int} (h : j ≠ k) : (xs.set k y).getD j 0 = xs.getD j 0 := by
  simp only [List.getD]
  rw [List.getElem?_set_ne (fun e => h e.symm)]
end Go.Proofs.Ytcfmiflhhjoofaa
/- 'copy' into a row of the call's own. -/
namespace Go.Proofs.Ytcfmiflhhjoofaa
open Go.ChangeShapes Go.WideShapes Go.ChangeAt Go.RowKit
set_option linter.unusedVariables false
theorem size_u64 : (Try.prog.info? 43).map (·.size) = some 1 := by kernel_rfl
theorem put_cons (zs : List Int) (o : Nat) (a : Int) (T : List Int) (h : o + T.length + 1 ≤ zs.length) : (zs.set o a).take (o + 1) ++ T ++ (zs.set o a).drop (o + 1 + T.length) = zs.take o ++ (a :: T) ++ zs.drop (o + (a :: T).length) := by
  have e1 : (zs.set o a).take (o + 1) = zs.take o ++ [a] := by
    rw [List.take_succ_eq_append_getElem (by rw [List.length_set]; omega), List.take_set_of_le (Nat.le_refl _)]
    simp
  have e2 : (zs.set o a).drop (o + 1 + T.length) = zs.drop (o + (a :: T).length) := by
    rw [List.drop_set_of_lt (by omega)]
    congr 1
    simp only [List.length_cons]; omega
  rw [e1, e2]
  simp
theorem rowAt_setCells {B : Nat} {T : TypeId} : ∀ (vs : List Int) (o : Nat) (zs : List Int) (w : World), RowAt w B T zs → o + vs.length ≤ zs.length → RowAt (w.setCells B o (vs.map (Value.int .u64))) B T (zs.take o ++ vs ++ zs.drop (o + vs.length))
  | [], o, zs, w, h, _ => by simpa [World.setCells] using h
  | v :: r, o, zs, w, h, hl => by
    simp only [List.length_cons] at hl
    have := rowAt_setCells r (o + 1) (zs.set o v) (w.setCell ⟨B, o, none⟩ (.int .u64 v)) (h.set o v) (by rw [List.length_set]; omega)
    rw [put_cons zs o v r (by omega)] at this
    exact this
theorem but_setCells {B : Nat} : ∀ (vs : List Value) (o : Nat) (w : World), But w (w.setCells B o vs) B
  | [], _, w => But.refl w B
  | v :: r, o, w => (But.set w B o v).trans (but_setCells r (o + 1) _)
theorem run_copy_u64 {w : World} {B m dc n sc : Nat} {p : Option Addr} {xs zs : List Int} (ty : TypeId) (hB : RowAt w B 43 zs) (hm : zs.length = m) (hx : Row w p n xs) (hn : n ≤ m) :
    ∃ w', (Builtin.copy_ #[25, 25] ty #[.slice (some ⟨B, 0, none⟩) m dc, .slice p n sc]).run Try.prog w = .ok (goInt n) w' ∧ RowAt w' B 43 (xs ++ zs.drop n) ∧ But w w' B := by
  have hl := hx.len
  by_cases h0 : n = 0
  · subst h0
    have e := List.length_eq_zero_iff.1 hl
    subst e
    exact ⟨w, run_copy_none w _ _ ty 43 _ _ _ _ _ _ Try.underlying25 size_u64 (by simp), by simpa using hB, But.refl _ _⟩
  · obtain ⟨b, off, rfl, _, _⟩ := hx.cell (k := 0) (by omega)
    have hc : ∀ k, k < n → w.cell? ⟨b, off + k, none⟩ = some (.int .u64 (xs.getD k 0)) := fun k hk => by
      obtain ⟨b', off', e, _, h, _⟩ := hx.cell hk
      cases e; exact h
    have := run_copy_cells (P := Try.prog) w 25 25 ty 43 B 0 m dc ⟨b, off, none⟩ n sc (xs.map (Value.int .u64)) Try.underlying25 size_u64 (by rw [List.length_map, hl]; exact (Nat.min_eq_left hn).symm) ?_ ?_ ?_ ?_
    · rw [List.length_map, hl] at this
      refine ⟨_, this, ?_, but_setCells _ _ _⟩
      have r := rowAt_setCells xs 0 zs w hB (by omega)
      rw [List.take_zero, List.nil_append, Nat.zero_add, hl] at r
      exact r
    · intro j v hj
      have hj' : j < n := by
        by_cases hlt : j < n
        · exact hlt
        · have : (xs.map (Value.int .u64))[j]? = none := by simp; omega
          rw [this] at hj; cases hj
      have e : (xs.map (Value.int .u64))[j]? = some (.int .u64 (xs.getD j 0)) := by simp [List.getD, show j < xs.length by omega]
      rw [e] at hj
      cases hj
      have hadd : (⟨b, off, none⟩ : Addr).add j = ⟨b, off + j, none⟩ := by unfold Addr.add; split <;> simp_all
      rw [hadd]
      exact hc j hj'
    · intro j hj
      rw [List.length_map, hl] at hj
      rw [Nat.zero_add, hB.cell (k := j) (by omega)]
      rfl
    · intro j _
      exact hB.free (0 + j)
    · intro v hv
      obtain ⟨z, _, rfl⟩ := List.mem_map.1 hv
      rfl
/-- Block B, all else as it was: as Below. -/
theorem But.below {w w' : World} {B : Nat} (h : But w w' B) {H : Nat} (hB : H ≤ B) (hs : H ≤ w.heap.size) : Below H w w' := h.b H hB hs
end Go.Proofs.Ytcfmiflhhjoofaa
