/- Put together by program (merge.py): Vec2 Vec3 Refe2 Vecc But. -/
import Derived.Test.YtofgkhoemgimeaaD2
/- vec.Same. -/
namespace Go.Proofs.Ytofgkhoemgimeaa
open Go.ChangeShapes Go.WideShapes Go.ChangeAt Go.RowKit
set_option linter.unusedVariables false

end Go.Proofs.Ytofgkhoemgimeaa
/- vec.Rev, vec.Turn. -/
namespace Go.Proofs.Ytofgkhoemgimeaa
open Go.ChangeShapes Go.WideShapes Go.ChangeAt Go.RowKit
set_option linter.unusedVariables false

/-- The first number, then the others from the last one on. -/
def revl (xs : List Int) : List Int := (List.range xs.length).map fun j => fm (xs.getD ((xs.length - j) % xs.length) 0)
theorem revl_len (xs : List Int) : (revl xs).length = xs.length := by unfold revl; simp
theorem revl_at (xs : List Int) (j : Nat) (h : j < xs.length) : (revl xs).getD j 0 = fm (xs.getD ((xs.length - j) % xs.length) 0) := by
  unfold revl; simp [List.getD, h]
theorem back_back (n k : Nat) (h : k < n) : (n - (n - k) % n) % n = k := by
  by_cases h0 : k = 0
  · subst h0; simp
  · rw [Nat.mod_eq_of_lt (a := n - k) (by omega), show n - (n - k) = k from by omega, Nat.mod_eq_of_lt h]
theorem back_lt (n k : Nat) (h : k < n) : (n - k) % n < n := Nat.mod_lt _ (by omega)

theorem done_step (n k m : Nat) (hm : m < n) (hb : (n - m) % n = k) : ∀ j, j < n → decide ((n - j) % n < k + 1) = (decide ((n - j) % n < k) || j == m) := by
  intro j hj
  have e1 := back_back n j hj
  have e2 := back_back n m hm
  rw [hb] at e2
  by_cases h : (n - j) % n = k
  · have : j = m := by rw [h] at e1; omega
    subst this
    simp [h]
  · have hne : j ≠ m := fun e => h (by rw [e]; exact hb)
    have : (j == m) = false := by simpa using hne
    rw [this, Bool.or_false]
    congr 1
    simp only [eq_iff_iff]
    omega

/-- From place k on, around. -/
def turnl (xs : List Int) (k : Nat) : List Int := (List.range xs.length).map fun i => fm (xs.getD ((i + k) % xs.length) 0)
theorem turnl_len (xs : List Int) (k : Nat) : (turnl xs k).length = xs.length := by unfold turnl; simp
theorem turnl_at (xs : List Int) (k i : Nat) (h : i < xs.length) : (turnl xs k).getD i 0 = fm (xs.getD ((i + k) % xs.length) 0) := by
  unfold turnl; simp [List.getD, h]
/-- The place at which it begins. -/
def tpos (k : Int) (n : Nat) : Nat := (k % (n : Int)).toNat
theorem tpos_lt (k : Int) (n : Nat) (h : 0 < n) : tpos k n < n := by
  unfold tpos
  have h1 := Int.emod_lt_of_pos k (show (0 : Int) < (n : Int) by omega)
  have h0 := Int.emod_nonneg k (show (n : Int) ≠ 0 by omega)
  omega
theorem tpos_eq (k : Int) (n : Nat) (h : 0 < n) (hn : n ≤ 35184372088832) : wrap64 (k.tmod n + n) = k.tmod n + n ∧ (k.tmod (n : Int) + (n : Int)).tmod (n : Int) = (tpos k n : Int) := by
  have h1 := Int.emod_lt_of_pos k (show (0 : Int) < (n : Int) by omega)
  have h0 := Int.emod_nonneg k (show (n : Int) ≠ 0 by omega)
  have ht : k.tmod n = k % n ∨ k.tmod n = k % n - n := by
    rw [Int.tmod_eq_emod]
    split
    · left; omega
    · right; omega
  constructor
  · exact IntWalk.wrap64_in _ (by rcases ht with h | h <;> rw [h] <;> omega)
  · have hp : 0 ≤ k.tmod n + n := by rcases ht with h | h <;> rw [h] <;> omega
    rw [Int.tmod_eq_emod_of_nonneg hp, Int.add_emod_right]
    have e : k.tmod n % n = k % n := by
      rcases ht with h | h
      · rw [h, Int.emod_emod_of_dvd _ (Int.dvd_refl _)]
      · rw [h, Int.sub_emod_right, Int.emod_emod_of_dvd _ (Int.dvd_refl _)]
    rw [e]
    unfold tpos
    omega

end Go.Proofs.Ytofgkhoemgimeaa
/- The document's own sums, products of two rows (dulcimerref05). -/
namespace Go.Proofs.Ytofgkhoemgimeaa
open Go.ChangeShapes Go.WideShapes Go.ChangeAt Go.RowKit
set_option linter.unusedVariables false

theorem scl_at' (a : Int) (xs : List Int) (k : Nat) (h : k < xs.length) : (scl a xs).getD k 0 = fm (xs.getD k 0 * a) := by
  rw [scl_at a xs k h, Int.mul_comm]

theorem fsum_dot (xs ys : List Int) (k : Nat) (h : k < xs.length) (h' : xs.length = ys.length) : fm (fsum (zmul xs ys) k + fm (xs.getD k 0 * ys.getD k 0)) = fsum (zmul xs ys) (k + 1) := by
  rw [← zmul_at xs ys k h h', fsum_succ _ _ (by rw [zmul_len xs ys h']; exact h)]

end Go.Proofs.Ytofgkhoemgimeaa
/- Layer 5's calls, as the laws meet them: every answer is a slice that reads as a list. -/
namespace Go.Proofs.Ytofgkhoemgimeaa
open Go.ChangeShapes Go.WideShapes Go.ChangeAt Go.RowKit
set_option linter.unusedVariables false

theorem scl_one (xs : List Int) : scl 1 xs = redl xs := by unfold scl redl; simp
theorem redl_wf (xs : List Int) : ∀ z ∈ redl xs, (Lit.int .u64 z).wf = true := by rw [← scl_one]; exact scl_wf 1 xs

/-- What a slice of words is, for a callee: what it reads as, that each is in order, how many. -/
structure Row (w : World) (a : Option Addr) (n : Nat) (xs : List Int) : Prop where
  len : xs.length = n
  reads : Reads .u64 w a xs
  wf : ∀ x ∈ xs, (Lit.int .u64 x).wf = true
  small : n ≤ 17592186044415
theorem Row.below {w w' : World} {a : Option Addr} {n : Nat} {xs : List Int} (h : Row w a n xs) (hb : Below w.heap.size w w') : Row w' a n xs := ⟨h.len, h.reads.below hb, h.wf, h.small⟩
theorem Row.alloc {w : World} {a : Option Addr} {n : Nat} {xs : List Int} (h : Row w a n xs) (o : Obj) : Row (w.alloc o) a n xs := ⟨h.len, h.reads.alloc o, h.wf, h.small⟩
theorem Row.drew {w : World} {a : Option Addr} {n : Nat} {xs : List Int} (h : Row w a n xs) : Row w.drew a n xs := h.below (Below.refl _ _).drew
theorem Row.cell {w : World} {a : Option Addr} {n : Nat} {xs : List Int} (h : Row w a n xs) {k : Nat} (hk : k < n) : ∃ b off, a = some ⟨b, off, none⟩ ∧ b < w.heap.size ∧ w.cell? ⟨b, off + k, none⟩ = some (.int .u64 (xs.getD k 0)) ∧ 0 ≤ xs.getD k 0 ∧ xs.getD k 0 ≤ 18446744073709551615 := by
  rcases h.reads with hn | ⟨b, off, e, hb, hc⟩
  · have := h.len; rw [hn] at this; simp at this; omega
  · exact ⟨b, off, e, hb, hc k (by rw [h.len]; exact hk), words_at h.wf k (by rw [h.len]; exact hk)⟩
theorem Row.of_at {w : World} {B : Nat} {ys : List Int} (h : RowAt w B 108 ys) (hw : ∀ x ∈ ys, (Lit.int .u64 x).wf = true) {n : Nat} (hn : ys.length = n) (hs : n ≤ 17592186044415) : Row w (some ⟨B, 0, none⟩) n ys := ⟨hn, h.reads, hw, hs⟩

/-- The answer is a slice of n words that reads as ys; nothing that was there has turned. -/
def Gives (w : World) (n : Nat) (ys : List Int) (e : Ending) (w' : World) : Prop := ∃ a c, e = .returned (.slice a n c) ∧ Row w' a n ys ∧ Below w.heap.size w w'

theorem gives_at {w w' : World} {n : Nat} {ys : List Int} {e : Ending} (he : e = .returned (.slice (some ⟨w.heap.size, 0, none⟩) n n)) (h : RowAt w' w.heap.size 108 ys) (hb : Below w.heap.size w w') (hw : ∀ x ∈ ys, (Lit.int .u64 x).wf = true) (hn : ys.length = n) (hs : n ≤ 17592186044415) : Gives w n ys e w' :=
  ⟨_, _, he, Row.of_at h hw hn hs, hb⟩
theorem gives_own {w w' : World} {n B : Nat} {ys : List Int} {e : Ending} {v : Value} (he : e = .returned v) (h : Owns w' B 108 .u64 v ys) (hb : Below w.heap.size w w') (hw : ∀ x ∈ ys, (Lit.int .u64 x).wf = true) (hn : ys.length = n) (hs : n ≤ 17592186044415) : Gives w n ys e w' := by
  obtain ⟨a, c, hv, hr, _, _⟩ := h.shape
  exact ⟨a, c, by rw [he, hv, hn], ⟨hn, hr, hw, hs⟩, hb⟩

/-- The answer is such a slice, and no error. -/
def GivesOk (w : World) (n : Nat) (ys : List Int) (e : Ending) (w' : World) : Prop := ∃ a c, e = .returned (.tuple #[.slice a n c, .int .i64 0]) ∧ Row w' a n ys ∧ Below w.heap.size w w'
/-- The same row twice. -/
theorem c_same {w : World} {p q : Option Addr} {n c d : Nat} {xs : List Int} (h : Row w p n xs) (k : Row w q n xs) : Calls Try.prog 39 #[.slice p n c, .slice q n d] w fun e w' => e = .returned (.bool true) ∧ Below w.heap.size w w' := by
  obtain ⟨rfl, hr, hw, hs⟩ := h
  obtain ⟨_, kr, kw, _⟩ := k
  have := r2_same p q c d xs xs w hr kr (by omega)
  rwa [decide_eq_true rfl] at this
theorem c_sameb {w : World} {p q : Option Addr} {n m c d : Nat} {xs ys : List Int} {b : Bool} (h : Row w p n xs) (k : Row w q m ys) (hb : decide (xs = ys) = b) : Calls Try.prog 39 #[.slice p n c, .slice q m d] w fun e w' => e = .returned (.bool b) ∧ Below w.heap.size w w' := by
  obtain ⟨rfl, hr, hw, hs⟩ := h
  obtain ⟨rfl, kr, kw, _⟩ := k
  have := r2_same p q c d xs ys w hr kr (by omega)
  rwa [hb] at this
theorem Row.of_isRow {w : World} {a : Option Addr} {n c : Nat} (h : IsRow .u64 w a n c) (hs : n ≤ 17592186044415) : ∃ xs, Row w a n xs := by
  obtain ⟨xs, hn, _, _, hr, hw⟩ := h
  exact ⟨xs, hn, hr, hw, hs⟩

end Go.Proofs.Ytofgkhoemgimeaa
/- A row written in place; all the rest as it was. -/
namespace Go.Proofs.Ytofgkhoemgimeaa
open Go.ChangeShapes Go.WideShapes Go.ChangeAt Go.RowKit
set_option linter.unusedVariables false
/-- What lay in w but for block B is as it was. -/
structure But (w w' : World) (B : Nat) : Prop where
  o : ∀ k, k < w.heap.size → k ≠ B → w'.heap[k]? = w.heap[k]?
  z : w.heap.size ≤ w'.heap.size
  b : ∀ H, H ≤ B → H ≤ w.heap.size → Below H w w'
theorem But.refl (w : World) (B : Nat) : But w w B := ⟨fun _ _ _ => rfl, Nat.le_refl _, fun _ _ _ => Below.refl _ _⟩
theorem But.trans {w w' w'' : World} {B : Nat} (h : But w w' B) (k : But w' w'' B) : But w w'' B :=
  ⟨fun j hj hB => (k.o j (by have := h.z; omega) hB).trans (h.o j hj hB), Nat.le_trans h.z k.z, fun H h1 h2 => (h.b H h1 h2).trans (k.b H h1 (by have := h.z; omega))⟩
theorem But.of_below {w w' : World} (B : Nat) (h : Below w.heap.size w w') : But w w' B := ⟨fun k hk _ => h.block k hk, h.size, fun _ _ h2 => h.mono h2⟩
theorem But.set (w : World) (B j : Nat) (v : Value) : But w (w.setCell ⟨B, j, none⟩ v) B := ⟨fun k _ hB => heap_setCell_other w ⟨B, j, none⟩ k v hB, by simp, fun H h1 _ => (Below.refl _ _).setCell h1 _⟩
theorem But.drew (w : World) (B : Nat) : But w w.drew B := But.of_below B (Below.refl _ _).drew
theorem But.heap {w w' : World} {B k : Nat} (h : But w w' B) (hk : k < w.heap.size) (hB : k ≠ B) : w'.heap[k]? = w.heap[k]? := h.o k hk hB
theorem Reads.but {w w' : World} {B : Nat} {k : IntKind} {a : Option Addr} {xs : List Int} (h : Reads k w a xs) (hb : But w w' B) (hne : ∀ x, a = some x → x.block ≠ B) : Reads k w' a xs := by
  rcases h with h | ⟨b, off, rfl, hlt, hc⟩
  · exact .inl h
  · refine .inr ⟨b, off, rfl, by have := hb.z; omega, fun i hi => ?_⟩
    rw [← hc i hi]
    exact World.cell?_of_block (hb.o b hlt (hne _ rfl))
theorem Row.but {w w' : World} {B : Nat} {a : Option Addr} {n : Nat} {xs : List Int} (h : Row w a n xs) (hb : But w w' B) (hne : ∀ x, a = some x → x.block ≠ B) : Row w' a n xs := ⟨h.len, h.reads.but hb hne, h.wf, h.small⟩
/-- One place written. -/
theorem RowAt.set {w : World} {B : Nat} {T : TypeId} {ys : List Int} (h : RowAt w B T ys) (k : Nat) (y : Int) : RowAt (w.setCell ⟨B, k, none⟩ (.int .u64 y)) B T (ys.set k y) := by
  unfold RowAt
  rw [heap_setCell_same w B k _ T _ h]
  congr 2
  rw [List.setIfInBounds_toArray]
  congr 1
  rw [List.map_set]
theorem RowAt.cell {w : World} {B : Nat} {T : TypeId} {ys : List Int} (h : RowAt w B T ys) {k : Nat} (hk : k < ys.length) : w.cell? ⟨B, k, none⟩ = some (.int .u64 (ys.getD k 0)) := by
  rw [cell_of_row w B k _ _ _ h]
  simp [List.getD, hk]
theorem RowAt.free {w : World} {B : Nat} {T : TypeId} {ys : List Int} (h : RowAt w B T ys) (j : Nat) : w.frozen? ⟨B, j, none⟩ = false := frozen_of_row w B j _ _ h
theorem RowAt.made (w : World) (T : TypeId) (n : Nat) : RowAt (w.alloc (.cells (Array.replicate n (.int .u64 0)) T)) w.heap.size T (List.replicate n 0) := by
  unfold RowAt; rw [heap_alloc_new]; simp
theorem RowAt.drew {w : World} {B : Nat} {T : TypeId} {ys : List Int} (h : RowAt w B T ys) : RowAt w.drew B T ys := h
/-- Block B holds just v. -/
def Bx (w : World) (B : Nat) (T : TypeId) (v : Value) : Prop := w.heap[B]? = some (.cells #[v] T (0, 0))
theorem Bx.cell {w : World} {B : Nat} {T : TypeId} {v : Value} (h : Bx w B T v) : w.cell? ⟨B, 0, none⟩ = some v := by rw [cell_of_row w B 0 _ _ _ h]; rfl
theorem Bx.lt {w : World} {B : Nat} {T : TypeId} {v : Value} (h : Bx w B T v) : B < w.heap.size := block_lt_of_cell h.cell
theorem Bx.but {w w' : World} {B C : Nat} {T : TypeId} {v : Value} (h : Bx w C T v) (hb : But w w' B) (hne : C ≠ B) : Bx w' C T v := (hb.o C h.lt hne).trans h
theorem Bx.new (w : World) (T : TypeId) (v : Value) (o : Obj) (h : o = .cells #[v] T) : Bx (w.alloc o) w.heap.size T v := by subst h; exact heap_alloc_new _ _
theorem Bx.alloc {w : World} {B : Nat} {T : TypeId} {v : Value} (h : Bx w B T v) (o : Obj) : Bx (w.alloc o) B T v := (Below.heap_alloc w o B h.lt).trans h
theorem getD_set_same {xs : List Int} {k : Nat} {y : Int} (h : k < xs.length) : (xs.set k y).getD k 0 = y := by simp [List.getD, h]
theorem getD_set_ne {xs : List Int} {k j : Nat} {y : Int} (h : j ≠ k) : (xs.set k y).getD j 0 = xs.getD j 0 := by
  simp only [List.getD]
  rw [List.getElem?_set_ne (fun e => h e.symm)]
end Go.Proofs.Ytofgkhoemgimeaa
