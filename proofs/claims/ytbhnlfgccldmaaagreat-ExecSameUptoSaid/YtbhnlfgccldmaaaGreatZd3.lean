/- Put together by program (merge.py): Vec2 Vec3 Refe2 Vecc But. -/
import Derived.Test.YtbhnlfgccldmaaaGreatZd2
/- vec.Same. -/
namespace Go.Proofs.YtbhnlfgccldmaaaGreat
open Go.ChangeShapes Go.WideShapes Go.ChangeAt Go.RowKit
set_option linter.unusedVariables false

end Go.Proofs.YtbhnlfgccldmaaaGreat
/- vec.Rev, vec.Turn. -/
namespace Go.Proofs.YtbhnlfgccldmaaaGreat
open Go.ChangeShapes Go.WideShapes Go.ChangeAt Go.RowKit
set_option linter.unusedVariables false

/-- The first number, then the others from the last one on. -/
def revl (xs : List Int) : List Int := (List.range xs.length).map fun j => fm (xs.getD ((xs.length - j) % xs.length) 0)
theorem revl_len (xs : List Int) : (revl xs).length = xs.length := by unfold revl; simp
theorem revl_at (xs : List Int) (j : Nat) (h : j < xs.length) : (revl xs).getD j 0 = fm (xs.getD ((xs.length - j) % xs.length) 0) := by
  unfold revl; simp [List.getD, h]
theorem back_back (n k : Nat) (h : k < n) : (n - (n - k) % n) % n = k := by
  by_cases h0 : k = 0
  · subst h0; simp
  · rw [Nat.mod_eq_of_lt (a := n - k) (by omega), show n - (n - k) = k from by omega, Nat.mod_eq_of_lt h]
theorem back_lt (n k : Nat) (h : k < n) : (n - k) % n < n := Nat.mod_lt _ (by omega)

theorem done_step (n k m : Nat) (hm : m < n) (hb : (n - m) % n = k) : ∀ j, j < n → decide ((n - j) % n < k + 1) = (decide ((n - j) % n < k) || j == m) := by
  intro j hj
  have e1 := back_back n j hj
  have e2 := back_back n m hm
  rw [hb] at e2
  by_cases h : (n - j) % n = k
  · have : j = m := by rw [h] at e1; omega
    subst this
    simp [h]
  · have hne : j ≠ m := fun e => h (by rw [e]; exact hb)
    have : (j == m) = false := by simpa using hne
    rw [this, Bool.or_false]
    congr 1
    simp only [eq_iff_iff]
    omega

set_option maxRecDepth 100000 in
theorem vec_rev (p : Option Addr) (c : Nat) (xs : List Int) (w : World) (hr : Reads .u64 w p xs) (hwf : ∀ x ∈ xs, (Lit.int .u64 x).wf = true) (hlen : xs.length ≤ 35184372088832) :
    Calls Tryz.prog 199 #[.slice p xs.length c] w fun e w' => e = .returned (.slice (some ⟨w.heap.size, 0, none⟩) xs.length xs.length) ∧ RowAt w' w.heap.size 62 (revl xs) ∧ Below w.heap.size w w' := by
  have hl := revl_len xs
  have ha := revl_at xs
  obtain ⟨n, hn⟩ : ∃ n, xs.length = n := ⟨_, rfl⟩
  rw [hn] at hlen hl ha ⊢
  have HN := Lib.hid hn
  have hmk := make_u64 n hlen
  have HL := Lib.hid hl
  have HA := Lib.hid ha
  have HW := Lib.hid hwf
  have HR := Lib.hid hr
  clear hn hwf hr hl ha
  go_enter Tryz.func199, Tryz.ntmps199
  go_wp2_with fail
  go_loopw [11] (fun i wr => ∃ k : Nat, k ≤ n ∧ i = .int .i64 k ∧ Hid (PF wr w.heap.size 62 (revl xs) (fun j => decide ((n - j) % n < k)) n) ∧ Below w.heap.size w wr) (fun i _ => n - (intOf i).toNat)
  case atStart => exact ⟨0, Nat.zero_le _, rfl, Lib.hid (PF.start w _ _ _ n (fun j _ => by simp)), (Below.refl _ _).alloc (Nat.le_refl _) _⟩
  case round =>
    obtain ⟨k, hk, rfl, HFL, hB⟩ := hrel
    have hsz := HFL.out.lt
    by_cases hlt : k < n
    · rcases HR.out with hnil | ⟨b, off, rfl, hb, hcell⟩
      · have := HN.out; rw [hnil] at this; simp at this; omega
      · have hc0 := hcell k (by rw [HN.out]; exact hlt)
        obtain ⟨g0, g1⟩ := words_at HW.out k (by rw [HN.out]; exact hlt)
        have HS := Lib.hid ((HA.out ((n - k) % n) (back_lt n k hlt)).trans (by rw [back_back n k hlt]))
        have hML := back_lt n k hlt
        have hBB := Lib.hid (back_back n k hlt)
        have hmod : ((n : Int) - (k : Int)).tmod (n : Int) = (((n - k) % n : Nat) : Int) := by
          rw [show ((n : Int) - (k : Int)) = ((n - k : Nat) : Int) from by omega]; rfl
        generalize (n - k) % n = m at *
        have hw1 : IntKind.i64.wrap ((n : Int) - (k : Int)) = (n : Int) - (k : Int) := IntWalk.i64_in _ (by omega)
        have hnz : ((n : Int) == 0) = false := by simp; omega
        have hnz2 : ¬ ((n : Int) = 0) := by omega
        have hnz3 : ¬ (n = 0) := by omega
        have hm0 : (0 : Int) ≤ (m : Int) := by omega
        have hm1 : (m : Int) < (n : Int) := by omega
        clear hcell
        generalize xs.getD k 0 = x at *
        have hc : wr.cell? ⟨b, off + k, none⟩ = some (.int .u64 x) := (hB.cell (p := ⟨b, off + k, none⟩) hb).trans hc0
        clear hc0
        obtain ⟨u, hu⟩ := HFL.out.cell hML
        have hfr := HFL.out.free m
        go_wp2_with fail
        go_region_held3 (fun w' => Below w.heap.size w w') (first | exact hB.drew | assumption | exact (hB.setCell (Nat.le_refl _) _).drew) (first | (go_at_call 121; (with_reducible refine (gold_red _ _ g0 g1).mono ?_); rintro e w' ⟨rfl, rfl⟩))
        go_wp2_with fail
        go_roundw
        case rel => exact ⟨k + 1, by omega, by go_num, Lib.hid (HFL.out.step (done_step n k m hML hBB.out) HS.out), (hB.setCell (Nat.le_refl _) _).drew⟩
        case measure => (first | (simp [intOf]; done) | (simp [intOf]; omega) | (simp only [intOf]; omega))
    · obtain rfl : k = n := by omega
      go_wp2_with fail
      go_ret
      exact ⟨rfl, HFL.out.done HL.out (fun j hj => by simp; exact Nat.mod_lt _ (by omega)), hB⟩

/-- From place k on, around. -/
def turnl (xs : List Int) (k : Nat) : List Int := (List.range xs.length).map fun i => fm (xs.getD ((i + k) % xs.length) 0)
theorem turnl_len (xs : List Int) (k : Nat) : (turnl xs k).length = xs.length := by unfold turnl; simp
theorem turnl_at (xs : List Int) (k i : Nat) (h : i < xs.length) : (turnl xs k).getD i 0 = fm (xs.getD ((i + k) % xs.length) 0) := by
  unfold turnl; simp [List.getD, h]
end Go.Proofs.YtbhnlfgccldmaaaGreat
/- The document's own sums, products of two rows (dulcimerref05). -/
namespace Go.Proofs.YtbhnlfgccldmaaaGreat
open Go.ChangeShapes Go.WideShapes Go.ChangeAt Go.RowKit
set_option linter.unusedVariables false

theorem scl_at' (a : Int) (xs : List Int) (k : Nat) (h : k < xs.length) : (scl a xs).getD k 0 = fm (xs.getD k 0 * a) := by
  rw [scl_at a xs k h, Int.mul_comm]

end Go.Proofs.YtbhnlfgccldmaaaGreat
/- Layer 5's calls, as the laws meet them: every answer is a slice that reads as a list. -/
namespace Go.Proofs.YtbhnlfgccldmaaaGreat
open Go.ChangeShapes Go.WideShapes Go.ChangeAt Go.RowKit
set_option linter.unusedVariables false

theorem scl_one (xs : List Int) : scl 1 xs = redl xs := by unfold scl redl; simp
theorem redl_wf (xs : List Int) : ∀ z ∈ redl xs, (Lit.int .u64 z).wf = true := by rw [← scl_one]; exact scl_wf 1 xs

/-- What a slice of words is, for a callee: what it reads as, that each is in order, how many. -/
structure Row (w : World) (a : Option Addr) (n : Nat) (xs : List Int) : Prop where
  len : xs.length = n
  reads : Reads .u64 w a xs
  wf : ∀ x ∈ xs, (Lit.int .u64 x).wf = true
  small : n ≤ 17592186044415
theorem Row.below {w w' : World} {a : Option Addr} {n : Nat} {xs : List Int} (h : Row w a n xs) (hb : Below w.heap.size w w') : Row w' a n xs := ⟨h.len, h.reads.below hb, h.wf, h.small⟩
theorem Row.alloc {w : World} {a : Option Addr} {n : Nat} {xs : List Int} (h : Row w a n xs) (o : Obj) : Row (w.alloc o) a n xs := ⟨h.len, h.reads.alloc o, h.wf, h.small⟩
theorem Row.drew {w : World} {a : Option Addr} {n : Nat} {xs : List Int} (h : Row w a n xs) : Row w.drew a n xs := h.below (Below.refl _ _).drew
theorem Row.cell {w : World} {a : Option Addr} {n : Nat} {xs : List Int} (h : Row w a n xs) {k : Nat} (hk : k < n) : ∃ b off, a = some ⟨b, off, none⟩ ∧ b < w.heap.size ∧ w.cell? ⟨b, off + k, none⟩ = some (.int .u64 (xs.getD k 0)) ∧ 0 ≤ xs.getD k 0 ∧ xs.getD k 0 ≤ 18446744073709551615 := by
  rcases h.reads with hn | ⟨b, off, e, hb, hc⟩
  · have := h.len; rw [hn] at this; simp at this; omega
  · exact ⟨b, off, e, hb, hc k (by rw [h.len]; exact hk), words_at h.wf k (by rw [h.len]; exact hk)⟩
theorem Row.of_at {w : World} {B : Nat} {ys : List Int} (h : RowAt w B 62 ys) (hw : ∀ x ∈ ys, (Lit.int .u64 x).wf = true) {n : Nat} (hn : ys.length = n) (hs : n ≤ 17592186044415) : Row w (some ⟨B, 0, none⟩) n ys := ⟨hn, h.reads, hw, hs⟩

/-- The answer is a slice of n words that reads as ys; nothing that was there has turned. -/
def Gives (w : World) (n : Nat) (ys : List Int) (e : Ending) (w' : World) : Prop := ∃ a c, e = .returned (.slice a n c) ∧ Row w' a n ys ∧ Below w.heap.size w w'

theorem gives_at {w w' : World} {n : Nat} {ys : List Int} {e : Ending} (he : e = .returned (.slice (some ⟨w.heap.size, 0, none⟩) n n)) (h : RowAt w' w.heap.size 62 ys) (hb : Below w.heap.size w w') (hw : ∀ x ∈ ys, (Lit.int .u64 x).wf = true) (hn : ys.length = n) (hs : n ≤ 17592186044415) : Gives w n ys e w' :=
  ⟨_, _, he, Row.of_at h hw hn hs, hb⟩
theorem gives_own {w w' : World} {n B : Nat} {ys : List Int} {e : Ending} {v : Value} (he : e = .returned v) (h : Owns w' B 62 .u64 v ys) (hb : Below w.heap.size w w') (hw : ∀ x ∈ ys, (Lit.int .u64 x).wf = true) (hn : ys.length = n) (hs : n ≤ 17592186044415) : Gives w n ys e w' := by
  obtain ⟨a, c, hv, hr, _, _⟩ := h.shape
  exact ⟨a, c, by rw [he, hv, hn], ⟨hn, hr, hw, hs⟩, hb⟩

theorem c_red {w : World} {p : Option Addr} {n c : Nat} {xs : List Int} (h : Row w p n xs) : Calls Tryz.prog 88 #[.slice p n c] w (Gives w n (redl xs)) := by
  obtain ⟨rfl, hr, hw, hs⟩ := h
  refine (vec_red p c xs w hr hw (by omega)).mono fun e w' ⟨he, hq, hb⟩ => ?_
  rw [scl_one] at hq
  exact gives_at he hq hb (redl_wf xs) (redl_len xs) hs
theorem c_scale {w : World} {p : Option Addr} {n c : Nat} {xs : List Int} {a : Int} (h : Row w p n xs) (a0 : 0 ≤ a) (a1 : a ≤ 18446744073709551615) : Calls Tryz.prog 118 #[.slice p n c, .int .u64 a] w (Gives w n (scl a xs)) := by
  obtain ⟨rfl, hr, hw, hs⟩ := h
  exact (vec_scale a p c xs w a0 a1 hr hw (by omega)).mono fun e w' ⟨he, hq, hb⟩ => gives_at he hq hb (scl_wf a xs) (scl_len a xs) hs
/-- The answer is such a slice, and no error. -/
def GivesOk (w : World) (n : Nat) (ys : List Int) (e : Ending) (w' : World) : Prop := ∃ a c, e = .returned (.tuple #[.slice a n c, .int .i64 0]) ∧ Row w' a n ys ∧ Below w.heap.size w w'
theorem c_mul {w : World} {p q : Option Addr} {n c d : Nat} {xs ys : List Int} (h : Row w p n xs) (k : Row w q n ys) : Calls Tryz.prog 117 #[.slice p n c, .slice q n d] w (GivesOk w n (zmul xs ys)) := by
  obtain ⟨rfl, hr, hw, hs⟩ := h
  obtain ⟨kn, kr, kw, _⟩ := k
  exact (vec_mul p q c d xs ys w hr kr hw kw (by omega) kn.symm).mono fun e w' ⟨he, hq, hb⟩ => ⟨_, _, he, Row.of_at hq (zmul_wf xs ys) (zmul_len xs ys kn.symm) hs, hb⟩
/-- The same row twice. -/
theorem c_same {w : World} {p q : Option Addr} {n c d : Nat} {xs : List Int} (h : Row w p n xs) (k : Row w q n xs) : Calls Tryz.prog 17 #[.slice p n c, .slice q n d] w fun e w' => e = .returned (.bool true) ∧ Below w.heap.size w w' := by
  obtain ⟨rfl, hr, hw, hs⟩ := h
  obtain ⟨_, kr, kw, _⟩ := k
  have := r2_same p q c d xs xs w hr kr (by omega)
  rwa [decide_eq_true rfl] at this
theorem Row.of_isRow {w : World} {a : Option Addr} {n c : Nat} (h : IsRow .u64 w a n c) (hs : n ≤ 17592186044415) : ∃ xs, Row w a n xs := by
  obtain ⟨xs, hn, _, _, hr, hw⟩ := h
  exact ⟨xs, hn, hr, hw, hs⟩

end Go.Proofs.YtbhnlfgccldmaaaGreat
/- A row written in place; all the rest as it was. -/
namespace Go.Proofs.YtbhnlfgccldmaaaGreat
open Go.ChangeShapes Go.WideShapes Go.ChangeAt Go.RowKit
set_option linter.unusedVariables false
/-- What lay in w but for block B is as it was. -/
structure But (w w' : World) (B : Nat) : Prop where
  o : ∀ k, k < w.heap.size → k ≠ B → w'.heap[k]? = w.heap[k]?
  z : w.heap.size ≤ w'.heap.size
  b : ∀ H, H ≤ B → H ≤ w.heap.size → Below H w w'
theorem But.refl (w : World) (B : Nat) : But w w B := ⟨fun _ _ _ => rfl, Nat.le_refl _, fun _ _ _ => Below.refl _ _⟩
theorem But.trans {w w' w'' : World} {B : Nat} (h : But w w' B) (k : But w' w'' B) : But w w'' B :=
  ⟨fun j hj hB => (k.o j (by have := h.z; omega) hB).trans (h.o j hj hB), Nat.le_trans h.z k.z, fun H h1 h2 => (h.b H h1 h2).trans (k.b H h1 (by have := h.z; omega))⟩
theorem But.of_below {w w' : World} (B : Nat) (h : Below w.heap.size w w') : But w w' B := ⟨fun k hk _ => h.block k hk, h.size, fun _ _ h2 => h.mono h2⟩
theorem But.set (w : World) (B j : Nat) (v : Value) : But w (w.setCell ⟨B, j, none⟩ v) B := ⟨fun k _ hB => heap_setCell_other w ⟨B, j, none⟩ k v hB, by simp, fun H h1 _ => (Below.refl _ _).setCell h1 _⟩
theorem But.drew (w : World) (B : Nat) : But w w.drew B := But.of_below B (Below.refl _ _).drew
theorem But.heap {w w' : World} {B k : Nat} (h : But w w' B) (hk : k < w.heap.size) (hB : k ≠ B) : w'.heap[k]? = w.heap[k]? := h.o k hk hB
theorem Reads.but {w w' : World} {B : Nat} {k : IntKind} {a : Option Addr} {xs : List Int} (h : Reads k w a xs) (hb : But w w' B) (hne : ∀ x, a = some x → x.block ≠ B) : Reads k w' a xs := by
  rcases h with h | ⟨b, off, rfl, hlt, hc⟩
  · exact .inl h
  · refine .inr ⟨b, off, rfl, by have := hb.z; omega, fun i hi => ?_⟩
    rw [← hc i hi]
    exact World.cell?_of_block (hb.o b hlt (hne _ rfl))
theorem Row.but {w w' : World} {B : Nat} {a : Option Addr} {n : Nat} {xs : List Int} (h : Row w a n xs) (hb : But w w' B) (hne : ∀ x, a = some x → x.block ≠ B) : Row w' a n xs := ⟨h.len, h.reads.but hb hne, h.wf, h.small⟩
/-- One place written. -/
theorem RowAt.set {w : World} {B : Nat} {T : TypeId} {ys : List Int} (h : RowAt w B T ys) (k : Nat) (y : Int) : RowAt (w.setCell ⟨B, k, none⟩ (.int .u64 y)) B T (ys.set k y) := by
  unfold RowAt
  rw [heap_setCell_same w B k _ T _ h]
  congr 2
  rw [List.setIfInBounds_toArray]
  congr 1
  rw [List.map_set]
theorem RowAt.cell {w : World} {B : Nat} {T : TypeId} {ys : List Int} (h : RowAt w B T ys) {k : Nat} (hk : k < ys.length) : w.cell? ⟨B, k, none⟩ = some (.int .u64 (ys.getD k 0)) := by
  rw [cell_of_row w B k _ _ _ h]
  simp [List.getD, hk]
theorem RowAt.free {w : World} {B : Nat} {T : TypeId} {ys : List Int} (h : RowAt w B T ys) (j : Nat) : w.frozen? ⟨B, j, none⟩ = false := frozen_of_row w B j _ _ h
theorem RowAt.made (w : World) (T : TypeId) (n : Nat) : RowAt (w.alloc (.cells (Array.replicate n (.int .u64 0)) T)) w.heap.size T (List.replicate n 0) := by
  unfold RowAt; rw [heap_alloc_new]; simp
theorem RowAt.drew {w : World} {B : Nat} {T : TypeId} {ys : List Int} (h : RowAt w B T ys) : RowAt w.drew B T ys := h
/-- Block B holds just v. -/
def Bx (w : World) (B : Nat) (T : TypeId) (v : Value) : Prop := w.heap[B]? = some (.cells #[v] T (0, 0))
theorem Bx.cell {w : World} {B : Nat} {T : TypeId} {v : Value} (h : Bx w B T v) : w.cell? ⟨B, 0, none⟩ = some v := by rw [cell_of_row w B 0 _ _ _ h]; rfl
theorem Bx.lt {w : World} {B : Nat} {T : TypeId} {v : Value} (h : Bx w B T v) : B < w.heap.size := block_lt_of_cell h.cell
theorem Bx.but {w w' : World} {B C : Nat} {T : TypeId} {v : Value} (h : Bx w C T v) (hb : But w w' B) (hne : C ≠ B) : Bx w' C T v := (hb.o C h.lt hne).trans h
theorem Bx.new (w : World) (T : TypeId) (v : Value) (o : Obj) (h : o = .cells #[v] T) : Bx (w.alloc o) w.heap.size T v := by subst h; exact heap_alloc_new _ _
theorem Bx.alloc {w : World} {B : Nat} {T : TypeId} {v : Value} (h : Bx w B T v) (o : Obj) : Bx (w.alloc o) B T v := (Below.heap_alloc w o B h.lt).trans h
theorem getD_set_same {xs : List Int} {k : Nat} {y : Int} (h : k < xs.length) : (xs.set k y).getD k 0 = y := by simp [List.getD, h]
theorem getD_set_ne {xs : List Int} {k j : Nat} {y : Int} (h : j ≠ k) : (xs.set k y).getD j 0 = xs.getD j 0 := by
  simp only [List.getD]
  rw [List.getElem?_set_ne (fun e => h e.symm)]
end Go.Proofs.YtbhnlfgccldmaaaGreat
